/- The document's Join; whether a text is blanks alone; Same; Places. -/
import Derived.Test.YtngajjffkbbaiaaDoorWLx9
namespace Go.Proofs.YtngajjffkbbaiaaDoor
open Go.RowKit Go.Maps

theorem mkB_app (l : Bytes) (x : ByteArray) : mkB l ++ x = mkB (l ++ x.toList) := by
  refine toList_inj ?_
  rw [mkB_toList, ByteArray.toList_eq, ByteArray.data_append, ByteArray.toList_eq]; simp [mkB]
theorem Tryd.rjoin_any (a : Option Addr) (len cap : Nat) (ts : List Wd) (w : World) (hS : WdSl w a len cap ts) (hsz : (joinL (txs ts)).length ≤ 140737488355328) :
    Calls Tryd.prog 13 #[.slice a len cap] w fun e w' => e = .returned (.string (mkB (joinL (txs ts)))) ∧ w' = w := by
  have HS : Hid (WdSl w a len cap ts) := hS
  have HL : Hid (ts.length = len) := hS.hlen
  have hbd := hS.bd
  have hcp := hS.hcap
  unfold maxLen at hbd
  have HZ : Hid ((joinL (txs ts)).length ≤ 140737488355328) := hsz
  clear hS hsz
  go_enter Tryd.func13, Tryd.ntmps13
  go_wp2
  go_loop [3, 4] (fun s i => ∃ k : Nat, k ≤ len ∧ i = .int .i64 k ∧ s = .string (mkB (joinL ((txs ts).take k)))) (fun _ i => len - (intOf i).toNat)
  case atStart => exact ⟨0, Nat.zero_le _, rfl, rfl⟩
  case round =>
    obtain ⟨k, hk, rfl, rfl⟩ := hrel
    by_cases hlt : k < len
    · have hkl : k < ts.length := by have := HL.out; omega
      obtain ⟨g, o, sh, hidx, hc0, hc1, hc2, hg, _⟩ := HS.out.at Tryd.underlying22 Tryd.sizeWd k hlt
      have hik := fun w => hidx len w hlt
      clear hidx
      have hle := joinL_take_le (txs ts) (k + 1)
      have HJ0 : Hid (k = 0 → joinL ((txs ts).take (k + 1)) = joinL ((txs ts).take k) ++ ts[k].tx.toList) := by
        intro h; subst h; rw [join_first hkl, List.take_zero]; rfl
      have HJ1 : Hid (0 < k → joinL ((txs ts).take (k + 1)) = joinL ((txs ts).take k) ++ 32 :: ts[k].tx.toList) := fun h => join_next hkl h
      generalize ts[k].so = so at *
      generalize ts[k].tx = x at *
      generalize ts[k].pl = pl at *
      generalize hj1 : joinL ((txs ts).take (k + 1)) = j1 at *
      generalize hj0 : joinL ((txs ts).take k) = j0 at *
      have HE : Hid (joinL ((txs ts).take (k + 1)) = j1) := hj1
      have hj1l : j1.length ≤ 140737488355328 := Nat.le_trans hle HZ.out
      clear hle hj0 hg
      by_cases h0 : 0 < k
      · have hj := HJ1.out h0
        have HJ : Hid ((mkB j0 ++ ({ data := #[32] } : ByteArray)) ++ x = mkB j1) := by
          show _ = _
          rw [hj, mkB_app, mkB_app]; congr 1; simp [ByteArray.toList_eq]
        have hlx : j1.length = j0.length + (1 + x.size) := by rw [hj, List.length_append, List.length_cons, tl_len]; omega
        have q1 : ¬ 9223372036854775807 < (mkB j0).size + 1 := by rw [mkB_size]; omega
        have q2 : ¬ 9223372036854775807 < (mkB j0).size + 1 + x.size := by rw [mkB_size]; omega
        clear hj hj1
        go_wp2
        go_round
        case rel => exact ⟨k + 1, by omega, by go_num, by rw [HE.out, ← HJ.out]⟩
        case measure => simp [intOf]; omega
      · have hk0 : k = 0 := by omega
        have hj := HJ0.out hk0
        have HJ : Hid (mkB j0 ++ x = mkB j1) := by
          show _ = _
          rw [hj, mkB_app]
        have hlx : j1.length = j0.length + x.size := by rw [hj, List.length_append, tl_len]
        have q1 : ¬ 9223372036854775807 < (mkB j0).size + x.size := by rw [mkB_size]; omega
        clear hj hj1 hk0
        go_wp2
        go_round
        case rel => exact ⟨k + 1, by omega, by go_num, by rw [HE.out, ← HJ.out]⟩
        case measure => simp [intOf]; omega
    · have HX : Hid (mkB (joinL ((txs ts).take k)) = mkB (joinL (txs ts))) := by
        show _ = _
        rw [List.take_of_length_le (by rw [txs_len]; have := HL.out; omega)]
      generalize mkB (joinL ((txs ts).take k)) = r at *
      go_wp2
      go_ret
      exact ⟨by rw [← HX.out]; rfl, rfl⟩
/-- Is a text of blanks alone? -/
theorem Tryd.blank_any (s : ByteArray) (w : World) (hs : s.size ≤ 10000000) :
    Calls Tryd.prog 16 #[.string s] w fun e w' => e = .returned (.bool (blankL s.toList)) ∧ w' = w := by
  obtain ⟨r, hr⟩ : ∃ r, blankL s.toList = r := ⟨_, rfl⟩
  have HR : Hid (blankL s.toList = r) := hr
  rw [hr]
  clear hr
  go_enter Tryd.func16, Tryd.ntmps16
  go_wp2
  go_loop [3] (fun i => ∃ k : Nat, k ≤ s.size ∧ i = .int .i64 k ∧ Hid (blankL (s.toList.take k) = true)) (fun i => s.size - (intOf i).toNat)
  case atStart => exact ⟨0, Nat.zero_le _, rfl, by show _ = _; simp [blankL]⟩
  case round =>
    obtain ⟨k, hk, rfl, HU⟩ := hrel
    by_cases hlt : k < s.size
    · rcases Bool.eq_false_or_eq_true ((s[k].toNat : Int) != 32) with hb | hb
      · have HX : Hid (r = false) := by
          show _ = _
          rw [← HR.out]; unfold blankL; rw [List.all_eq_false]
          refine ⟨s[k], List.mem_of_getElem? (tl_get s k hlt), ?_⟩
          intro e
          have e2 : s[k] = 32 := by simpa using e
          rw [e2] at hb; simp at hb
        go_wp2
        go_ret
        exact ⟨by rw [HX.out]; rfl, rfl⟩
      · have HX : Hid (blankL (s.toList.take (k + 1)) = true) := by
          show _ = _
          have e2 : s[k] = 32 := by have : s[k].toNat = 32 := by simp at hb; omega
                                    exact UInt8.toNat_inj.1 this
          unfold blankL
          rw [List.take_add_one, tl_get s k hlt, List.all_append]
          have := HU.out
          unfold blankL at this
          rw [this, e2]; rfl
        go_wp2
        go_round
        case rel => exact ⟨k + 1, by omega, by go_num, HX⟩
        case measure => simp [intOf]; omega
    · have HX : Hid (r = true) := by
        show _ = _
        have := HU.out
        rw [List.take_of_length_le (by rw [tl_len]; omega), HR.out] at this; exact this
      go_wp2
      go_ret
      exact ⟨by rw [HX.out]; rfl, rfl⟩
end Go.Proofs.YtngajjffkbbaiaaDoor
