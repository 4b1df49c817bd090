/- The document's first word. -/
import Derived.Test.YtfipefbaabkdeaaGreatDoorWLx4
namespace Go.Proofs.YtfipefbaabkdeaaGreatDoor
open Go.RowKit Go.Maps

theorem ext_list (s : ByteArray) (f i : Nat) : (s.extract f i).toList = (s.toList.drop f).take (i - f) := by
  rw [ByteArray.toList_eq, ByteArray.toList_eq, Lib.extract_data]
theorem ext0 (s : ByteArray) (k : Nat) : (s.extract 0 k).toList = s.toList.take k := by rw [ext_list, List.drop_zero, Nat.sub_zero]
theorem sgR_len : ∀ x ∈ sgR, x.length ≤ 1000 := by decide
theorem pre_of_ext {x s : ByteArray} (h : ((s.extract 0 x.size).toList == x.toList) = true) : pre x.toList s.toList = true := by
  rw [ext0] at h; unfold pre; rw [tl_len]; simp at h ⊢; exact h.symm
theorem pre_not_ext {x s : ByteArray} (h : ((s.extract 0 x.size).toList == x.toList) = false) : pre x.toList s.toList = false := by
  rw [ext0] at h; unfold pre; rw [tl_len]; simp at h ⊢; exact fun e => h e.symm
theorem hit_here {s : Bytes} {ss : List Bytes} {k : Nat} {a : Bytes} (h : ss[k]? = some a) (hp : pre a s = true) : hitGo s (ss.drop k) = a := by
  obtain ⟨hk, e⟩ := List.getElem?_eq_some_iff.1 h
  rw [List.drop_eq_getElem_cons hk, e]; unfold hitGo; rw [if_pos hp]
theorem hit_next {s : Bytes} {ss : List Bytes} {k : Nat} {a : Bytes} (h : ss[k]? = some a) (hp : pre a s = false) : hitGo s (ss.drop k) = hitGo s (ss.drop (k + 1)) := by
  obtain ⟨hk, e⟩ := List.getElem?_eq_some_iff.1 h
  rw [List.drop_eq_getElem_cons hk, e]
  conv => lhs; unfold hitGo
  rw [if_neg (by rw [hp]; simp)]

set_option maxHeartbeats 1000000 in
theorem Tryz.rfirst_any (s : ByteArray) (w : World) (hs : s.size ≤ 10000000) :
    Calls Tryz.prog 68 #[.string s] w fun e w' => e = .returned (.string (mkB (firstL s.toList))) ∧ Below w.heap.size w w' := by
  go_enter Tryz.func68, Tryz.ntmps68
  go_wp2
  go_loop [3] (fun i => ∃ k : Nat, k ≤ s.size ∧ i = .int .i64 k ∧ Hid (upP s.toList k)) (fun i => s.size - (intOf i).toNat)
  case atStart => exact ⟨0, Nat.zero_le _, rfl, upP_zero _⟩
  case round =>
    obtain ⟨k, hk, rfl, HU⟩ := hrel
    by_cases hlt : k < s.size
    · rcases Bool.eq_false_or_eq_true (plnB s[k]) with hp | hp
      · have HP : Hid (upP s.toList (k + 1)) := upP_succ HU.out (tl_at hlt) hp
        go_wp2_with (go_at_call 90; refine (Tryz.rplain_any _ _).mono ?_; rintro e w' ⟨rfl, hw'⟩; obtain rfl := hw'.symm)
        go_round
        case rel => exact ⟨k + 1, by omega, by go_num, HP⟩
        case measure => simp [intOf]; omega
      · have HR : Hid (runN s.toList = k) := upP_stop HU.out (tl_at hlt) hp
        clear HU
        have hsz2 : (s.extract 0 k).size ≤ maxLen := by unfold maxLen; rw [ByteArray.size_extract]; omega
        have hSo := Tryz.rsort_any (s.extract 0 k) w hsz2
        rw [ext_list, List.drop_zero, Nat.sub_zero] at hSo
        clear hsz2
        by_cases h0 : 0 < k
        · rcases Bool.eq_false_or_eq_true (sortL (s.toList.take k)).2 with hok | hok
          · have HF : Hid (mkB (firstL s.toList) = s.extract 0 k) := by
              show _ = _
              unfold firstL
              rw [HR.out, if_pos (by simp [h0, hok]), ← ext0, mkB_of]
            rw [hok] at hSo
            clear hok
            generalize (sortL (s.toList.take k)).1 = so at *
            go_wp2_with (first | (go_at_call 90; refine (Tryz.rplain_any _ _).mono ?_; rintro e w' ⟨rfl, hw'⟩; obtain rfl := hw'.symm) | fail)
            refine hSo.mono ?_
            rintro e w1 ⟨rfl, hb⟩
            go_wp2
            go_ret
            exact ⟨by rw [HF.out]; rfl, hb⟩
          · have HF : Hid (mkB (firstL s.toList) = ⟨#[]⟩) := by
              show _ = _
              unfold firstL
              rw [HR.out, if_neg (by simp [hok]), if_neg (by omega)]; rfl
            rw [hok] at hSo
            clear hok
            generalize (sortL (s.toList.take k)).1 = so at *
            go_wp2_with (first | (go_at_call 90; refine (Tryz.rplain_any _ _).mono ?_; rintro e w' ⟨rfl, hw'⟩; obtain rfl := hw'.symm) | fail)
            refine hSo.mono ?_
            rintro e w1 ⟨rfl, hb⟩
            go_wp2_with fail
            refine (Tryz.rsigns_any w1).mono ?_
            rintro e w2 ⟨rfl, rfl⟩
            generalize (sgR.map fun l => Value.string (mkB l)).toArray = sgs
            have l1 : sgR.length = 17 := rfl
            rw [l1]
            clear l1
            have hk0 : ((k : Int) == 0) = false := by simp; omega
            go_wp2
            go_loopw [7] (fun i wr => i = .int .i64 0 ∧ Below w.heap.size w wr) (fun _ _ => 0)
            case atStart => exact ⟨rfl, below_step hb (below_new _ _)⟩
            case round =>
              obtain ⟨rfl, hbr⟩ := hrel
              go_wp2
              go_ret
              exact ⟨by rw [HF.out]; rfl, hbr⟩
        · have HK : Hid (k = 0) := by show _ = _; omega
          have hk0 : ((k : Int) == 0) = true := by simp; omega
          have HF : Hid (firstL s.toList = hitGo s.toList sgR) := by
            show _ = _
            unfold firstL
            rw [HR.out, HK.out, if_neg (by simp), if_pos rfl]
          have es : sortL (s.toList.take k) = (0, false) := by rw [HK.out, List.take_zero]; exact sort_nil
          rw [es] at hSo
          clear es
          go_wp2_with (first | (go_at_call 90; refine (Tryz.rplain_any _ _).mono ?_; rintro e w' ⟨rfl, hw'⟩; obtain rfl := hw'.symm) | fail)
          refine hSo.mono ?_
          rintro e w1 ⟨rfl, hb⟩
          go_wp2_with fail
          refine (Tryz.rsigns_any w1).mono ?_
          rintro e w2 ⟨rfl, hw2⟩
          have hS : StAt w2 w1.heap.size sgR := by rw [hw2]; exact StAt.new w1 sgR
          have hb2 : Below w.heap.size w w2 := by rw [hw2]; exact below_step hb (below_new _ _)
          clear hw2
          have l1 : sgR.length = 17 := rfl
          rw [l1]
          clear l1
          have HS : Hid (StAt w2 w1.heap.size sgR) := hS
          clear hS
          generalize w1.heap.size = g at *
          go_wp2
          go_loopw [7] (fun i wr => ∃ q : Nat, q ≤ 17 ∧ i = .int .i64 q ∧ Hid (firstL s.toList = hitGo s.toList (sgR.drop q)) ∧ ∃ n, wr = w2.drewN n) (fun i _ => 17 - (intOf i).toNat)
          case atStart => exact ⟨0, Nat.zero_le _, rfl, HF.out, 0, rfl⟩
          case round =>
            obtain ⟨q, hq, rfl, HU, m, rfl⟩ := hrel
            by_cases hlt : q < 17
            · have hck : w2.cell? ⟨g, q, none⟩ = some (.string (mkB (sgR.getD q []))) := HS.out.cell hlt
              have hik := Tryz.idxS g 17 q hlt
              have hgk0 : sgR[q]? = some (sgR.getD q []) := getD_get hlt
              have hxs : (mkB (sgR.getD q [])).size ≤ 1000 := by rw [mkB_size]; exact sgR_len _ (List.mem_of_getElem? hgk0)
              have hgk : Hid (sgR[q]? = some (mkB (sgR.getD q [])).toList) := by show _ = _; rw [mkB_toList]; exact hgk0
              clear hgk0
              generalize mkB (sgR.getD q []) = x at *
              by_cases h2 : x.size ≤ s.size
              · rcases Bool.eq_false_or_eq_true ((s.extract 0 x.size).toList == x.toList) with ht | ht
                · have HX : Hid (mkB (firstL s.toList) = x) := by
                    show _ = _
                    rw [HU.out, hit_here hgk.out (pre_of_ext ht), mkB_of]
                  go_wp2
                  go_quiet (fail)
                  go_wp2
                  go_ret
                  exact ⟨by rw [HX.out]; rfl, below_drewN hb2 _⟩
                · have HX : Hid _ := HU.out.trans (hit_next hgk.out (pre_not_ext ht))
                  go_wp2
                  go_quiet (fail)
                  go_wp2
                  go_roundw
                  case rel => exact ⟨q + 1, by omega, by go_num, HX, m + nq, rfl⟩
                  case measure => simp [intOf]; omega
              · have HX : Hid _ := HU.out.trans (hit_next hgk.out (pre_short (by rw [tl_len, tl_len]; omega)))
                go_wp2
                go_quiet (fail)
                go_wp2
                go_roundw
                case rel => exact ⟨q + 1, by omega, by go_num, HX, m + nq, rfl⟩
                case measure => simp [intOf]; omega
            · have HX : Hid (mkB (firstL s.toList) = ⟨#[]⟩) := by
                show _ = _
                obtain rfl : q = 17 := by omega
                rw [HU.out]; rfl
              go_wp2
              go_ret
              exact ⟨by rw [HX.out]; rfl, below_drewN hb2 _⟩
    · have HR : Hid (runN s.toList = k) := by
        show _ = _
        obtain rfl : k = s.size := by omega
        have := HU.out
        rw [← tl_len] at this ⊢
        exact upP_end this
      clear HU
      have hsz2 : (s.extract 0 k).size ≤ maxLen := by unfold maxLen; rw [ByteArray.size_extract]; omega
      have hSo := Tryz.rsort_any (s.extract 0 k) w hsz2
      rw [ext_list, List.drop_zero, Nat.sub_zero] at hSo
      clear hsz2
      by_cases h0 : 0 < k
      · rcases Bool.eq_false_or_eq_true (sortL (s.toList.take k)).2 with hok | hok
        · have HF : Hid (mkB (firstL s.toList) = s.extract 0 k) := by
            show _ = _
            unfold firstL
            rw [HR.out, if_pos (by simp [h0, hok]), ← ext0, mkB_of]
          rw [hok] at hSo
          clear hok
          generalize (sortL (s.toList.take k)).1 = so at *
          go_wp2_with (first | (go_at_call 90; refine (Tryz.rplain_any _ _).mono ?_; rintro e w' ⟨rfl, hw'⟩; obtain rfl := hw'.symm) | fail)
          refine hSo.mono ?_
          rintro e w1 ⟨rfl, hb⟩
          go_wp2
          go_ret
          exact ⟨by rw [HF.out]; rfl, hb⟩
        · have HF : Hid (mkB (firstL s.toList) = ⟨#[]⟩) := by
            show _ = _
            unfold firstL
            rw [HR.out, if_neg (by simp [hok]), if_neg (by omega)]; rfl
          rw [hok] at hSo
          clear hok
          generalize (sortL (s.toList.take k)).1 = so at *
          go_wp2_with (first | (go_at_call 90; refine (Tryz.rplain_any _ _).mono ?_; rintro e w' ⟨rfl, hw'⟩; obtain rfl := hw'.symm) | fail)
          refine hSo.mono ?_
          rintro e w1 ⟨rfl, hb⟩
          go_wp2_with fail
          refine (Tryz.rsigns_any w1).mono ?_
          rintro e w2 ⟨rfl, rfl⟩
          generalize (sgR.map fun l => Value.string (mkB l)).toArray = sgs
          have l1 : sgR.length = 17 := rfl
          rw [l1]
          clear l1
          have hk0 : ((k : Int) == 0) = false := by simp; omega
          go_wp2
          go_loopw [7] (fun i wr => i = .int .i64 0 ∧ Below w.heap.size w wr) (fun _ _ => 0)
          case atStart => exact ⟨rfl, below_step hb (below_new _ _)⟩
          case round =>
            obtain ⟨rfl, hbr⟩ := hrel
            go_wp2
            go_ret
            exact ⟨by rw [HF.out]; rfl, hbr⟩
      · have HK : Hid (k = 0) := by show _ = _; omega
        have hk0 : ((k : Int) == 0) = true := by simp; omega
        have HF : Hid (firstL s.toList = hitGo s.toList sgR) := by
          show _ = _
          unfold firstL
          rw [HR.out, HK.out, if_neg (by simp), if_pos rfl]
        have es : sortL (s.toList.take k) = (0, false) := by rw [HK.out, List.take_zero]; exact sort_nil
        rw [es] at hSo
        clear es
        go_wp2_with (first | (go_at_call 90; refine (Tryz.rplain_any _ _).mono ?_; rintro e w' ⟨rfl, hw'⟩; obtain rfl := hw'.symm) | fail)
        refine hSo.mono ?_
        rintro e w1 ⟨rfl, hb⟩
        go_wp2_with fail
        refine (Tryz.rsigns_any w1).mono ?_
        rintro e w2 ⟨rfl, hw2⟩
        have hS : StAt w2 w1.heap.size sgR := by rw [hw2]; exact StAt.new w1 sgR
        have hb2 : Below w.heap.size w w2 := by rw [hw2]; exact below_step hb (below_new _ _)
        clear hw2
        have l1 : sgR.length = 17 := rfl
        rw [l1]
        clear l1
        have HS : Hid (StAt w2 w1.heap.size sgR) := hS
        clear hS
        generalize w1.heap.size = g at *
        go_wp2
        go_loopw [7] (fun i wr => ∃ q : Nat, q ≤ 17 ∧ i = .int .i64 q ∧ Hid (firstL s.toList = hitGo s.toList (sgR.drop q)) ∧ ∃ n, wr = w2.drewN n) (fun i _ => 17 - (intOf i).toNat)
        case atStart => exact ⟨0, Nat.zero_le _, rfl, HF.out, 0, rfl⟩
        case round =>
          obtain ⟨q, hq, rfl, HU, m, rfl⟩ := hrel
          by_cases hlt : q < 17
          · have hck : w2.cell? ⟨g, q, none⟩ = some (.string (mkB (sgR.getD q []))) := HS.out.cell hlt
            have hik := Tryz.idxS g 17 q hlt
            have hgk0 : sgR[q]? = some (sgR.getD q []) := getD_get hlt
            have hxs : (mkB (sgR.getD q [])).size ≤ 1000 := by rw [mkB_size]; exact sgR_len _ (List.mem_of_getElem? hgk0)
            have hgk : Hid (sgR[q]? = some (mkB (sgR.getD q [])).toList) := by show _ = _; rw [mkB_toList]; exact hgk0
            clear hgk0
            generalize mkB (sgR.getD q []) = x at *
            by_cases h2 : x.size ≤ s.size
            · rcases Bool.eq_false_or_eq_true ((s.extract 0 x.size).toList == x.toList) with ht | ht
              · have HX : Hid (mkB (firstL s.toList) = x) := by
                  show _ = _
                  rw [HU.out, hit_here hgk.out (pre_of_ext ht), mkB_of]
                go_wp2
                go_quiet (fail)
                go_wp2
                go_ret
                exact ⟨by rw [HX.out]; rfl, below_drewN hb2 _⟩
              · have HX : Hid _ := HU.out.trans (hit_next hgk.out (pre_not_ext ht))
                go_wp2
                go_quiet (fail)
                go_wp2
                go_roundw
                case rel => exact ⟨q + 1, by omega, by go_num, HX, m + nq, rfl⟩
                case measure => simp [intOf]; omega
            · have HX : Hid _ := HU.out.trans (hit_next hgk.out (pre_short (by rw [tl_len, tl_len]; omega)))
              go_wp2
              go_quiet (fail)
              go_wp2
              go_roundw
              case rel => exact ⟨q + 1, by omega, by go_num, HX, m + nq, rfl⟩
              case measure => simp [intOf]; omega
          · have HX : Hid (mkB (firstL s.toList) = ⟨#[]⟩) := by
              show _ = _
              obtain rfl : q = 17 := by omega
              rw [HU.out]; rfl
            go_wp2
            go_ret
            exact ⟨by rw [HX.out]; rfl, below_drewN hb2 _⟩
end Go.Proofs.YtfipefbaabkdeaaGreatDoor
