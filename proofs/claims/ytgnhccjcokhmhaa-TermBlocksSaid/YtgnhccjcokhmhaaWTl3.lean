/- The law TermBlocks. -/
import Derived.Test.YtgnhccjcokhmhaaWTl2
namespace Go.Proofs.Ytgnhccjcokhmhaa
open Go.RowKit Go.Maps

theorem Try.termBlocks_long (a : Option Addr) (len cap : Nat) (w : World) (h : 150 < len) :
    Calls Try.prog 5 #[.slice a len cap] w fun e w' => e = .returned (.bool true) ∧ Below w.heap.size w w' := by
  have ha := Try.awake_any w
  have h1 : (150 : Int) < (len : Int) := by omega
  go_enter Try.func5, Try.ntmps5
  go_wp2_with fail
  refine ha.mono ?_
  rintro e w1 ⟨rfl, hw1⟩
  go_wp2
  go_ret
  exact ⟨rfl, hw1⟩
set_option maxHeartbeats 1000000 in
/-- No formula and no path. -/
theorem Try.termBlocks_none (a : Option Addr) (len cap : Nat) (ts : List Tk) (w : World) (hT : TkSl w a len cap ts) (h : len ≤ 150) (h4 : lookE ts 4 ≠ 0) :
    Calls Try.prog 5 #[.slice a len cap] w fun e w' => e = .returned (.bool true) ∧ Below w.heap.size w w' := by
  have ha := Try.awake_any w
  obtain ⟨h1, h3⟩ := look13 h4
  have hlt : ¬ 150 < len := by omega
  have hB := fun w' (h : TkSl w' a len cap ts) => Try.blocks_any a len cap ts w' h
  have hD := fun w' (h : TkSl w' a len cap ts) => Try.depths_any a len cap ts w' h
  have hC := fun w' (h : TkSl w' a len cap ts) => Try.check_any a len cap ts w' h
  have hP := fun w' (h : TkSl w' a len cap ts) => Try.path_any a len cap ts w' h
  generalize ((allP ts).map fun p => (p.frm : Int)) = zs at *
  generalize ((allP ts).map fun p => (p.dep : Int)) = ys at *
  generalize lookE ts 1 = E1 at *
  generalize lookE ts 3 = E3 at *
  generalize lookE ts 4 = E4 at *
  have h1' : ((E1 : Int) != 0) = true := by simp; omega
  have h3' : ((E3 : Int) != 0) = true := by simp; omega
  have h4' : ((E4 : Int) != 0) = true := by simp; omega
  go_enter Try.func5, Try.ntmps5
  go_wp2_with fail
  refine ha.mono ?_
  rintro e w1 ⟨rfl, hw1⟩
  go_wp2_with fail
  refine (hB _ (hT.up hw1)).mono ?_
  rintro e w2 ⟨⟨v2, rfl, _, _⟩, hw2⟩
  have hb2 := below_step hw1 hw2
  go_wp2_with fail
  refine (hD _ (hT.up hb2)).mono ?_
  rintro e w3 ⟨⟨v3, rfl, _, _⟩, hw3⟩
  have hb3 := below_step hb2 hw3
  go_wp2_with fail
  refine (hC _ (hT.up hb3)).mono ?_
  rintro e w4 ⟨rfl, hw4⟩
  have hb4 := below_step hb3 hw4
  go_wp2_with fail
  refine (hP _ (hT.up hb4)).mono ?_
  rintro e w5 ⟨rfl, hw5⟩
  have hb5 := below_step hb4 hw5
  go_wp2
  go_ret
  exact ⟨rfl, hb5⟩
set_option maxRecDepth 100000 in
set_option maxHeartbeats 4000000 in
/-- A formula or a path. -/
theorem Try.termBlocks_go (x : Addr) (len cap : Nat) (ts : List Tk) (w : World) (hT : TkSl w (some x) len cap ts) (h : len ≤ 150) (h4 : lookE ts 4 = 0) :
    Calls Try.prog 5 #[.slice (some x) len cap] w fun e w' => e = .returned (.bool true) ∧ Below w.heap.size w w' := by
  have hlen := hT.hlen
  have ha := Try.awake_any w
  have hal := allP_len h4
  have hB := fun w' (h : TkSl w' (some x) len cap ts) => Try.blocks_any (some x) len cap ts w' h
  have hD := fun w' (h : TkSl w' (some x) len cap ts) => Try.depths_any (some x) len cap ts w' h
  rw [h4] at hB hD
  have hzl : ((allP ts).map fun p => (p.frm : Int)).length = len := by simp; omega
  have hyl : ((allP ts).map fun p => (p.dep : Int)).length = len := by simp; omega
  have HZ : Hid (∀ k, k < len → ((allP ts).map fun p => (p.frm : Int)).getD k 0 = (frmAt ts k : Int)) := fun k hk => frm_ints (by omega)
  have HY : Hid (∀ k, k < len → ((allP ts).map fun p => (p.dep : Int)).getD k 0 = (depAt ts k : Int)) := fun k hk => dep_ints (by omega)
  generalize ((allP ts).map fun p => (p.frm : Int)) = zs at *
  generalize ((allP ts).map fun p => (p.dep : Int)) = ys at *
  obtain ⟨hl0, hlast⟩ := last_frm h4
  rw [hlen] at hl0 hlast
  have HPL : Hid (∀ i, i < len → _) := fun i hi => blocks_plain h4 i (by rw [hlen]; exact hi)
  obtain ⟨m, hm⟩ : ∃ m, m = len - 1 := ⟨_, rfl⟩
  have hw1 : IntKind.i64.wrap ((len : Int) - 1) = (m : Int) := by rw [IntKind.wrap_i64]; omega
  have hmlen : m < len := by omega
  have hzm : zs.getD m 0 = 0 := by rw [HZ.out m hmlen, hm, hlast]; rfl
  have HM : Hid (m = len - 1) := hm
  have hcap := hT.hcap
  have hlt : ¬ 150 < len := by omega
  have hTk : Hid (TkSl w (some x) len cap ts) := hT
  have hne0 : ((len : Int) == 0) = false := by rw [beq_eq_false_iff_ne]; omega
  clear hal hm hlast
  go_enter Try.func5, Try.ntmps5
  go_wp2_with fail
  refine ha.mono ?_
  rintro e w1 ⟨rfl, hw1'⟩
  go_wp2_with fail
  refine (hB _ (hT.up hw1')).mono ?_
  rintro e w2 ⟨⟨v2, rfl, hr2, _⟩, hw2⟩
  have hO2 := hr2 rfl
  have hb2 := below_step hw1' hw2
  clear hr2 hw2 hB hw1' ha
  go_wp2_with fail
  refine (hD _ (hT.up hb2)).mono ?_
  rintro e w3 ⟨⟨v3, rfl, hr3, _⟩, hw3⟩
  have hO3 := hr3 rfl
  have hb3 := below_step hb2 hw3
  have hO23 := owns_up hO2 hw3
  clear hr3 hw3 hD hO2 hb2
  rw [hzl] at hO23
  rw [hyl] at hO3
  obtain ⟨a4, cap4, rfl, hI4, _⟩ := ownI_sl hO23 Try.underlying25 Try.sizeInt
  obtain ⟨a5, cap5, rfl, hI5, _⟩ := ownI_sl hO3 Try.underlying25 Try.sizeInt
  have hixm := fun w' => hI4.idx len m w' hmlen (Nat.le_refl _)
  have hcm := hI4.cell m hmlen
  rw [hzm] at hcm
  have HI4 : Hid (IntSl _ _ _ _ _ _ _ _) := hI4
  have HI5 : Hid (IntSl _ _ _ _ _ _ _ _) := hI5
  clear hO23 hO3 hI4 hI5 hzm
  go_wp2
  clear hixm hcm
  go_loopw [8] (fun j wr => ∃ k : Nat, k ≤ len ∧ j = .int .i64 k ∧ Hid (Below w3.heap.size w3 wr)) (fun j _ => len - (intOf j).toNat)
  case atStart => exact ⟨0, Nat.zero_le _, rfl, Below.refl _ _⟩
  case round =>
    obtain ⟨k, hk, rfl, hbk⟩ := hrel
    by_cases hkl : k < len
    · have hI4 := HI4.out.up hbk.out
      have hI5 := HI5.out.up hbk.out
      have hixF := fun w' => hI4.idx len k w' hkl (Nat.le_refl _)
      have hcF := hI4.cell k hkl
      have hixD := fun w' => hI5.idx len k w' hkl (Nat.le_refl _)
      have hcD := hI5.cell k hkl
      have hixL := fun w' => hI5.idx len m w' hmlen (Nat.le_refl _)
      have hcL := hI5.cell m hmlen
      rw [HZ.out k hkl] at hcF
      rw [HY.out k hkl] at hcD
      rw [HY.out m hmlen] at hcL
      obtain ⟨hp1, hp2, hp3, hp4, hp5, hp6⟩ := HPL.out k hkl
      rw [hlen, ← HM.out] at hp2
      have HP4 : Hid (∀ j, frmAt ts k ≤ j → j < k → ((frmAt ts k : Nat) : Int) ≤ zs.getD j 0) := fun j h1 h2 => by rw [HZ.out j (by omega)]; have := hp4 j h1 h2; omega
      have HFZ : Hid (zs.getD k 0 = ((frmAt ts k : Nat) : Int)) := HZ.out k hkl
      have hTw := hTk.out.up (below_step hb3 hbk.out)
      have hsl := fun w' => Try.cut_lr x len cap (frmAt ts k) (k + 1) (by omega) (by omega) w'
      have hwk : IntKind.i64.wrap ((k : Int) + 1) = ((k + 1 : Nat) : Int) := by rw [IntKind.wrap_i64]; omega
      have hTp : Hid (TkSl _ _ _ _ _) := hTw.cut (frmAt ts k) (k + 1) (by omega) (by omega)
      generalize ((ts.drop (frmAt ts k)).take (k + 1 - frmAt ts k)) = ps at *
      generalize depAt ts k = D at *
      generalize depAt ts m = DL at *
      generalize frmAt ts k = F at *
      generalize k + 1 - F = L1 at *
      generalize cap - F = C1 at *
      generalize (if cap = F then x else x.add (F * 2)) = y at *
      have hck : ((k + 1 : Nat) : Int) = ((k : Int) + 1) := by omega
      rw [hck] at hwk hsl
      clear hck hp4
      have hF0 : ¬ ((F : Int) < 0) := by omega
      have hFk : ¬ ((k : Int) < (F : Int)) := by omega
      have hDD : ¬ ((DL : Int) < (D : Int)) := by omega
      have hC := fun w' (h : TkSl w' (some y) L1 C1 ps) => Try.check_any (some y) L1 C1 ps w' h
      have hP := fun w' (h : TkSl w' (some y) L1 C1 ps) => Try.path_any (some y) L1 C1 ps w' h
      have hU := fun w' (h : TkSl w' (some x) len cap ts) (h2 : TkSl w' (some y) L1 C1 ps) => Try.put_any (some x) (some y) len cap L1 C1 (k : Int) ts ps w' h h2
      rw [hp5, hp6] at hU
      obtain ⟨b, hq1, hq3⟩ : ∃ b : Bool, ((lookE ps 1 : Int) == 0) = b ∧ ((lookE ps 3 : Int) == 0) = !b := by
        rcases hp3 with ⟨e1, e3⟩ | ⟨e1, e3⟩
        · exact ⟨true, by rw [e1]; rfl, by simp; omega⟩
        · exact ⟨false, by simp; omega, by rw [e3]; rfl⟩
      generalize lookE ps 1 = E1 at *
      generalize lookE ps 3 = E3 at *
      clear hp3 hp5 hp6
      go_wp2_with fail
      go_quiet (fail)
      have hbq : Hid (Below w3.heap.size w3 (wr.drewN nq)) := below_drewN hbk.out nq
      have hTq : Hid (TkSl (wr.drewN nq) (some y) L1 C1 ps) := hTp.out.up (below_drewN (Below.refl _ _) nq)
      clear hTp hcD hcL hixD hixL hI4 hI5 hDD
      go_wp2_with fail
      refine (hC _ hTq.out).mono ?_
      rintro e w4 ⟨rfl, hw4⟩
      have hb4 : Hid (Below w3.heap.size w3 w4) := below_step hbq.out hw4
      have hT4 := hTq.out.up hw4
      clear hw4 hTq hbq hC
      go_wp2_with fail
      refine (hP _ hT4).mono ?_
      rintro e w5 ⟨rfl, hw5⟩
      have hb5 : Hid (Below w3.heap.size w3 w5) := below_step hb4.out hw5
      have hT5 : Hid (TkSl _ _ _ _ _) := hT4.up hw5
      clear hw5 hT4 hb4 hP
      have hbb : (b == !b) = false := by cases b <;> rfl
      clear hcF
      have hcF := (HI4.out.up hb5.out).cell k hkl
      rw [HFZ.out] at hcF
      go_wp2
      clear hcF hbb hq1 hq3
      go_loopw [10] (fun j w6 => ∃ n : Nat, F ≤ n ∧ n ≤ k ∧ j = .int .i64 n ∧ Hid (Below w5.heap.size w5 w6)) (fun j _ => k - (intOf j).toNat)
      case atStart => exact ⟨F, Nat.le_refl _, by omega, rfl, Below.refl _ _⟩
      case round =>
        obtain ⟨n, hFn, hnk, rfl, hb6⟩ := hrel
        have hb7 : Hid (Below w3.heap.size w3 wr) := below_step hb5.out hb6.out
        by_cases hn : n < k
        · have hI6 := HI4.out.up hb7.out
          have hnl : n < len := by omega
          have hixF := fun w' => hI6.idx len k w' hkl (Nat.le_refl _)
          have hcF := hI6.cell k hkl
          have hixN := fun w' => hI6.idx len n w' hnl (Nat.le_refl _)
          have hcN := hI6.cell n hnl
          rw [HFZ.out] at hcF
          have hge := HP4.out n hFn hn
          generalize zs.getD n 0 = Z at *
          have hZ : ¬ (Z < (F : Int)) := by omega
          clear hI6
          go_wp2_with fail
          go_quiet (fail)
          go_wp2
          go_roundw
          case rel => exact ⟨n + 1, by omega, by omega, by go_num, below_drewN hb6.out nq⟩
          case measure => simp [intOf]; omega
        · obtain rfl : n = k := by omega
          have hTx := hTk.out.up (below_step hb3 hb7.out)
          have hTy := hT5.out.up hb6.out
          go_wp2_with fail
          refine (hU _ hTx hTy).mono ?_
          rintro e w8 ⟨⟨v8, rfl, hr8, _⟩, hw8⟩
          have hO8 := hr8 rfl
          have hb8 : Hid (Below w3.heap.size w3 w8) := below_step hb7.out hw8
          clear hr8 hw8 hTy
          obtain ⟨a8, cap8, rfl, hT8, _⟩ := own_tk hO8 hTk.out.ok
          have hsm := Try.sameT_any _ _ _ _ _ _ _ _ _ hT8 (hTk.out.up (below_step hb3 hb8.out))
          have e1 : decide (ts = ts) = true := decide_eq_true rfl
          rw [e1] at hsm
          rw [hlen] at hsm
          clear hO8 hT8 e1 hU
          go_wp2_with fail
          refine hsm.mono ?_
          rintro e w9 ⟨rfl, hw9⟩
          have hb9 : Hid (Below w3.heap.size w3 w9) := below_step hb8.out hw9
          go_wp2
          go_roundw
          case rel => exact ⟨n + 1, by omega, by go_num, hb9⟩
          case measure => simp [intOf]; omega
    · obtain rfl : k = len := by omega
      go_wp2
      go_ret
      exact ⟨rfl, below_step hb3 hbk.out⟩
/-- The law, whatever the tokens. -/
theorem Try.termBlocks_any (a : Option Addr) (len cap : Nat) (ts : List Tk) (w : World) (hT : TkSl w a len cap ts) :
    Calls Try.prog 5 #[.slice a len cap] w fun e w' => e = .returned (.bool true) ∧ Below w.heap.size w w' := by
  by_cases hl : 150 < len
  · exact Try.termBlocks_long a len cap w hl
  · by_cases h4 : lookE ts 4 = 0
    · obtain ⟨h0, _⟩ := last_frm h4
      obtain ⟨x, rfl⟩ := hT.some_of (by rw [← hT.hlen]; exact h0)
      exact Try.termBlocks_go x len cap ts w hT (by omega) h4
    · exact Try.termBlocks_none a len cap ts w hT (by omega) h4
end Go.Proofs.Ytgnhccjcokhmhaa
