/- Package guard: Check. -/
import Derived.Test.YtmnkkknkmbldhaaWGsC
namespace Go.Proofs.Ytmnkkknkmbldhaa
open Go.RowKit Go.Maps

theorem isB_iff {m : Nat} {r : Int} : isB m r = true ↔ r < 0 ∧ -(m : Int) ≤ r := by
  unfold isB
  simp only [Bool.and_eq_true, decide_eq_true_eq]
  omega
theorem may_all {p0 : Int} {nA nG nN : Nat} {N : List Gd} {gs : List Int} (hN : N.length = nN) (hG : gs.length = nG) (h1 : szMB p0 nA nG nN = true) (h2 : (∀ k, k < N.length → NdMay p0 nA N k) ∧ N.Nodup) (h3 : ∀ k, k < gs.length → isB nA (gs.getD k 0) = true ∨ (0 ≤ gs.getD k 0 ∧ gs.getD k 0 < (nN : Int))) : MayG p0 nA N gs := by
  unfold szMB at h1
  simp only [Bool.and_eq_true, decide_eq_true_eq] at h1
  obtain ⟨⟨a1, a2⟩, a3, a4, a5, a6⟩ := h1
  refine may_of a1 a2 a3 a4 (by omega) (by omega) h2.1 h2.2 fun k hk => ?_
  rcases h3 k hk with h | ⟨b1, b2⟩
  · exact .inl (isB_iff.1 h)
  · obtain ⟨i, hi⟩ : ∃ i : Nat, gs.getD k 0 = (i : Int) := ⟨(gs.getD k 0).toNat, by omega⟩
    have hil : i < N.length := by omega
    refine .inr ⟨i, hi, hil, N[i], List.getElem?_eq_getElem hil, ?_⟩
    have := (h2.1 i hil).1
    rw [List.getD_eq_getElem?_getD, List.getElem?_eq_getElem hil, Option.getD_some] at this
    omega
theorem may_sz {p0 : Int} {nA nG nN : Nat} {N : List Gd} {gs : List Int} (hN : N.length = nN) (hG : gs.length = nG) (h : MayG p0 nA N gs) : szMB p0 nA nG nN = true := by
  unfold szMB
  simp only [Bool.and_eq_true, decide_eq_true_eq]
  exact ⟨⟨h.p0, h.p8⟩, h.s1, h.s2, by have := h.len; omega, by have := h.few; omega⟩
theorem may_gs {p0 : Int} {nA nN : Nat} {N : List Gd} {gs : List Int} (hN : N.length = nN) (h : MayG p0 nA N gs) : ∀ k, k < gs.length → isB nA (gs.getD k 0) = true ∨ (0 ≤ gs.getD k 0 ∧ gs.getD k 0 < (nN : Int)) := fun k hk => by
  rcases h.gd (gs.getD k 0) (by simp [List.getD_eq_getElem?_getD, List.getElem?_eq_getElem hk]) with h | ⟨i, e, hi, _⟩
  · exact .inl (isB_iff.2 h)
  · exact .inr ⟨by omega, by omega⟩
set_option maxRecDepth 100000 in
set_option maxHeartbeats 4000000 in
theorem Try.gchk_any (p0 : Int) (aA : Option Addr) (nA cA : Nat) (aG : Option Addr) (nG cG : Nat) (aN : Option Addr) (nN cN : Nat) (N : List Gd) (gs : List Int) (w : World) (hN : NdSl w aN nN cN N) (hG : ZSl w aG nG cG gs) (hok : ∀ z ∈ gs, I64 z) (hNN : nN ≤ 1000000) :
    Calls Try.prog 23 #[.agg #[.int .i64 p0, .slice aA nA cA, .slice aG nG cG, .slice aN nN cN]] w (ChkR p0 nA N gs w) := by
  obtain ⟨Q, eQ⟩ : ∃ Q, Q = ChkR p0 nA N gs w := ⟨_, rfl⟩
  have H0 : Hid (∀ w', Below w.heap.size w w' → MayG p0 nA N gs → Q (.returned (.int .i64 0)) w') := fun w' hb h => by rw [eQ]; exact ⟨hb, 0, rfl, .inl ⟨rfl, h⟩⟩
  have H1 : Hid (∀ w', Below w.heap.size w w' → ¬ MayG p0 nA N gs → Q (.returned (.int .i64 12)) w') := fun w' hb h => by rw [eQ]; exact ⟨hb, 12, rfl, .inr ⟨rfl, h⟩⟩
  rw [← eQ]
  clear eQ
  have hlN := hN.hlen
  have hlG := hG.hlen
  have HB0 : Hid _ := below_new w (.cells #[.int .i64 p0, .slice aA nA cA, .slice aG nG cG, .slice aN nN cN] 48 (0, 0))
  have HA0 : Hid _ := aub_new w p0 aA nA cA aG nG cG aN nN cN
  obtain ⟨c0, c1, c2, c3⟩ := HA0.out
  have j1 := Try.gsized_any p0 aA nA cA aG nG cG aN nN cN (w.alloc (.cells #[.int .i64 p0, .slice aA nA cA, .slice aG nG cG, .slice aN nN cN] 48 (0, 0)))
  have J2 : Hid (∀ w', Below w.heap.size w w' → Calls Try.prog 40 #[.agg #[.int .i64 p0, .slice aA nA cA, .slice aG nG cG, .slice aN nN cN]] w' (NdsQ p0 nA N w')) := fun w' hb => Try.gnodes_any p0 aA nA cA aG nG cG aN nN cN N w' (hN.up hb) hNN
  have J3 : Hid (∀ w', Below w.heap.size w w' → Calls Try.prog 41 #[.agg #[.int .i64 p0, .slice aA nA cA, .slice aG nG cG, .slice aN nN cN]] w' (GdsQ nA nN gs w')) := fun w' hb => Try.gguards_any p0 aA nA cA aG nG cG aN nN cN gs w' (hG.up hb) hok
  have HS : Hid (szMB p0 nA nG nN = false → ¬ MayG p0 nA N gs) := fun h hm => by rw [may_sz hlN hlG hm] at h; cases h
  have HA : Hid (szMB p0 nA nG nN = true → ((∀ k, k < N.length → NdMay p0 nA N k) ∧ N.Nodup) → (∀ k, k < gs.length → isB nA (gs.getD k 0) = true ∨ (0 ≤ gs.getD k 0 ∧ gs.getD k 0 < (nN : Int))) → MayG p0 nA N gs) := fun h1 h2 h3 => may_all hlN hlG h1 h2 h3
  have HND : Hid (MayG p0 nA N gs → ((∀ k, k < N.length → NdMay p0 nA N k) ∧ N.Nodup)) := fun h => ⟨fun k hk => h.nd hk, h.once⟩
  have HGS : Hid (MayG p0 nA N gs → ∀ k, k < gs.length → isB nA (gs.getD k 0) = true ∨ (0 ≤ gs.getD k 0 ∧ gs.getD k 0 < (nN : Int))) := fun h => may_gs hlN h
  clear hN hG hok hlN hlG
  generalize szMB p0 nA nG nN = b1 at *
  cases b1 with
  | false =>
    have HE : Hid (∀ w', Below w.heap.size w w' → Q (.returned (.int .i64 12)) w') := fun w' hb => H1.out w' hb (HS.out rfl)
    clear H0 H1 HS HA HND HGS J2 J3
    go_enter Try.func23, Try.ntmps23
    go_wp2_with fail
    refine j1.mono ?_
    rintro e w2 ⟨rfl, hb2⟩
    have HE2 : Hid _ := HE.out w2 (below_step HB0.out hb2)
    clear hb2 HE j1
    go_wp2
    exact HE2.out
  | true =>
    go_enter Try.func23, Try.ntmps23
    go_wp2_with fail
    refine j1.mono ?_
    rintro e w2 ⟨rfl, hb2⟩
    have HB2 : Hid (Below w.heap.size w w2) := below_step HB0.out hb2
    have HA2 : Hid (AuB w2 w.heap.size p0 aA nA cA aG nG cG aN nN cN) := HA0.out.up hb2
    have j2 := J2.out w2 HB2.out
    clear c0 c1 c2 c3 hb2 j1 HA0 HB0 J2
    obtain ⟨c0, c1, c2, c3⟩ := HA2.out
    go_wp2_with fail
    refine j2.mono ?_
    rintro e w3 ⟨hb3, b2, rfl, hi2⟩
    have HB3 : Hid (Below w.heap.size w w3) := below_step HB2.out hb3
    have HA3 : Hid (AuB w3 w.heap.size p0 aA nA cA aG nG cG aN nN cN) := HA2.out.up hb3
    have j3 := J3.out w3 HB3.out
    have HI2 : Hid _ := hi2
    clear c0 c1 c2 c3 hb3 j2 HA2 HB2 J3 hi2
    obtain ⟨c0, c1, c2, c3⟩ := HA3.out
    cases b2 with
    | false =>
      have HE : Hid _ := H1.out w3 HB3.out (fun h => absurd (HI2.out.2 (HND.out h)) (by simp))
      clear H0 H1 HS HA HND HGS j3 HI2
      go_wp2
      exact HE.out
    | true =>
      go_wp2_with fail
      refine j3.mono ?_
      rintro e w4 ⟨hb4, b3, rfl, hi3⟩
      have HB4 : Hid (Below w.heap.size w w4) := below_step HB3.out hb4
      cases b3 with
      | false =>
        have HE : Hid _ := H1.out w4 HB4.out (fun h => absurd (hi3.2 (HGS.out h)) (by simp))
        clear H0 H1 HS HA HND HGS j3 HI2 hi3 hb4
        go_wp2
        exact HE.out
      | true =>
        have HE : Hid _ := H0.out w4 HB4.out (HA.out (by simp) (HI2.out.1 (by simp)) (hi3.1 (by simp)))
        clear H0 H1 HS HA HND HGS j3 HI2 hi3 hb4
        go_wp2
        exact HE.out
end Go.Proofs.Ytmnkkknkmbldhaa
