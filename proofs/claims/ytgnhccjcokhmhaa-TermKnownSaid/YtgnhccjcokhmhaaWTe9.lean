/- Package term's Put. -/
import Derived.Test.YtgnhccjcokhmhaaWTe8
import Derived.Deep.DeepCutAuto
namespace Go.Proofs.Ytgnhccjcokhmhaa
open Go.RowKit Go.Maps

set_option maxHeartbeats 4000000 in
theorem Try.put_any (a b : Option Addr) (len cap len' cap' : Nat) (i : Int) (ts gs : List Tk) (w : World) (hA : TkSl w a len cap ts) (hB : TkSl w b len' cap' gs) :
    Calls Try.prog 29 #[.slice a len cap, .int .i64 i, .slice b len' cap'] w fun e w' => ToksR 50 (putE ts i gs) (putTs ts i gs) w e w' ∧ Below w.heap.size w w' := by
  have hl := fun w' (h : TkSl w' a len cap ts) => Try.look_any a len cap 4 ts w' h
  have HE : Hid (putE ts i gs = if lookE ts 4 = 0 then (if i < 0 ∨ (ts.length : Int) ≤ i then 2 else (if refE gs (kindAt ts i.toNat) = 0 then lookE (putTs ts i gs) 4 else refE gs (kindAt ts i.toNat))) else lookE ts 4) := rfl
  have hlen := hA.hlen
  have hlen' := hB.hlen
  generalize putE ts i gs = E at *
  by_cases hL : lookE ts 4 = 0
  · rw [hL] at hl
    have HE1 : Hid (E = if i < 0 ∨ (ts.length : Int) ≤ i then 2 else (if refE gs (kindAt ts i.toNat) = 0 then lookE (putTs ts i gs) 4 else refE gs (kindAt ts i.toNat))) := HE.out.trans (if_pos hL)
    clear HE
    by_cases hi : i < 0 ∨ (ts.length : Int) ≤ i
    · have HE2 : Hid (E = 2) := HE1.out.trans (if_pos hi)
      clear HE1
      have hi2 : i < 0 ∨ (len : Int) ≤ i := by rw [← hlen]; exact hi
      go_enter Try.func29, Try.ntmps29
      go_wp2_with fail
      refine (hl _ hA).mono ?_
      rintro e w1 ⟨⟨v, rfl, _, _⟩, hw1⟩
      clear hl hi
      by_cases hi3 : i < 0
      · go_wp2
        go_ret2
        rw [HE2.out]
        exact ⟨⟨_, rfl, fun h => absurd h (by decide), fun _ => rfl⟩, hw1⟩
      · have hi4 : (len : Int) ≤ i := by omega
        clear hi2
        go_wp2
        go_ret2
        rw [HE2.out]
        exact ⟨⟨_, rfl, fun h => absurd h (by decide), fun _ => rfl⟩, hw1⟩
    · have HE2 : Hid (E = if refE gs (kindAt ts i.toNat) = 0 then lookE (putTs ts i gs) 4 else refE gs (kindAt ts i.toNat)) := HE1.out.trans (if_neg hi)
      clear HE1
      obtain ⟨k, rfl⟩ : ∃ k : Nat, i = (k : Int) := ⟨i.toNat, by omega⟩
      rw [Int.toNat_natCast] at HE2
      have hkl : k < ts.length := by omega
      have hal := allP_len hL
      have hfl := frmAt_le hL hkl
      have hL5 := lookE_len hL
      have hka : k < (allP ts).length := by omega
      have hkd : kindAt ts k = (kp ((allP ts)[k])).k := by unfold kindAt; rw [List.getElem?_eq_getElem hka]; rfl
      have hfm : frmAt ts k = (kp ((allP ts)[k])).b := by unfold frmAt; rw [List.getElem?_eq_getElem hka]; rfl
      have HP : Hid (putTs ts (k : Int) gs = ts.take (frmAt ts k) ++ gs ++ ts.drop (k + 1)) := rfl
      generalize putTs ts (k : Int) gs = PT at *
      obtain ⟨x, rfl⟩ := hA.some_of (by omega)
      rw [hkd] at HE2
      rw [hfm] at HP hfl
      have hrf := fun w' (h : TkSl w' b len' cap' gs) => Try.refusal_any b len' cap' ((kp ((allP ts)[k])).k) gs w' h
      have HRL : Hid (refE gs ((kp ((allP ts)[k])).k) = 0 → gs.length ≤ 512) := fun h => lookE_len h
      clear hkd hfm
      have hal2 : (allP ts).length = len := by omega
      have HLK : Hid _ := hl
      clear hl
      have HLK2 : Hid (∀ w', TkSl w' (some x) len cap ts → Calls Try.prog 37 #[.slice (some x) len cap, .int .u8 4] w' fun e w'' => (∃ v, e = .returned (.tuple #[v, .int .i64 0]) ∧ ∃ a2 g2 cap2, v = .slice a2 len cap2 ∧ (∀ w'', (Instr.indexAt 53 (.slice a2 len cap2) (.int .i64 k)).run Try.prog w'' = .ok (.pointer (some ⟨g2, 3 * k, none⟩)) w'') ∧ w''.cell? ⟨g2, 3 * k, none⟩ = some (.int .u8 ((kp ((allP ts)[k])).k : Int)) ∧ w''.cell? ⟨g2, 3 * k + 1, none⟩ = some (.int .i64 ((kp ((allP ts)[k])).b : Int))) ∧ Below w'.heap.size w' w'') := by
        intro w' h
        refine (HLK.out w' h).mono ?_
        rintro e w'' ⟨⟨v, rfl, h0, _⟩, h2⟩
        exact ⟨⟨v, rfl, by
          obtain ⟨a2, g2, cap2, q1, q2, _⟩ := own_kp (h0 rfl) Try.underlying53 Try.sizeKp
          have hkm : k < ((allP ts).map kp).length := by rw [List.length_map]; exact hka
          have e0 := q2.c0 k hkm
          have e1 := q2.c1 k hkm
          rw [List.getElem_map] at e0 e1
          rw [hal2] at q1 q2
          exact ⟨a2, g2, cap2, q1, fun w'' => q2.idx len k w'' (by omega) (Nat.le_refl _), e0, e1⟩⟩, h2⟩
      clear HLK hal hal2
      have hlk := HLK2.out w hA
      clear HLK2
      generalize kp ((allP ts)[k]) = K at *
      obtain ⟨K0, K1, K2⟩ := K
      dsimp only at *
      generalize refE gs K0 = R at *
      have hkn : ¬ ((k : Int) < 0) := by omega
      have hkm : ¬ ((len : Int) ≤ (k : Int)) := by omega
      go_enter Try.func29, Try.ntmps29
      go_wp2_with fail
      refine hlk.mono ?_
      rintro e w1 ⟨⟨v, rfl, a2, g2, cap2, rfl, hix, hc0, hc1⟩, hw1⟩
      have hA1 := hA.up hw1
      have hB1 := hB.up hw1
      clear hlk
      go_wp2_with fail
      refine (hrf _ hB1).mono ?_
      rintro e w2 ⟨rfl, hw2⟩
      have hA2 := hA1.up hw2
      have hB2 := hB1.up hw2
      have hb2 := below_step hw1 hw2
      have hc1' := kept_cell hc1 hw2
      clear hrf hA1 hB1 hw2 hc0 hc1
      by_cases hR : R = 0
      · subst hR
        have HE3 : Hid (E = lookE PT 4) := HE2.out
        have hg5 := HRL.out rfl
        clear HE2 HRL
        have hcap := hA.hcap
        have hsl1 := fun w' => Try.cut_to x len cap K1 (by omega) w'
        have hsl2 := fun w' => Try.cut_from x len cap (k + 1) (by omega) w'
        have hwk : IntKind.i64.wrap ((k : Int) + 1) = ((k + 1 : Nat) : Int) := by rw [IntKind.wrap_i64]; omega
        have hP1 : ∀ w', Below w2.heap.size w2 w' → TkSl w' (some x) K1 cap (ts.take K1) := fun w' hb => by
          have h := (hA2.up hb).cut 0 K1 (Nat.zero_le _) (by omega)
          have e : (if cap = 0 then x else x.add (0 * 2)) = x := by split <;> simp [Addr.add]
          rw [e, Nat.sub_zero, Nat.sub_zero, List.drop_zero] at h
          exact h
        obtain ⟨y, hy⟩ : ∃ y, y = (if cap = k + 1 then x else x.add ((k + 1) * 2)) := ⟨_, rfl⟩
        rw [← hy] at hsl2
        have hP3 : ∀ w', Below w2.heap.size w2 w' → TkSl w' (some y) (len - (k + 1)) (cap - (k + 1)) (ts.drop (k + 1)) := fun w' hb => by
          have h := (hA2.up hb).cut (k + 1) len (by omega) (Nat.le_refl _)
          rw [← hy, List.take_of_length_le (by simp; omega)] at h
          exact h
        have hwh : ∀ w', Below w2.heap.size w2 w' → Calls Try.prog 44 #[.slice (some ⟨w'.heap.size, 0, none⟩) 3 3] (w'.alloc (.cells #[.slice (some x) K1 cap, .slice b len' cap', .slice (some y) (len - (k + 1)) (cap - (k + 1))] 22)) fun e w'' => ToksR 50 (lookE PT 4) PT (w'.alloc (.cells #[.slice (some x) K1 cap, .slice b len' cap', .slice (some y) (len - (k + 1)) (cap - (k + 1))] 22)) e w'' ∧ Below (w'.alloc (.cells #[.slice (some x) K1 cap, .slice b len' cap', .slice (some y) (len - (k + 1)) (cap - (k + 1))] 22)).heap.size (w'.alloc (.cells #[.slice (some x) K1 cap, .slice b len' cap', .slice (some y) (len - (k + 1)) (cap - (k + 1))] 22)) w'' := fun w' hb => by
          have hR := (MapKept.heap_alloc w' (.cells #[.slice (some x) K1 cap, .slice b len' cap', .slice (some y) (len - (k + 1)) (cap - (k + 1))] 22)).1
          have hbl : Below w2.heap.size w2 (w'.alloc (.cells #[.slice (some x) K1 cap, .slice b len' cap', .slice (some y) (len - (k + 1)) (cap - (k + 1))] 22)) := hb.alloc hb.size _
          have hj : joinP [⟨some x, K1, cap, ts.take K1⟩, ⟨b, len', cap', gs⟩, ⟨some y, len - (k + 1), cap - (k + 1), ts.drop (k + 1)⟩] = PT := by rw [HP.out]; simp [joinP]
          have h := Try.whole_any w'.heap.size [⟨some x, K1, cap, ts.take K1⟩, ⟨b, len', cap', gs⟩, ⟨some y, len - (k + 1), cap - (k + 1), ts.drop (k + 1)⟩] _ (fun j hj => by
            have hk2 : j < 3 := hj
            match j, hk2 with
            | 0, _ => exact (cell_row hR 0).trans rfl
            | 1, _ => exact (cell_row hR 1).trans rfl
            | 2, _ => exact (cell_row hR 2).trans rfl) ((Array.getElem?_eq_some_iff.1 hR).1) (fun p hp => by
            simp only [List.mem_cons, List.not_mem_nil, or_false] at hp
            rcases hp with rfl | rfl | rfl
            · exact hP1 _ hbl
            · exact hB2.up hbl
            · exact hP3 _ hbl) (by simp [joinP]; omega) (by simp)
          rw [hj] at h
          exact h
        clear hP1 hP3 hy hA2 hB2
        generalize lookE PT 4 = F at *
        generalize len - (k + 1) = L1 at *
        generalize cap - (k + 1) = C1 at *
        have hck : ((k + 1 : Nat) : Int) = ((k : Int) + 1) := by omega
        rw [hck] at hwk hsl2
        clear hck
        go_upto_region 9 with fail
        go_region_held3 (fun w' => w'.cell? ⟨g2, 3 * k + 1, none⟩ = some (.int .i64 (K1 : Int))) (first | (simp [go_sem, hc1']; done) | exact kept_cell hc1' (below_new w2 _).drew | exact kept_cell hc1' (below_step ((Below.refl _ w2).drew.alloc (Nat.le_refl _) _) hw4)) (first | (go_at_call 44; refine (hwh _ (Below.refl _ w2).drew).mono ?_; rintro e w4 ⟨⟨v, rfl, h0, h1⟩, hw4⟩))
        have hbq : Below w2.heap.size w2 (w2.drew.alloc (.cells #[.slice (some x) K1 cap, .slice b len' cap', .slice (some y) L1 C1] 22)) := (Below.refl _ w2).drew.alloc (Nat.le_refl _) _
        have hb4 := below_step hb2 hbq
        have hb5 := below_step hb4 hw4
        have HZ : Hid (F = 0 → w4.ownsRow w.heap.size 50 2 v PT.length (encT PT)) := fun h => owns_base (h0 h) hb4.size
        clear h0 hw4
        go_wp2
        go_ret2
        rw [HE3.out]
        exact ⟨⟨v, rfl, HZ.out, h1⟩, hb5⟩
      · have hR' : ((R : Int) != 0) = true := by simp; omega
        have HE3 : Hid (E = R) := HE2.out.trans (if_neg hR)
        go_wp2
        go_ret2
        rw [HE3.out]
        exact ⟨⟨_, rfl, fun h => absurd h hR, fun _ => rfl⟩, hb2⟩
  · have HE1 : Hid (E = lookE ts 4) := HE.out.trans (if_neg hL)
    generalize lookE ts 4 = L at *
    have hL' : ((L : Int) != 0) = true := by simp; omega
    go_enter Try.func29, Try.ntmps29
    go_wp2_with fail
    refine (hl _ hA).mono ?_
    rintro e w1 ⟨⟨v, rfl, _, _⟩, hw1⟩
    clear hl HE
    go_wp2
    go_ret2
    rw [HE1.out]
    exact ⟨⟨_, rfl, fun h => absurd h hL, fun _ => rfl⟩, hw1⟩
end Go.Proofs.Ytgnhccjcokhmhaa
