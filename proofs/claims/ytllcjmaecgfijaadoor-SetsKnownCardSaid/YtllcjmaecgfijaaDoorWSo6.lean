/- The library's sort at []uint64: choosePivot. -/
import Derived.Test.YtllcjmaecgfijaaDoorWSo5
namespace Go.Proofs.YtllcjmaecgfijaaDoor
open Go.RowKit Go.Maps
open Go.Sort (swp PermIn SortedIn)

/-- Block sb: a counter. -/
def CB (w : World) (sb s : Nat) : Prop := w.heap[sb]? = some (.cells #[.int .i64 (s : Int)] 3 (0, 0))
theorem CB.ne {w : World} {g sb s : Nat} {d : Array Int} {t : List Int} (h : CB w sb s) (k : SoAt w g d t) : g ≠ sb := fun e => by
  unfold CB at h
  unfold SoAt at k
  rw [← e, k] at h
  injection h with h
  injection h with _ h _
  exact absurd h (by decide)
theorem SoAt.grown {w w' : World} {g sb : Nat} {d : Array Int} {t : List Int} (h : SoAt w g d t) (hg : w.grownBy w' (some sb)) (hne : g ≠ sb) : SoAt w' g d t := (hg.block g h.lt (fun e => hne (by injection e))).trans h
set_option maxRecDepth 100000 in
theorem Tryd.order2_any (g c x y sb s : Nat) (d : Array Int) (t : List Int) (w : World) (h : SoAt w g d t) (hc : CB w sb s) (hx : x < d.size) (hy : y < d.size) (hs : s ≤ 1000) :
    Calls Tryd.prog 49 #[.slice (some ⟨g, 0, none⟩) d.size c, .int .i64 (x : Int), .int .i64 (y : Int), .pointer (some ⟨sb, 0, none⟩)] w fun e w' =>
      ∃ x' y' s' : Nat, e = .returned (.tuple #[.int .i64 (x' : Int), .int .i64 (y' : Int)]) ∧ (x' = x ∧ y' = y ∨ x' = y ∧ y' = x) ∧ s' ≤ s + 1 ∧ CB w' sb s' ∧ w.grownBy w' (some sb) := by
  have hi1 := fun w' => Tryd.idxSo g d.size c x w' hx
  have hi2 := fun w' => Tryd.idxSo g d.size c y w' hy
  have c1 := h.cell hx
  have c2 := h.cell hy
  have hless := fun w' => Tryd.less_any d[y]! d[x]! w'
  have HC : Hid (CB w sb s) := hc
  clear h hc
  generalize d.size = N at *
  generalize d[x]! = vx at *
  generalize d[y]! = vy at *
  cases hl : lt64 vy vx with
  | false =>
    rw [hl] at hless
    clear hl
    go_enter Tryd.func49, Tryd.ntmps49
    go_upto_region 15 with fail
    go_quiet ((go_at_call 38; exact Calls.quiet_of_same (hless _)))
    go_wp2
    go_ret2
    exact ⟨x, y, s, rfl, Or.inl ⟨rfl, rfl⟩, by omega, (below_drewN (Below.refl w.heap.size w) _).block sb (Array.getElem?_eq_some_iff.1 HC.out).1 |>.trans HC.out, grown_drewN (World.grownBy.refl _ _) _⟩
  | true =>
    rw [hl] at hless
    clear hl
    go_enter Tryd.func49, Tryd.ntmps49
    go_upto_region 15 with fail
    go_quiet ((go_at_call 38; exact Calls.quiet_of_same (hless _)))
    have hcb : CB (w.drewN nq) sb s := (below_drewN (Below.refl w.heap.size w) _).block sb (Array.getElem?_eq_some_iff.1 HC.out).1 |>.trans HC.out
    have q0 : (w.drewN nq).cell? ⟨sb, 0, none⟩ = some (.int .i64 (s : Int)) := cell_row hcb 0
    have z0 : (w.drewN nq).frozen? ⟨sb, 0, none⟩ = false := frozen_of_row _ sb 0 _ _ hcb
    have wS : IntKind.i64.wrap ((s : Int) + 1) = ((s + 1 : Nat) : Int) := by rw [IntKind.wrap_i64]; omega
    have HC2 : Hid (CB ((w.drewN nq).setCell ⟨sb, 0, none⟩ (.int .i64 ((s + 1 : Nat) : Int))) sb (s + 1)) := by
      show CB _ _ _
      unfold CB
      rw [heap_setCell_same _ sb 0 _ _ _ hcb]; rfl
    have HG2 : Hid (w.grownBy ((w.drewN nq).setCell ⟨sb, 0, none⟩ (.int .i64 ((s + 1 : Nat) : Int))) (some sb)) := grown_set (grown_drewN (World.grownBy.refl _ _) _) _
    obtain ⟨S1, hS1⟩ : ∃ S1, s + 1 = S1 := ⟨_, rfl⟩
    rw [hS1] at wS HC2 HG2
    have HS1 : Hid (s + 1 = S1) := hS1
    clear hcb c1 c2 hS1
    have eS : (s : Int) + 1 = (S1 : Int) := by have := HS1.out; omega
    go_wp2
    go_ret2
    exact ⟨y, x, S1, rfl, Or.inr ⟨rfl, rfl⟩, by have := HS1.out; omega, HC2.out, HG2.out⟩
set_option maxRecDepth 100000 in
theorem Tryd.median_any (g c x y z sb s : Nat) (d : Array Int) (t : List Int) (w : World) (h : SoAt w g d t) (hc : CB w sb s) (hx : x < d.size) (hy : y < d.size) (hz : z < d.size) (hs : s ≤ 100) :
    Calls Tryd.prog 47 #[.slice (some ⟨g, 0, none⟩) d.size c, .int .i64 (x : Int), .int .i64 (y : Int), .int .i64 (z : Int), .pointer (some ⟨sb, 0, none⟩)] w fun e w' =>
      ∃ m s' : Nat, e = .returned (.int .i64 (m : Int)) ∧ (m = x ∨ m = y ∨ m = z) ∧ s' ≤ s + 3 ∧ CB w' sb s' ∧ w.grownBy w' (some sb) := by
  have hne := hc.ne h
  have j1 := Tryd.order2_any g c x y sb s d t w h hc hx hy (by omega)
  have HS : Hid _ := h
  go_enter Tryd.func47, Tryd.ntmps47
  go_wp2_with fail
  refine j1.mono ?_
  rintro e w1 ⟨x1, y1, s1, rfl, hp1, hs1, hc1, hg1⟩
  have j2 := Tryd.order2_any g c y1 z sb s1 d t w1 (SoAt.grown HS.out hg1 hne) hc1 (by omega) hz (by omega)
  clear j1
  go_wp2_with fail
  refine j2.mono ?_
  rintro e w2 ⟨y2, z2, s2, rfl, hp2, hs2, hc2, hg2⟩
  have hg12 := grow_thenS hg1 hg2
  have j3 := Tryd.order2_any g c x1 y2 sb s2 d t w2 (SoAt.grown HS.out hg12 hne) hc2 (by omega) (by omega) (by omega)
  clear j2
  go_wp2_with fail
  refine j3.mono ?_
  rintro e w3 ⟨x3, y3, s3, rfl, hp3, hs3, hc3, hg3⟩
  have HF : Hid (CB w3 sb s3 ∧ w.grownBy w3 (some sb) ∧ (y3 = x ∨ y3 = y ∨ y3 = z) ∧ s3 ≤ s + 3) := ⟨hc3, grow_thenS hg12 hg3, by omega, by omega⟩
  clear j3 hc1 hc2 hc3 hg1 hg2 hg3 hg12 hp1 hp2 hp3 hs1 hs2 hs3
  go_wp2
  go_ret
  exact ⟨y3, s3, rfl, HF.out.2.2.1, HF.out.2.2.2, HF.out.1, HF.out.2.1⟩
set_option maxRecDepth 100000 in
theorem Tryd.medianAdj_any (g c x sb s : Nat) (d : Array Int) (t : List Int) (w : World) (h : SoAt w g d t) (hc : CB w sb s) (h1 : 1 ≤ x) (hx : x + 1 < d.size) (hs : s ≤ 100) (hn : d.size ≤ 1000000) :
    Calls Tryd.prog 46 #[.slice (some ⟨g, 0, none⟩) d.size c, .int .i64 (x : Int), .pointer (some ⟨sb, 0, none⟩)] w fun e w' =>
      ∃ m s' : Nat, e = .returned (.int .i64 (m : Int)) ∧ x - 1 ≤ m ∧ m ≤ x + 1 ∧ s' ≤ s + 3 ∧ CB w' sb s' ∧ w.grownBy w' (some sb) := by
  obtain ⟨x0, hx0⟩ : ∃ x0, x0 = x - 1 := ⟨_, rfl⟩
  obtain ⟨x1, hx1⟩ : ∃ x1, x1 = x + 1 := ⟨_, rfl⟩
  have j1 := Tryd.median_any g c x0 x x1 sb s d t w h hc (by omega) (by omega) (by omega) hs
  have w0 : IntKind.i64.wrap ((x : Int) - 1) = (x0 : Int) := by rw [IntKind.wrap_i64]; omega
  have e0 : (x : Int) - 1 = (x0 : Int) := by omega
  have w1 : IntKind.i64.wrap ((x : Int) + 1) = (x1 : Int) := by rw [IntKind.wrap_i64]; omega
  have e1 : (x : Int) + 1 = (x1 : Int) := by omega
  have HX : Hid (x0 = x - 1 ∧ x1 = x + 1) := ⟨hx0, hx1⟩
  clear h hc hx0 hx1
  go_enter Tryd.func46, Tryd.ntmps46
  go_wp2_with fail
  refine j1.mono ?_
  rintro e w2 ⟨m, s', rfl, hm, hs', hc', hg'⟩
  have HF : Hid (CB w2 sb s' ∧ w.grownBy w2 (some sb) ∧ x - 1 ≤ m ∧ m ≤ x + 1) := ⟨hc', hg', by have := HX.out; omega, by have := HX.out; omega⟩
  clear j1 hc' hg' hm
  go_wp2
  go_ret
  exact ⟨m, s', rfl, HF.out.2.2.1, HF.out.2.2.2, hs', HF.out.1, HF.out.2.1⟩
theorem grow_new {w w' : World} {o : Obj} (h : (w.alloc o).grownBy w' (some w.heap.size)) : w.grownBy w' none := by
  have hb := below_new w o
  exact ⟨h.os.trans hb.os, h.tape.trans hb.tape, h.output.trans hb.output, Nat.le_trans hb.size h.size, fun j hj _ => (h.block j (Nat.lt_of_lt_of_le hj hb.size) (fun e => by injection e with e; omega)).trans (hb.block j hj)⟩
theorem SoAt.grown0 {w w' : World} {g : Nat} {d : Array Int} {t : List Int} (h : SoAt w g d t) (hg : w.grownBy w' none) : SoAt w' g d t := (hg.block g h.lt (fun e => by cases e)).trans h
set_option maxRecDepth 100000 in
set_option maxHeartbeats 2000000 in
theorem Tryd.choose_any (g c a b : Nat) (d : Array Int) (t : List Int) (w : World) (h : SoAt w g d t) (hab : a + 12 < b) (hb : b ≤ d.size) (hn : d.size ≤ 1000000) :
    Calls Tryd.prog 35 #[.slice (some ⟨g, 0, none⟩) d.size c, .int .i64 (a : Int), .int .i64 (b : Int)] w fun e w' =>
      ∃ m k : Nat, e = .returned (.tuple #[.int .i64 (m : Int), .int .i64 (k : Int)]) ∧ a ≤ m ∧ m < b ∧ k ≤ 2 ∧ SoAt w' g d t ∧ w.grownBy w' none := by
  obtain ⟨L, hL⟩ : ∃ L, L = b - a := ⟨_, rfl⟩
  obtain ⟨T, hT⟩ : ∃ T, T = L / 4 := ⟨_, rfl⟩
  obtain ⟨T2, hT2⟩ : ∃ T2, T2 = T * 2 := ⟨_, rfl⟩
  obtain ⟨T3, hT3⟩ : ∃ T3, T3 = T * 3 := ⟨_, rfl⟩
  obtain ⟨I, hI⟩ : ∃ I, I = a + T := ⟨_, rfl⟩
  obtain ⟨J, hJ⟩ : ∃ J, J = a + T2 := ⟨_, rfl⟩
  obtain ⟨K, hK⟩ : ∃ K, K = a + T3 := ⟨_, rfl⟩
  have wL : IntKind.i64.wrap ((b : Int) - (a : Int)) = (L : Int) := by rw [IntKind.wrap_i64]; omega
  have eL : (b : Int) - (a : Int) = (L : Int) := by omega
  have tT : ((L : Int)).tdiv 4 = (T : Int) := by rw [Int.tdiv_eq_ediv_of_nonneg (by omega)]; omega
  have wT2 : IntKind.i64.wrap ((T : Int) * 2) = (T2 : Int) := by rw [IntKind.wrap_i64]; omega
  have eT2 : (T : Int) * 2 = (T2 : Int) := by omega
  have wT3 : IntKind.i64.wrap ((T : Int) * 3) = (T3 : Int) := by rw [IntKind.wrap_i64]; omega
  have eT3 : (T : Int) * 3 = (T3 : Int) := by omega
  have wI : IntKind.i64.wrap ((a : Int) + (T : Int)) = (I : Int) := by rw [IntKind.wrap_i64]; omega
  have eI : (a : Int) + (T : Int) = (I : Int) := by omega
  have wJ : IntKind.i64.wrap ((a : Int) + (T2 : Int)) = (J : Int) := by rw [IntKind.wrap_i64]; omega
  have eJ : (a : Int) + (T2 : Int) = (J : Int) := by omega
  have wK : IntKind.i64.wrap ((a : Int) + (T3 : Int)) = (K : Int) := by rw [IntKind.wrap_i64]; omega
  have eK : (a : Int) + (T3 : Int) = (K : Int) := by omega
  have h8 : ((8 : Int) ≤ (L : Int)) := by omega
  have HIJ : Hid (a ≤ I ∧ a ≤ J ∧ a ≤ K ∧ K + 1 < b ∧ J + 1 < b ∧ I + 1 < b ∧ (50 ≤ L → a + 1 ≤ I ∧ a + 1 ≤ J ∧ a + 1 ≤ K)) := by
    refine ⟨by omega, by omega, by omega, by omega, by omega, by omega, fun _ => ⟨by omega, by omega, by omega⟩⟩
  have hb1 := below_new w (.cells #[.int .i64 0] 3)
  have hs1 : SoAt (w.alloc (.cells #[.int .i64 0] 3)) g d t := (hb1.block g h.lt).trans h
  have hc1 : CB (w.alloc (.cells #[.int .i64 0] 3)) w.heap.size 0 := (MapKept.heap_alloc w _).1
  have hne := hc1.ne hs1
  have HS0 : Hid _ := h
  have HF : Hid (∀ (w' : World) (m k : Nat), (w.alloc (.cells #[.int .i64 0] 3)).grownBy w' (some w.heap.size) → a ≤ m → m < b → k ≤ 2 → ∃ m' k' : Nat, Ending.returned (.tuple #[.int .i64 (m : Int), .int .i64 (k : Int)]) = .returned (.tuple #[.int .i64 (m' : Int), .int .i64 (k' : Int)]) ∧ a ≤ m' ∧ m' < b ∧ k' ≤ 2 ∧ SoAt w' g d t ∧ w.grownBy w' none) := fun w' m k hg h1 h2 h3 => ⟨m, k, rfl, h1, h2, h3, h.grown0 (grow_new hg), grow_new hg⟩
  clear hL hT hT2 hT3 hI hJ hK
  have HIJ1 := HIJ.out
  by_cases h50 : 50 ≤ L
  · have h50' : ((50 : Int) ≤ (L : Int)) := by omega
    have j1 := Tryd.medianAdj_any g c I w.heap.size 0 d t _ hs1 hc1 (by omega) (by omega) (by omega) hn
    have HS1 : Hid (SoAt _ g d t) := hs1
    clear hs1 hc1 hb1 h
    go_enter Tryd.func35, Tryd.ntmps35
    go_wp2_with fail
    generalize w.alloc (.cells #[.int .i64 0] 3) = w1 at *
    refine j1.mono ?_
    rintro e w2 ⟨m2, s2, rfl, p2, q2, hs2, hc2, hg2⟩
    have j2 := Tryd.medianAdj_any g c J w.heap.size s2 d t w2 (SoAt.grown HS1.out hg2 hne) hc2 (by omega) (by omega) (by omega) hn
    clear j1
    go_wp2_with fail
    refine j2.mono ?_
    rintro e w3 ⟨m3, s3, rfl, p3, q3, hs3, hc3, hg3⟩
    have hg23 := grow_thenS hg2 hg3
    have j3 := Tryd.medianAdj_any g c K w.heap.size s3 d t w3 (SoAt.grown HS1.out hg23 hne) hc3 (by omega) (by omega) (by omega) hn
    clear j2
    go_wp2_with fail
    refine j3.mono ?_
    rintro e w4 ⟨m4, s4, rfl, p4, q4, hs4, hc4, hg4⟩
    have hg24 := grow_thenS hg23 hg4
    have j4 := Tryd.median_any g c m2 m3 m4 w.heap.size s4 d t w4 (SoAt.grown HS1.out hg24 hne) hc4 (by omega) (by omega) (by omega) (by omega)
    clear j3
    go_wp2_with fail
    refine j4.mono ?_
    rintro e w5 ⟨m5, s5, rfl, p5, hs5, hc5, hg5⟩
    have HZ : Hid (CB w5 w.heap.size s5 ∧ w1.grownBy w5 (some w.heap.size) ∧ a ≤ m5 ∧ m5 < b) := ⟨hc5, grow_thenS hg24 hg5, by omega, by omega⟩
    clear j4 hc2 hc3 hc4 hc5 hg2 hg3 hg4 hg5 hg23 hg24 p2 p3 p4 p5 q2 q3 q4
    have q0 : w5.cell? ⟨w.heap.size, 0, none⟩ = some (.int .i64 (s5 : Int)) := cell_row HZ.out.1 0
    by_cases z0 : s5 = 0
    · obtain rfl := z0
      go_wp2
      go_ret2
      exact HF.out w5 m5 1 HZ.out.2.1 HZ.out.2.2.1 HZ.out.2.2.2 (by omega)
    · have z0' : ((s5 : Int) == 0) = false := by rw [beq_eq_false_iff_ne]; omega
      by_cases z1 : s5 = 12
      · obtain rfl := z1
        go_wp2
        go_ret2
        exact HF.out w5 m5 2 HZ.out.2.1 HZ.out.2.2.1 HZ.out.2.2.2 (by omega)
      · have z1' : ((s5 : Int) == 12) = false := by rw [beq_eq_false_iff_ne]; omega
        go_wp2
        go_ret2
        exact HF.out w5 m5 0 HZ.out.2.1 HZ.out.2.2.1 HZ.out.2.2.2 (by omega)
  · have h50' : ¬ ((50 : Int) ≤ (L : Int)) := by omega
    have j4 := Tryd.median_any g c I J K w.heap.size 0 d t _ hs1 hc1 (by omega) (by omega) (by omega) (by omega)
    clear hs1 hc1 hb1 h
    go_enter Tryd.func35, Tryd.ntmps35
    go_wp2_with fail
    generalize w.alloc (.cells #[.int .i64 0] 3) = w1 at *
    refine j4.mono ?_
    rintro e w5 ⟨m5, s5, rfl, p5, hs5, hc5, hg5⟩
    have HZ : Hid (CB w5 w.heap.size s5 ∧ w1.grownBy w5 (some w.heap.size) ∧ a ≤ m5 ∧ m5 < b) := ⟨hc5, hg5, by omega, by omega⟩
    clear j4 hc5 hg5 p5
    have q0 : w5.cell? ⟨w.heap.size, 0, none⟩ = some (.int .i64 (s5 : Int)) := cell_row HZ.out.1 0
    by_cases z0 : s5 = 0
    · obtain rfl := z0
      go_wp2
      go_ret2
      exact HF.out w5 m5 1 HZ.out.2.1 HZ.out.2.2.1 HZ.out.2.2.2 (by omega)
    · have z0' : ((s5 : Int) == 0) = false := by rw [beq_eq_false_iff_ne]; omega
      by_cases z1 : s5 = 12
      · obtain rfl := z1
        go_wp2
        go_ret2
        exact HF.out w5 m5 2 HZ.out.2.1 HZ.out.2.2.1 HZ.out.2.2.2 (by omega)
      · have z1' : ((s5 : Int) == 12) = false := by rw [beq_eq_false_iff_ne]; omega
        go_wp2
        go_ret2
        exact HF.out w5 m5 0 HZ.out.2.1 HZ.out.2.2.1 HZ.out.2.2.2 (by omega)
end Go.Proofs.YtllcjmaecgfijaaDoor
