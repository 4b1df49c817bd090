/- Stage 10's laws over the contracts of package sets (handed in): awake, small. -/
import Derived.Test.YtllcjmaecgfijaaDoorWSe1
namespace Go.Proofs.YtllcjmaecgfijaaDoor
open Go.RowKit Go.Maps

theorem aw1 : leastL ([1] ++ [2, 3]) = [1, 2] := by decide
theorem aw2 : leastL (uniL [1, 4] [2]) = [3, 6] := by decide
theorem aw3 : leastL [3, 1, 5, 1] = [1] := by decide
set_option maxRecDepth 100000 in
set_option maxHeartbeats 2000000 in
theorem Tryd.sawake_any (hC : SetC) (w : World) : Calls Tryd.prog 12 #[] w (BR true w) := by
  have HC : Hid SetC := hC
  have l1 : ∀ w' : World, USl (w'.alloc (.cells #[.int .u64 1] 22)) (some ⟨w'.heap.size, 0, none⟩) 1 1 [1] := fun w' => Tryd.set_lit [1] w' (by decide)
  have l2 : ∀ w' : World, USl (w'.alloc (.cells #[.int .u64 2] 22)) (some ⟨w'.heap.size, 0, none⟩) 1 1 [2] := fun w' => Tryd.set_lit [2] w' (by decide)
  have l23 : ∀ w' : World, USl (w'.alloc (.cells #[.int .u64 2, .int .u64 3] 22)) (some ⟨w'.heap.size, 0, none⟩) 2 2 [2, 3] := fun w' => Tryd.set_lit [2, 3] w' (by decide)
  have bn := fun (w' : World) (xs : Array Value) => below_new w' (.cells xs 22)
  have hsz : ∀ (w' : World) (xs : Array Value), (w'.alloc (.cells xs 22)).heap.size = w'.heap.size + 1 := fun w' xs => by simp [go_sem]
  have j1 := hC.or _ 1 1 [1] _ 2 2 [2, 3] _ ((l1 w).up (bn _ _)) (l23 _) (by unfold Sm; decide) (by unfold Sm; decide) (by decide)
  rw [aw1, hsz] at j1
  have HB0 : Hid _ := below_step (bn w #[.int .u64 1]) (bn _ #[.int .u64 2, .int .u64 3])
  go_enter Tryd.func12, Tryd.ntmps12
  clear l1 l2 l23
  go_wp2_with fail
  refine j1.mono ?_
  rintro e w1 ⟨a1, c1, rfl, hS1, hb1⟩
  have HS1 : Hid (USl w1 a1 2 c1 [1, 2]) := hS1
  have HB1 : Hid (Below w.heap.size w w1) := below_step HB0.out hb1
  clear j1 hS1 hb1
  have l14 : USl (w1.alloc (.cells #[.int .u64 1, .int .u64 4] 22)) (some ⟨w1.heap.size, 0, none⟩) 2 2 [1, 4] := Tryd.set_lit [1, 4] w1 (by decide)
  have l2 : ∀ w' : World, USl (w'.alloc (.cells #[.int .u64 2] 22)) (some ⟨w'.heap.size, 0, none⟩) 1 1 [2] := fun w' => Tryd.set_lit [2] w' (by decide)
  have j2 := hC.and _ 2 2 [1, 4] _ 1 1 [2] _ (l14.up (bn _ _)) (l2 _) (by unfold Sm; decide) (by unfold Sm; decide) (by decide) (by decide) (by decide)
  rw [aw2, hsz] at j2
  have HX1 : Hid _ := below_step (bn w1 #[.int .u64 1, .int .u64 4]) (bn _ #[.int .u64 2])
  clear l14 l2
  dsimp only [List.length_cons, List.length_nil]
  go_wp2_with fail
  refine j2.mono ?_
  rintro e w2 ⟨a2, c2, rfl, hS2, hb2⟩
  have HX2 : Hid (Below w1.heap.size w1 w2) := below_step HX1.out hb2
  have HS2 : Hid (USl w2 a2 2 c2 [3, 6]) := hS2
  have l12 : USl (w2.alloc (.cells #[.int .u64 1, .int .u64 2] 22)) (some ⟨w2.heap.size, 0, none⟩) 2 2 [1, 2] := Tryd.set_lit [1, 2] w2 (by decide)
  have j3 := Tryd.sameS_any a1 2 c1 [1, 2] _ 2 2 [1, 2] _ ((HS1.out.up HX2.out).up (bn _ _)) l12
  rw [decide_eq_true rfl] at j3
  have HX3 : Hid _ := bn w2 #[.int .u64 1, .int .u64 2]
  clear j2 hS2 hb2 l12 HX1
  dsimp only [List.length_cons, List.length_nil]
  go_wp2_with fail
  refine j3.mono ?_
  rintro e w3 ⟨rfl, hb3⟩
  have HX4 : Hid (Below w2.heap.size w2 w3) := below_step HX3.out hb3
  have l36 : USl (w3.alloc (.cells #[.int .u64 3, .int .u64 6] 22)) (some ⟨w3.heap.size, 0, none⟩) 2 2 [3, 6] := Tryd.set_lit [3, 6] w3 (by decide)
  have j4 := Tryd.sameS_any a2 2 c2 [3, 6] _ 2 2 [3, 6] _ ((HS2.out.up HX4.out).up (bn _ _)) l36
  rw [decide_eq_true rfl] at j4
  have HX5 : Hid (Below w3.heap.size w3 _) := bn w3 #[.int .u64 3, .int .u64 6]
  clear j3 hb3 l36 HX3
  go_wp2_with fail
  refine j4.mono ?_
  rintro e w4 ⟨rfl, hb4⟩
  have HX6 : Hid (Below w3.heap.size w3 w4) := below_step HX5.out hb4
  have l4 : USl (w4.alloc (.cells #[.int .u64 3, .int .u64 1, .int .u64 5, .int .u64 1] 22)) (some ⟨w4.heap.size, 0, none⟩) 4 4 [3, 1, 5, 1] := Tryd.set_lit [3, 1, 5, 1] w4 (by decide)
  have j5 := hC.least _ 4 4 _ _ l4 (by unfold Sm; decide) (by decide)
  rw [aw3] at j5
  have HX7 : Hid (Below w4.heap.size w4 _) := bn w4 #[.int .u64 3, .int .u64 1, .int .u64 5, .int .u64 1]
  clear j4 hb4 l4 HX5
  go_wp2_with fail
  refine j5.mono ?_
  rintro e w5 ⟨a5, c5, rfl, hS5, hb5⟩
  have HX8 : Hid (Below w4.heap.size w4 w5) := below_step HX7.out hb5
  have l1 : USl (w5.alloc (.cells #[.int .u64 1] 22)) (some ⟨w5.heap.size, 0, none⟩) 1 1 [1] := Tryd.set_lit [1] w5 (by decide)
  have j6 := Tryd.sameS_any a5 1 c5 [1] _ 1 1 [1] _ (hS5.up (bn _ _)) l1
  rw [decide_eq_true rfl] at j6
  have HX9 : Hid (Below w5.heap.size w5 _) := bn w5 #[.int .u64 1]
  clear j5 hb5 l1 HX7 hS5
  dsimp only [List.length_cons, List.length_nil]
  go_wp2_with fail
  refine j6.mono ?_
  rintro e w6 ⟨rfl, hb6⟩
  have HZ : Hid (Below w.heap.size w w6) := below_step (below_step (below_step (below_step (below_step HB1.out HX2.out) HX4.out) HX6.out) HX8.out) (below_step HX9.out hb6)
  clear j6 hb6
  go_wp2
  go_ret
  exact ⟨rfl, HZ.out⟩
end Go.Proofs.YtllcjmaecgfijaaDoor
