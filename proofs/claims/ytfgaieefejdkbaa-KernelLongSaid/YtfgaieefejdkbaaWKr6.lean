/- The document's K. -/
import Derived.Test.YtfgaieefejdkbaaWKr2
import Derived.Test.YtfgaieefejdkbaaWKr3
import Derived.Deep.RegionHeld3
namespace Go.Proofs.Ytfgaieefejdkbaa
open Go.RowKit Go.Maps

theorem Try.rturned_sym (x y : Nat) (b : Bool) (w : World) : Calls Try.prog 50 #[.int .u8 (x : Int), .int .u8 (y : Int), .bool b] w fun e w' => e = .returned (.int .u8 (tn x y b : Int)) ∧ w = w' := (Try.rturned_any x y b w).mono fun _ _ h => ⟨h.1, h.2.symm⟩
theorem Try.rtu_7_8 (b : Bool) (w : World) : Calls Try.prog 50 #[.int .u8 7, .int .u8 8, .bool b] w fun e w' => e = .returned (.int .u8 (tn 7 8 b : Int)) ∧ w = w' := Try.rturned_sym 7 8 b w
theorem Try.rtu_8_7 (b : Bool) (w : World) : Calls Try.prog 50 #[.int .u8 8, .int .u8 7, .bool b] w fun e w' => e = .returned (.int .u8 (tn 8 7 b : Int)) ∧ w = w' := Try.rturned_sym 8 7 b w
theorem Try.rtu_0_1 (b : Bool) (w : World) : Calls Try.prog 50 #[.int .u8 0, .int .u8 1, .bool b] w fun e w' => e = .returned (.int .u8 (tn 0 1 b : Int)) ∧ w = w' := Try.rturned_sym 0 1 b w
theorem Try.rtu_15_16 (b : Bool) (w : World) : Calls Try.prog 50 #[.int .u8 15, .int .u8 16, .bool b] w fun e w' => e = .returned (.int .u8 (tn 15 16 b : Int)) ∧ w = w' := Try.rturned_sym 15 16 b w
theorem Try.rtu_1_0 (b : Bool) (w : World) : Calls Try.prog 50 #[.int .u8 1, .int .u8 0, .bool b] w fun e w' => e = .returned (.int .u8 (tn 1 0 b : Int)) ∧ w = w' := Try.rturned_sym 1 0 b w
theorem Try.rtu_16_15 (b : Bool) (w : World) : Calls Try.prog 50 #[.int .u8 16, .int .u8 15, .bool b] w fun e w' => e = .returned (.int .u8 (tn 16 15 b : Int)) ∧ w = w' := Try.rturned_sym 16 15 b w
theorem Try.rtu_11_12 (b : Bool) (w : World) : Calls Try.prog 50 #[.int .u8 11, .int .u8 12, .bool b] w fun e w' => e = .returned (.int .u8 (tn 11 12 b : Int)) ∧ w = w' := Try.rturned_sym 11 12 b w
theorem Try.rtu_12_11 (b : Bool) (w : World) : Calls Try.prog 50 #[.int .u8 12, .int .u8 11, .bool b] w fun e w' => e = .returned (.int .u8 (tn 12 11 b : Int)) ∧ w = w' := Try.rturned_sym 12 11 b w
theorem Try.rtu_17_18 (b : Bool) (w : World) : Calls Try.prog 50 #[.int .u8 17, .int .u8 18, .bool b] w fun e w' => e = .returned (.int .u8 (tn 17 18 b : Int)) ∧ w = w' := Try.rturned_sym 17 18 b w
theorem Try.rtu_18_17 (b : Bool) (w : World) : Calls Try.prog 50 #[.int .u8 18, .int .u8 17, .bool b] w fun e w' => e = .returned (.int .u8 (tn 18 17 b : Int)) ∧ w = w' := Try.rturned_sym 18 17 b w
def KC (T : Tr) : Prop := 2 * wt T ≤ 100000 → ∀ (b : Bool) (u : Value) (w : World), TrAt w T u → Calls Try.prog 29 #[treeV (rootK T) u, .bool b] w (RowR (kB T b) w)
theorem tn_lt {x y : Nat} (b : Bool) (hx : x < 256) (hy : y < 256) : tn x y b < 256 := by cases b; exact hx; exact hy
set_option maxRecDepth 100000 in
theorem Try.rk_leaf_0 : KC (.leaf (0, 0)) := by
  intro _ b u w hu
  obtain ⟨a, c, rfl⟩ := hu
  show Calls Try.prog 29 #[.agg #[.int .u8 0, .int .u8 0, .slice a 0 c], .bool b] w _
  have hb := below_new w (.cells #[.int .u8 0, .int .u8 0, .slice a 0 c] 54)
  have hl := fun w' => Try.rleaf_any 0 0 b w' (wf_leaf rfl (by decide))
  generalize kB (.leaf (0, 0)) b = Y at *
  unfold RowR at *
  go_enter Try.func29, Try.ntmps29
  go_wp2_with fail
  refine (hl _).mono ?_
  rintro e w1 ⟨a1, c1, rfl, t1, b1⟩
  go_wp2
  go_ret
  exact ⟨a1, c1, rfl, t1, below_step hb b1⟩
set_option maxRecDepth 100000 in
theorem Try.rk_leaf_1 : KC (.leaf (1, 0)) := by
  intro _ b u w hu
  obtain ⟨a, c, rfl⟩ := hu
  show Calls Try.prog 29 #[.agg #[.int .u8 1, .int .u8 0, .slice a 0 c], .bool b] w _
  have hb := below_new w (.cells #[.int .u8 1, .int .u8 0, .slice a 0 c] 54)
  have hl := fun w' => Try.rleaf_any 1 0 b w' (wf_leaf rfl (by decide))
  generalize kB (.leaf (1, 0)) b = Y at *
  unfold RowR at *
  go_enter Try.func29, Try.ntmps29
  go_wp2_with fail
  refine (hl _).mono ?_
  rintro e w1 ⟨a1, c1, rfl, t1, b1⟩
  go_wp2
  go_ret
  exact ⟨a1, c1, rfl, t1, below_step hb b1⟩
set_option maxRecDepth 100000 in
theorem Try.rk_leaf_2 (p : Nat) (hp : p ≤ 7) : KC (.leaf (2, p)) := by
  intro _ b u w hu
  obtain ⟨a, c, rfl⟩ := hu
  show Calls Try.prog 29 #[.agg #[.int .u8 2, .int .u8 (p : Int), .slice a 0 c], .bool b] w _
  have hb := below_new w (.cells #[.int .u8 2, .int .u8 (p : Int), .slice a 0 c] 54)
  have hl := fun w' => Try.rleaf_any 2 p b w' (wf_leaf (takes_prop hp) (by decide))
  generalize kB (.leaf (2, p)) b = Y at *
  unfold RowR at *
  go_enter Try.func29, Try.ntmps29
  go_wp2_with fail
  refine (hl _).mono ?_
  rintro e w1 ⟨a1, c1, rfl, t1, b1⟩
  go_wp2
  go_ret
  exact ⟨a1, c1, rfl, t1, below_step hb b1⟩
set_option maxRecDepth 100000 in
theorem Try.rk_leaf_3 : KC (.leaf (3, 0)) := by
  intro _ b u w hu
  obtain ⟨a, c, rfl⟩ := hu
  show Calls Try.prog 29 #[.agg #[.int .u8 3, .int .u8 0, .slice a 0 c], .bool b] w _
  have hb := below_new w (.cells #[.int .u8 3, .int .u8 0, .slice a 0 c] 54)
  have hl := fun w' => Try.rleaf_any 3 0 b w' (wf_leaf rfl (by decide))
  generalize kB (.leaf (3, 0)) b = Y at *
  unfold RowR at *
  go_enter Try.func29, Try.ntmps29
  go_wp2_with fail
  refine (hl _).mono ?_
  rintro e w1 ⟨a1, c1, rfl, t1, b1⟩
  go_wp2
  go_ret
  exact ⟨a1, c1, rfl, t1, below_step hb b1⟩
set_option maxRecDepth 100000 in
theorem Try.rk_leaf_4 : KC (.leaf (4, 0)) := by
  intro _ b u w hu
  obtain ⟨a, c, rfl⟩ := hu
  show Calls Try.prog 29 #[.agg #[.int .u8 4, .int .u8 0, .slice a 0 c], .bool b] w _
  have hb := below_new w (.cells #[.int .u8 4, .int .u8 0, .slice a 0 c] 54)
  have hl := fun w' => Try.rleaf_any 4 0 b w' (wf_leaf rfl (by decide))
  generalize kB (.leaf (4, 0)) b = Y at *
  unfold RowR at *
  go_enter Try.func29, Try.ntmps29
  go_wp2_with fail
  refine (hl _).mono ?_
  rintro e w1 ⟨a1, c1, rfl, t1, b1⟩
  go_wp2
  go_ret
  exact ⟨a1, c1, rfl, t1, below_step hb b1⟩
set_option maxRecDepth 100000 in
theorem Try.rk_leaf_5 : KC (.leaf (5, 0)) := by
  intro _ b u w hu
  obtain ⟨a, c, rfl⟩ := hu
  show Calls Try.prog 29 #[.agg #[.int .u8 5, .int .u8 0, .slice a 0 c], .bool b] w _
  have hb := below_new w (.cells #[.int .u8 5, .int .u8 0, .slice a 0 c] 54)
  have hl := fun w' => Try.rleaf_any 5 0 b w' (wf_leaf rfl (by decide))
  generalize kB (.leaf (5, 0)) b = Y at *
  unfold RowR at *
  go_enter Try.func29, Try.ntmps29
  go_wp2_with fail
  refine (hl _).mono ?_
  rintro e w1 ⟨a1, c1, rfl, t1, b1⟩
  go_wp2
  go_ret
  exact ⟨a1, c1, rfl, t1, below_step hb b1⟩
set_option maxRecDepth 100000 in
set_option maxHeartbeats 4000000 in
theorem Try.rk_un_6 (c : Tr) (hc : KC c) (hT : (Tr.un (6, 0) c).WF) : KC (.un (6, 0) c) := by
  intro hwt b v w hv
  obtain ⟨g, cap, u, rfl, hn, hu⟩ := hv
  obtain ⟨_, hcw, _, _⟩ := un_cases hT
  have hw1 := wt_un hT
  have hlc := kB_len hcw
  have hcc := hc (by omega)
  obtain ⟨ua, un, uc, rfl⟩ := hu.sl
  rw [kB_6]
  show Calls Try.prog 29 #[.agg #[.int .u8 6, .int .u8 0, .slice (some ⟨g, 0, none⟩) 1 cap], .bool b] w _
  have hb := below_new w (.cells #[.int .u8 6, .int .u8 0, .slice (some ⟨g, 0, none⟩) 1 cap] 54)
  have hr := (MapKept.heap_alloc w (.cells #[.int .u8 6, .int .u8 0, .slice (some ⟨g, 0, none⟩) 1 cap] 54)).1
  obtain ⟨n0, n1, n2⟩ := hn.up hb
  have HU : Hid (TrAt (w.alloc (.cells #[.int .u8 6, .int .u8 0, .slice (some ⟨g, 0, none⟩) 1 cap] 54)) c _) := hu.up hb
  unfold treeV at hcc
  have HCC : Hid _ := hcc
  clear hcc
  generalize rootK c = rk at *
  obtain ⟨ro, rp⟩ := rk
  dsimp only at n0 n1 HCC
  simp only [Nat.reduceAdd] at n1 n2
  have hi0 := fun w' => Try.idxT0 g 1 cap w' (by omega)
  have HB : Hid (Below w.heap.size w (w.alloc (.cells #[.int .u8 6, .int .u8 0, .slice (some ⟨g, 0, none⟩) 1 cap] 54))) := hb
  have k0 : (w.alloc (.cells #[.int .u8 6, .int .u8 0, .slice (some ⟨g, 0, none⟩) 1 cap] 54)).cell? ⟨w.heap.size, 0, none⟩ = some (.int .u8 6) := cell_row hr 0
  have k2 : (w.alloc (.cells #[.int .u8 6, .int .u8 0, .slice (some ⟨g, 0, none⟩) 1 cap] 54)).cell? ⟨w.heap.size, 2, none⟩ = some (.slice (some ⟨g, 0, none⟩) 1 cap) := cell_row hr 2
  have hkeep : ∀ w1 w2 : World, (w1.cell? ⟨w.heap.size, 0, none⟩ = some (.int .u8 6) ∧ w1.cell? ⟨w.heap.size, 2, none⟩ = some (.slice (some ⟨g, 0, none⟩) 1 cap) ∧ w1.cell? ⟨g, 0, none⟩ = some (.int .u8 (ro : Int)) ∧ w1.cell? ⟨g, 1, none⟩ = some (.int .u8 (rp : Int)) ∧ w1.cell? ⟨g, 2, none⟩ = some (.slice ua un uc)) → Below w1.heap.size w1 w2 → (w2.cell? ⟨w.heap.size, 0, none⟩ = some (.int .u8 6) ∧ w2.cell? ⟨w.heap.size, 2, none⟩ = some (.slice (some ⟨g, 0, none⟩) 1 cap) ∧ w2.cell? ⟨g, 0, none⟩ = some (.int .u8 (ro : Int)) ∧ w2.cell? ⟨g, 1, none⟩ = some (.int .u8 (rp : Int)) ∧ w2.cell? ⟨g, 2, none⟩ = some (.slice ua un uc)) := fun w1 w2 h hb => ⟨kept_cell h.1 hb, kept_cell h.2.1 hb, kept_cell h.2.2.1 hb, kept_cell h.2.2.2.1 hb, kept_cell h.2.2.2.2 hb⟩
  have HK0 : Hid ((w.alloc (.cells #[.int .u8 6, .int .u8 0, .slice (some ⟨g, 0, none⟩) 1 cap] 54)).cell? ⟨w.heap.size, 0, none⟩ = some (.int .u8 6) ∧ (w.alloc (.cells #[.int .u8 6, .int .u8 0, .slice (some ⟨g, 0, none⟩) 1 cap] 54)).cell? ⟨w.heap.size, 2, none⟩ = some (.slice (some ⟨g, 0, none⟩) 1 cap) ∧ (w.alloc (.cells #[.int .u8 6, .int .u8 0, .slice (some ⟨g, 0, none⟩) 1 cap] 54)).cell? ⟨g, 0, none⟩ = some (.int .u8 (ro : Int)) ∧ (w.alloc (.cells #[.int .u8 6, .int .u8 0, .slice (some ⟨g, 0, none⟩) 1 cap] 54)).cell? ⟨g, 1, none⟩ = some (.int .u8 (rp : Int)) ∧ (w.alloc (.cells #[.int .u8 6, .int .u8 0, .slice (some ⟨g, 0, none⟩) 1 cap] 54)).cell? ⟨g, 2, none⟩ = some (.slice ua un uc)) := ⟨k0, k2, n0, n1, n2⟩
  clear hn hu hc hb hr hT
  unfold RowR
  obtain ⟨Y, hY⟩ : ∃ Y, Y = kB c (!b) := ⟨_, rfl⟩
  rw [← hY]
  have HY : Hid (Y = kB c (!b)) := hY
  clear hY
  go_enter Try.func29, Try.ntmps29
  go_wp2_with fail
  generalize w.alloc (.cells #[.int .u8 6, .int .u8 0, .slice (some ⟨g, 0, none⟩) 1 cap] 54) = w0 at *
  have hq := HCC.out (!b) _ _ HU.out
  rw [← HY.out] at hq
  refine hq.mono ?_
  rintro e w1 ⟨a1, c1, rfl, t1, b1⟩
  have HT1 : Hid _ := t1
  have HB1 : Hid _ := below_step HB.out b1
  clear t1 b1 HCC hq
  go_wp2
  go_ret
  exact ⟨a1, c1, rfl, HT1.out, HB1.out⟩
set_option maxRecDepth 100000 in
set_option maxHeartbeats 4000000 in
theorem Try.rk_un_7 (c : Tr) (hc : KC c) (hT : (Tr.un (7, 0) c).WF) : KC (.un (7, 0) c) := by
  intro hwt b v w hv
  obtain ⟨g, cap, u, rfl, hn, hu⟩ := hv
  obtain ⟨_, hcw, _, _⟩ := un_cases hT
  have hw1 := wt_un hT
  have hlc := kB_len hcw
  have hcc := hc (by omega)
  obtain ⟨ua, un, uc, rfl⟩ := hu.sl
  rw [kB_7]
  show Calls Try.prog 29 #[.agg #[.int .u8 7, .int .u8 0, .slice (some ⟨g, 0, none⟩) 1 cap], .bool b] w _
  have hb := below_new w (.cells #[.int .u8 7, .int .u8 0, .slice (some ⟨g, 0, none⟩) 1 cap] 54)
  have hr := (MapKept.heap_alloc w (.cells #[.int .u8 7, .int .u8 0, .slice (some ⟨g, 0, none⟩) 1 cap] 54)).1
  obtain ⟨n0, n1, n2⟩ := hn.up hb
  have HU : Hid (TrAt (w.alloc (.cells #[.int .u8 7, .int .u8 0, .slice (some ⟨g, 0, none⟩) 1 cap] 54)) c _) := hu.up hb
  unfold treeV at hcc
  have HCC : Hid _ := hcc
  clear hcc
  generalize rootK c = rk at *
  obtain ⟨ro, rp⟩ := rk
  dsimp only at n0 n1 HCC
  simp only [Nat.reduceAdd] at n1 n2
  have hi0 := fun w' => Try.idxT0 g 1 cap w' (by omega)
  have HB : Hid (Below w.heap.size w (w.alloc (.cells #[.int .u8 7, .int .u8 0, .slice (some ⟨g, 0, none⟩) 1 cap] 54))) := hb
  have k0 : (w.alloc (.cells #[.int .u8 7, .int .u8 0, .slice (some ⟨g, 0, none⟩) 1 cap] 54)).cell? ⟨w.heap.size, 0, none⟩ = some (.int .u8 7) := cell_row hr 0
  have k2 : (w.alloc (.cells #[.int .u8 7, .int .u8 0, .slice (some ⟨g, 0, none⟩) 1 cap] 54)).cell? ⟨w.heap.size, 2, none⟩ = some (.slice (some ⟨g, 0, none⟩) 1 cap) := cell_row hr 2
  have hkeep : ∀ w1 w2 : World, (w1.cell? ⟨w.heap.size, 0, none⟩ = some (.int .u8 7) ∧ w1.cell? ⟨w.heap.size, 2, none⟩ = some (.slice (some ⟨g, 0, none⟩) 1 cap) ∧ w1.cell? ⟨g, 0, none⟩ = some (.int .u8 (ro : Int)) ∧ w1.cell? ⟨g, 1, none⟩ = some (.int .u8 (rp : Int)) ∧ w1.cell? ⟨g, 2, none⟩ = some (.slice ua un uc)) → Below w1.heap.size w1 w2 → (w2.cell? ⟨w.heap.size, 0, none⟩ = some (.int .u8 7) ∧ w2.cell? ⟨w.heap.size, 2, none⟩ = some (.slice (some ⟨g, 0, none⟩) 1 cap) ∧ w2.cell? ⟨g, 0, none⟩ = some (.int .u8 (ro : Int)) ∧ w2.cell? ⟨g, 1, none⟩ = some (.int .u8 (rp : Int)) ∧ w2.cell? ⟨g, 2, none⟩ = some (.slice ua un uc)) := fun w1 w2 h hb => ⟨kept_cell h.1 hb, kept_cell h.2.1 hb, kept_cell h.2.2.1 hb, kept_cell h.2.2.2.1 hb, kept_cell h.2.2.2.2 hb⟩
  have HK0 : Hid ((w.alloc (.cells #[.int .u8 7, .int .u8 0, .slice (some ⟨g, 0, none⟩) 1 cap] 54)).cell? ⟨w.heap.size, 0, none⟩ = some (.int .u8 7) ∧ (w.alloc (.cells #[.int .u8 7, .int .u8 0, .slice (some ⟨g, 0, none⟩) 1 cap] 54)).cell? ⟨w.heap.size, 2, none⟩ = some (.slice (some ⟨g, 0, none⟩) 1 cap) ∧ (w.alloc (.cells #[.int .u8 7, .int .u8 0, .slice (some ⟨g, 0, none⟩) 1 cap] 54)).cell? ⟨g, 0, none⟩ = some (.int .u8 (ro : Int)) ∧ (w.alloc (.cells #[.int .u8 7, .int .u8 0, .slice (some ⟨g, 0, none⟩) 1 cap] 54)).cell? ⟨g, 1, none⟩ = some (.int .u8 (rp : Int)) ∧ (w.alloc (.cells #[.int .u8 7, .int .u8 0, .slice (some ⟨g, 0, none⟩) 1 cap] 54)).cell? ⟨g, 2, none⟩ = some (.slice ua un uc)) := ⟨k0, k2, n0, n1, n2⟩
  clear hn hu hc hb hr hT
  unfold RowR
  obtain ⟨Y, hY⟩ : ∃ Y, Y = kB c b ++ [] ++ [(tn 7 8 b, 0)] := ⟨_, rfl⟩
  rw [← hY]
  have HY : Hid (Y = kB c b ++ [] ++ [(tn 7 8 b, 0)]) := hY
  clear hY
  go_enter Try.func29, Try.ntmps29
  go_wp2_with fail
  generalize w.alloc (.cells #[.int .u8 7, .int .u8 0, .slice (some ⟨g, 0, none⟩) 1 cap] 54) = w0 at *
  refine (HCC.out b _ _ HU.out).mono ?_
  rintro e w1 ⟨a1, c1, rfl, t1, b1⟩
  have HB1 : Hid _ := below_step HB.out b1
  have hlb := hlc b
  have ho := Try.rone_any a1 _ c1 (kB c b) (tn 7 8 b) w1 t1 (tn_lt b (by decide) (by decide)) (by omega)
  have htu := Try.rtu_7_8 b w1
  rw [← HY.out] at ho
  generalize kB c b = X at *
  generalize tn 7 8 b = z at *
  clear t1 b1 HCC HK0 hlb hlc
  unfold RowR at ho
  go_wp2_with fail
  refine htu.mono ?_
  rintro e w' ⟨rfl, rfl⟩
  go_wp2_with fail
  refine ho.mono ?_
  rintro e w2 ⟨a2, c2, rfl, t2, b2⟩
  have HT2 : Hid _ := t2
  have HB2 : Hid _ := below_step HB1.out b2
  clear t2 b2 ho
  go_wp2
  go_ret
  exact ⟨a2, c2, rfl, HT2.out, HB2.out⟩
set_option maxRecDepth 100000 in
set_option maxHeartbeats 4000000 in
theorem Try.rk_un_8 (c : Tr) (hc : KC c) (hT : (Tr.un (8, 0) c).WF) : KC (.un (8, 0) c) := by
  intro hwt b v w hv
  obtain ⟨g, cap, u, rfl, hn, hu⟩ := hv
  obtain ⟨_, hcw, _, _⟩ := un_cases hT
  have hw1 := wt_un hT
  have hlc := kB_len hcw
  have hcc := hc (by omega)
  obtain ⟨ua, un, uc, rfl⟩ := hu.sl
  rw [kB_8]
  show Calls Try.prog 29 #[.agg #[.int .u8 8, .int .u8 0, .slice (some ⟨g, 0, none⟩) 1 cap], .bool b] w _
  have hb := below_new w (.cells #[.int .u8 8, .int .u8 0, .slice (some ⟨g, 0, none⟩) 1 cap] 54)
  have hr := (MapKept.heap_alloc w (.cells #[.int .u8 8, .int .u8 0, .slice (some ⟨g, 0, none⟩) 1 cap] 54)).1
  obtain ⟨n0, n1, n2⟩ := hn.up hb
  have HU : Hid (TrAt (w.alloc (.cells #[.int .u8 8, .int .u8 0, .slice (some ⟨g, 0, none⟩) 1 cap] 54)) c _) := hu.up hb
  unfold treeV at hcc
  have HCC : Hid _ := hcc
  clear hcc
  generalize rootK c = rk at *
  obtain ⟨ro, rp⟩ := rk
  dsimp only at n0 n1 HCC
  simp only [Nat.reduceAdd] at n1 n2
  have hi0 := fun w' => Try.idxT0 g 1 cap w' (by omega)
  have HB : Hid (Below w.heap.size w (w.alloc (.cells #[.int .u8 8, .int .u8 0, .slice (some ⟨g, 0, none⟩) 1 cap] 54))) := hb
  have k0 : (w.alloc (.cells #[.int .u8 8, .int .u8 0, .slice (some ⟨g, 0, none⟩) 1 cap] 54)).cell? ⟨w.heap.size, 0, none⟩ = some (.int .u8 8) := cell_row hr 0
  have k2 : (w.alloc (.cells #[.int .u8 8, .int .u8 0, .slice (some ⟨g, 0, none⟩) 1 cap] 54)).cell? ⟨w.heap.size, 2, none⟩ = some (.slice (some ⟨g, 0, none⟩) 1 cap) := cell_row hr 2
  have hkeep : ∀ w1 w2 : World, (w1.cell? ⟨w.heap.size, 0, none⟩ = some (.int .u8 8) ∧ w1.cell? ⟨w.heap.size, 2, none⟩ = some (.slice (some ⟨g, 0, none⟩) 1 cap) ∧ w1.cell? ⟨g, 0, none⟩ = some (.int .u8 (ro : Int)) ∧ w1.cell? ⟨g, 1, none⟩ = some (.int .u8 (rp : Int)) ∧ w1.cell? ⟨g, 2, none⟩ = some (.slice ua un uc)) → Below w1.heap.size w1 w2 → (w2.cell? ⟨w.heap.size, 0, none⟩ = some (.int .u8 8) ∧ w2.cell? ⟨w.heap.size, 2, none⟩ = some (.slice (some ⟨g, 0, none⟩) 1 cap) ∧ w2.cell? ⟨g, 0, none⟩ = some (.int .u8 (ro : Int)) ∧ w2.cell? ⟨g, 1, none⟩ = some (.int .u8 (rp : Int)) ∧ w2.cell? ⟨g, 2, none⟩ = some (.slice ua un uc)) := fun w1 w2 h hb => ⟨kept_cell h.1 hb, kept_cell h.2.1 hb, kept_cell h.2.2.1 hb, kept_cell h.2.2.2.1 hb, kept_cell h.2.2.2.2 hb⟩
  have HK0 : Hid ((w.alloc (.cells #[.int .u8 8, .int .u8 0, .slice (some ⟨g, 0, none⟩) 1 cap] 54)).cell? ⟨w.heap.size, 0, none⟩ = some (.int .u8 8) ∧ (w.alloc (.cells #[.int .u8 8, .int .u8 0, .slice (some ⟨g, 0, none⟩) 1 cap] 54)).cell? ⟨w.heap.size, 2, none⟩ = some (.slice (some ⟨g, 0, none⟩) 1 cap) ∧ (w.alloc (.cells #[.int .u8 8, .int .u8 0, .slice (some ⟨g, 0, none⟩) 1 cap] 54)).cell? ⟨g, 0, none⟩ = some (.int .u8 (ro : Int)) ∧ (w.alloc (.cells #[.int .u8 8, .int .u8 0, .slice (some ⟨g, 0, none⟩) 1 cap] 54)).cell? ⟨g, 1, none⟩ = some (.int .u8 (rp : Int)) ∧ (w.alloc (.cells #[.int .u8 8, .int .u8 0, .slice (some ⟨g, 0, none⟩) 1 cap] 54)).cell? ⟨g, 2, none⟩ = some (.slice ua un uc)) := ⟨k0, k2, n0, n1, n2⟩
  clear hn hu hc hb hr hT
  unfold RowR
  obtain ⟨Y, hY⟩ : ∃ Y, Y = kB c b ++ [] ++ [(tn 8 7 b, 0)] := ⟨_, rfl⟩
  rw [← hY]
  have HY : Hid (Y = kB c b ++ [] ++ [(tn 8 7 b, 0)]) := hY
  clear hY
  go_enter Try.func29, Try.ntmps29
  go_wp2_with fail
  generalize w.alloc (.cells #[.int .u8 8, .int .u8 0, .slice (some ⟨g, 0, none⟩) 1 cap] 54) = w0 at *
  refine (HCC.out b _ _ HU.out).mono ?_
  rintro e w1 ⟨a1, c1, rfl, t1, b1⟩
  have HB1 : Hid _ := below_step HB.out b1
  have hlb := hlc b
  have ho := Try.rone_any a1 _ c1 (kB c b) (tn 8 7 b) w1 t1 (tn_lt b (by decide) (by decide)) (by omega)
  have htu := Try.rtu_8_7 b w1
  rw [← HY.out] at ho
  generalize kB c b = X at *
  generalize tn 8 7 b = z at *
  clear t1 b1 HCC HK0 hlb hlc
  unfold RowR at ho
  go_wp2_with fail
  refine htu.mono ?_
  rintro e w' ⟨rfl, rfl⟩
  go_wp2_with fail
  refine ho.mono ?_
  rintro e w2 ⟨a2, c2, rfl, t2, b2⟩
  have HT2 : Hid _ := t2
  have HB2 : Hid _ := below_step HB1.out b2
  clear t2 b2 ho
  go_wp2
  go_ret
  exact ⟨a2, c2, rfl, HT2.out, HB2.out⟩
set_option maxRecDepth 100000 in
set_option maxHeartbeats 4000000 in
theorem Try.rk_un_19 (c : Tr) (hc : KC c) (hT : (Tr.un (19, 0) c).WF) : KC (.un (19, 0) c) := by
  intro hwt b v w hv
  obtain ⟨g, cap, u, rfl, hn, hu⟩ := hv
  obtain ⟨_, hcw, _, _⟩ := un_cases hT
  have hw1 := wt_un hT
  have hlc := kB_len hcw
  have hcc := hc (by omega)
  obtain ⟨ua, un, uc, rfl⟩ := hu.sl
  rw [kB_19]
  show Calls Try.prog 29 #[.agg #[.int .u8 19, .int .u8 0, .slice (some ⟨g, 0, none⟩) 1 cap], .bool b] w _
  have hb := below_new w (.cells #[.int .u8 19, .int .u8 0, .slice (some ⟨g, 0, none⟩) 1 cap] 54)
  have hr := (MapKept.heap_alloc w (.cells #[.int .u8 19, .int .u8 0, .slice (some ⟨g, 0, none⟩) 1 cap] 54)).1
  obtain ⟨n0, n1, n2⟩ := hn.up hb
  have HU : Hid (TrAt (w.alloc (.cells #[.int .u8 19, .int .u8 0, .slice (some ⟨g, 0, none⟩) 1 cap] 54)) c _) := hu.up hb
  unfold treeV at hcc
  have HCC : Hid _ := hcc
  clear hcc
  generalize rootK c = rk at *
  obtain ⟨ro, rp⟩ := rk
  dsimp only at n0 n1 HCC
  simp only [Nat.reduceAdd] at n1 n2
  have hi0 := fun w' => Try.idxT0 g 1 cap w' (by omega)
  have HB : Hid (Below w.heap.size w (w.alloc (.cells #[.int .u8 19, .int .u8 0, .slice (some ⟨g, 0, none⟩) 1 cap] 54))) := hb
  have k0 : (w.alloc (.cells #[.int .u8 19, .int .u8 0, .slice (some ⟨g, 0, none⟩) 1 cap] 54)).cell? ⟨w.heap.size, 0, none⟩ = some (.int .u8 19) := cell_row hr 0
  have k2 : (w.alloc (.cells #[.int .u8 19, .int .u8 0, .slice (some ⟨g, 0, none⟩) 1 cap] 54)).cell? ⟨w.heap.size, 2, none⟩ = some (.slice (some ⟨g, 0, none⟩) 1 cap) := cell_row hr 2
  have hkeep : ∀ w1 w2 : World, (w1.cell? ⟨w.heap.size, 0, none⟩ = some (.int .u8 19) ∧ w1.cell? ⟨w.heap.size, 2, none⟩ = some (.slice (some ⟨g, 0, none⟩) 1 cap) ∧ w1.cell? ⟨g, 0, none⟩ = some (.int .u8 (ro : Int)) ∧ w1.cell? ⟨g, 1, none⟩ = some (.int .u8 (rp : Int)) ∧ w1.cell? ⟨g, 2, none⟩ = some (.slice ua un uc)) → Below w1.heap.size w1 w2 → (w2.cell? ⟨w.heap.size, 0, none⟩ = some (.int .u8 19) ∧ w2.cell? ⟨w.heap.size, 2, none⟩ = some (.slice (some ⟨g, 0, none⟩) 1 cap) ∧ w2.cell? ⟨g, 0, none⟩ = some (.int .u8 (ro : Int)) ∧ w2.cell? ⟨g, 1, none⟩ = some (.int .u8 (rp : Int)) ∧ w2.cell? ⟨g, 2, none⟩ = some (.slice ua un uc)) := fun w1 w2 h hb => ⟨kept_cell h.1 hb, kept_cell h.2.1 hb, kept_cell h.2.2.1 hb, kept_cell h.2.2.2.1 hb, kept_cell h.2.2.2.2 hb⟩
  have HK0 : Hid ((w.alloc (.cells #[.int .u8 19, .int .u8 0, .slice (some ⟨g, 0, none⟩) 1 cap] 54)).cell? ⟨w.heap.size, 0, none⟩ = some (.int .u8 19) ∧ (w.alloc (.cells #[.int .u8 19, .int .u8 0, .slice (some ⟨g, 0, none⟩) 1 cap] 54)).cell? ⟨w.heap.size, 2, none⟩ = some (.slice (some ⟨g, 0, none⟩) 1 cap) ∧ (w.alloc (.cells #[.int .u8 19, .int .u8 0, .slice (some ⟨g, 0, none⟩) 1 cap] 54)).cell? ⟨g, 0, none⟩ = some (.int .u8 (ro : Int)) ∧ (w.alloc (.cells #[.int .u8 19, .int .u8 0, .slice (some ⟨g, 0, none⟩) 1 cap] 54)).cell? ⟨g, 1, none⟩ = some (.int .u8 (rp : Int)) ∧ (w.alloc (.cells #[.int .u8 19, .int .u8 0, .slice (some ⟨g, 0, none⟩) 1 cap] 54)).cell? ⟨g, 2, none⟩ = some (.slice ua un uc)) := ⟨k0, k2, n0, n1, n2⟩
  clear hn hu hc hb hr hT
  unfold RowR
  obtain ⟨Y, hY⟩ : ∃ Y, Y = kB c false ++ [] ++ [(19, 0)] := ⟨_, rfl⟩
  rw [← hY]
  have HY : Hid (Y = kB c false ++ [] ++ [(19, 0)]) := hY
  clear hY
  go_enter Try.func29, Try.ntmps29
  go_wp2
  generalize w.alloc (.cells #[.int .u8 19, .int .u8 0, .slice (some ⟨g, 0, none⟩) 1 cap] 54) = w0 at *
  have hD : Below w0.heap.size w0 w0.drew := (Below.refl _ _).drew
  have hk0 := hkeep _ _ HK0.out hD
  have hq1 := HCC.out false _ _ (TrAt.up hD HU.out)
  have hlb := hlc false
  have HO : Hid (∀ w1 a1 c1, TkSl w1 a1 (kB c false).length c1 (kB c false) → Calls Try.prog 49 #[.slice a1 (kB c false).length c1, .int .u8 19] w1 (RowR Y w1)) := fun w1 a1 c1 t1 => by rw [HY.out]; exact Try.rone_any a1 _ c1 (kB c false) 19 w1 t1 (by decide) (by omega)
  unfold RowR at HO hq1
  generalize kB c false = X at *
  clear HCC HU HK0 hlc hlb
  go_region_held3 (fun w' => w'.cell? ⟨w.heap.size, 0, none⟩ = some (.int .u8 19) ∧ w'.cell? ⟨w.heap.size, 2, none⟩ = some (.slice (some ⟨g, 0, none⟩) 1 cap) ∧ w'.cell? ⟨g, 0, none⟩ = some (.int .u8 (ro : Int)) ∧ w'.cell? ⟨g, 1, none⟩ = some (.int .u8 (rp : Int)) ∧ w'.cell? ⟨g, 2, none⟩ = some (.slice ua un uc)) (first | exact hk0 | exact s1 | exact s2 | fail) (first
    | (go_at_call 29; (with_reducible refine hq1.mono ?_); rintro e w1 ⟨a1, c1, rfl, t1, b1⟩; have s1 := hkeep _ _ hk0 b1; have ho := HO.out w1 a1 c1 t1)
    | (go_at_call 49; (with_reducible refine ho.mono ?_); rintro e w2 ⟨a2, c2, rfl, t2, b2⟩; have s2 := hkeep _ _ s1 b2)
    | fail)
  all_goals
    have HT2 : Hid _ := t2
    have HB2 : Hid _ := below_step (below_step (below_step HB.out hD) b1) b2
    clear s1 s2 t1 t2 b1 b2 ho hq1 hk0
    go_wp2
    go_ret
    exact ⟨a2, c2, rfl, HT2.out, HB2.out⟩
set_option maxRecDepth 100000 in
set_option maxHeartbeats 4000000 in
theorem Try.rk_un_20 (c : Tr) (hc : KC c) (hT : (Tr.un (20, 0) c).WF) : KC (.un (20, 0) c) := by
  intro hwt b v w hv
  obtain ⟨g, cap, u, rfl, hn, hu⟩ := hv
  obtain ⟨_, hcw, _, _⟩ := un_cases hT
  have hw1 := wt_un hT
  have hlc := kB_len hcw
  have hcc := hc (by omega)
  obtain ⟨ua, un, uc, rfl⟩ := hu.sl
  rw [kB_20]
  show Calls Try.prog 29 #[.agg #[.int .u8 20, .int .u8 0, .slice (some ⟨g, 0, none⟩) 1 cap], .bool b] w _
  have hb := below_new w (.cells #[.int .u8 20, .int .u8 0, .slice (some ⟨g, 0, none⟩) 1 cap] 54)
  have hr := (MapKept.heap_alloc w (.cells #[.int .u8 20, .int .u8 0, .slice (some ⟨g, 0, none⟩) 1 cap] 54)).1
  obtain ⟨n0, n1, n2⟩ := hn.up hb
  have HU : Hid (TrAt (w.alloc (.cells #[.int .u8 20, .int .u8 0, .slice (some ⟨g, 0, none⟩) 1 cap] 54)) c _) := hu.up hb
  unfold treeV at hcc
  have HCC : Hid _ := hcc
  clear hcc
  generalize rootK c = rk at *
  obtain ⟨ro, rp⟩ := rk
  dsimp only at n0 n1 HCC
  simp only [Nat.reduceAdd] at n1 n2
  have hi0 := fun w' => Try.idxT0 g 1 cap w' (by omega)
  have HB : Hid (Below w.heap.size w (w.alloc (.cells #[.int .u8 20, .int .u8 0, .slice (some ⟨g, 0, none⟩) 1 cap] 54))) := hb
  have k0 : (w.alloc (.cells #[.int .u8 20, .int .u8 0, .slice (some ⟨g, 0, none⟩) 1 cap] 54)).cell? ⟨w.heap.size, 0, none⟩ = some (.int .u8 20) := cell_row hr 0
  have k2 : (w.alloc (.cells #[.int .u8 20, .int .u8 0, .slice (some ⟨g, 0, none⟩) 1 cap] 54)).cell? ⟨w.heap.size, 2, none⟩ = some (.slice (some ⟨g, 0, none⟩) 1 cap) := cell_row hr 2
  have hkeep : ∀ w1 w2 : World, (w1.cell? ⟨w.heap.size, 0, none⟩ = some (.int .u8 20) ∧ w1.cell? ⟨w.heap.size, 2, none⟩ = some (.slice (some ⟨g, 0, none⟩) 1 cap) ∧ w1.cell? ⟨g, 0, none⟩ = some (.int .u8 (ro : Int)) ∧ w1.cell? ⟨g, 1, none⟩ = some (.int .u8 (rp : Int)) ∧ w1.cell? ⟨g, 2, none⟩ = some (.slice ua un uc)) → Below w1.heap.size w1 w2 → (w2.cell? ⟨w.heap.size, 0, none⟩ = some (.int .u8 20) ∧ w2.cell? ⟨w.heap.size, 2, none⟩ = some (.slice (some ⟨g, 0, none⟩) 1 cap) ∧ w2.cell? ⟨g, 0, none⟩ = some (.int .u8 (ro : Int)) ∧ w2.cell? ⟨g, 1, none⟩ = some (.int .u8 (rp : Int)) ∧ w2.cell? ⟨g, 2, none⟩ = some (.slice ua un uc)) := fun w1 w2 h hb => ⟨kept_cell h.1 hb, kept_cell h.2.1 hb, kept_cell h.2.2.1 hb, kept_cell h.2.2.2.1 hb, kept_cell h.2.2.2.2 hb⟩
  have HK0 : Hid ((w.alloc (.cells #[.int .u8 20, .int .u8 0, .slice (some ⟨g, 0, none⟩) 1 cap] 54)).cell? ⟨w.heap.size, 0, none⟩ = some (.int .u8 20) ∧ (w.alloc (.cells #[.int .u8 20, .int .u8 0, .slice (some ⟨g, 0, none⟩) 1 cap] 54)).cell? ⟨w.heap.size, 2, none⟩ = some (.slice (some ⟨g, 0, none⟩) 1 cap) ∧ (w.alloc (.cells #[.int .u8 20, .int .u8 0, .slice (some ⟨g, 0, none⟩) 1 cap] 54)).cell? ⟨g, 0, none⟩ = some (.int .u8 (ro : Int)) ∧ (w.alloc (.cells #[.int .u8 20, .int .u8 0, .slice (some ⟨g, 0, none⟩) 1 cap] 54)).cell? ⟨g, 1, none⟩ = some (.int .u8 (rp : Int)) ∧ (w.alloc (.cells #[.int .u8 20, .int .u8 0, .slice (some ⟨g, 0, none⟩) 1 cap] 54)).cell? ⟨g, 2, none⟩ = some (.slice ua un uc)) := ⟨k0, k2, n0, n1, n2⟩
  clear hn hu hc hb hr hT
  unfold RowR
  obtain ⟨Y, hY⟩ : ∃ Y, Y = kB c false ++ [] ++ [(20, 0)] := ⟨_, rfl⟩
  rw [← hY]
  have HY : Hid (Y = kB c false ++ [] ++ [(20, 0)]) := hY
  clear hY
  go_enter Try.func29, Try.ntmps29
  go_wp2
  generalize w.alloc (.cells #[.int .u8 20, .int .u8 0, .slice (some ⟨g, 0, none⟩) 1 cap] 54) = w0 at *
  have hD : Below w0.heap.size w0 w0.drew := (Below.refl _ _).drew
  have hk0 := hkeep _ _ HK0.out hD
  have hq1 := HCC.out false _ _ (TrAt.up hD HU.out)
  have hlb := hlc false
  have HO : Hid (∀ w1 a1 c1, TkSl w1 a1 (kB c false).length c1 (kB c false) → Calls Try.prog 49 #[.slice a1 (kB c false).length c1, .int .u8 20] w1 (RowR Y w1)) := fun w1 a1 c1 t1 => by rw [HY.out]; exact Try.rone_any a1 _ c1 (kB c false) 20 w1 t1 (by decide) (by omega)
  unfold RowR at HO hq1
  generalize kB c false = X at *
  clear HCC HU HK0 hlc hlb
  go_region_held3 (fun w' => w'.cell? ⟨w.heap.size, 0, none⟩ = some (.int .u8 20) ∧ w'.cell? ⟨w.heap.size, 2, none⟩ = some (.slice (some ⟨g, 0, none⟩) 1 cap) ∧ w'.cell? ⟨g, 0, none⟩ = some (.int .u8 (ro : Int)) ∧ w'.cell? ⟨g, 1, none⟩ = some (.int .u8 (rp : Int)) ∧ w'.cell? ⟨g, 2, none⟩ = some (.slice ua un uc)) (first | exact hk0 | exact s1 | exact s2 | fail) (first
    | (go_at_call 29; (with_reducible refine hq1.mono ?_); rintro e w1 ⟨a1, c1, rfl, t1, b1⟩; have s1 := hkeep _ _ hk0 b1; have ho := HO.out w1 a1 c1 t1)
    | (go_at_call 49; (with_reducible refine ho.mono ?_); rintro e w2 ⟨a2, c2, rfl, t2, b2⟩; have s2 := hkeep _ _ s1 b2)
    | fail)
  all_goals
    have HT2 : Hid _ := t2
    have HB2 : Hid _ := below_step (below_step (below_step HB.out hD) b1) b2
    clear s1 s2 t1 t2 b1 b2 ho hq1 hk0
    go_wp2
    go_ret
    exact ⟨a2, c2, rfl, HT2.out, HB2.out⟩
set_option maxRecDepth 100000 in
set_option maxHeartbeats 4000000 in
theorem Try.rk_un_23 (c : Tr) (hc : KC c) (hT : (Tr.un (23, 0) c).WF) : KC (.un (23, 0) c) := by
  intro hwt b v w hv
  obtain ⟨g, cap, u, rfl, hn, hu⟩ := hv
  obtain ⟨_, hcw, _, _⟩ := un_cases hT
  have hw1 := wt_un hT
  have hlc := kB_len hcw
  have hcc := hc (by omega)
  obtain ⟨ua, un, uc, rfl⟩ := hu.sl
  rw [kB_23]
  show Calls Try.prog 29 #[.agg #[.int .u8 23, .int .u8 0, .slice (some ⟨g, 0, none⟩) 1 cap], .bool b] w _
  have hb := below_new w (.cells #[.int .u8 23, .int .u8 0, .slice (some ⟨g, 0, none⟩) 1 cap] 54)
  have hr := (MapKept.heap_alloc w (.cells #[.int .u8 23, .int .u8 0, .slice (some ⟨g, 0, none⟩) 1 cap] 54)).1
  obtain ⟨n0, n1, n2⟩ := hn.up hb
  have HU : Hid (TrAt (w.alloc (.cells #[.int .u8 23, .int .u8 0, .slice (some ⟨g, 0, none⟩) 1 cap] 54)) c _) := hu.up hb
  unfold treeV at hcc
  have HCC : Hid _ := hcc
  clear hcc
  generalize rootK c = rk at *
  obtain ⟨ro, rp⟩ := rk
  dsimp only at n0 n1 HCC
  simp only [Nat.reduceAdd] at n1 n2
  have hi0 := fun w' => Try.idxT0 g 1 cap w' (by omega)
  have HB : Hid (Below w.heap.size w (w.alloc (.cells #[.int .u8 23, .int .u8 0, .slice (some ⟨g, 0, none⟩) 1 cap] 54))) := hb
  have k0 : (w.alloc (.cells #[.int .u8 23, .int .u8 0, .slice (some ⟨g, 0, none⟩) 1 cap] 54)).cell? ⟨w.heap.size, 0, none⟩ = some (.int .u8 23) := cell_row hr 0
  have k2 : (w.alloc (.cells #[.int .u8 23, .int .u8 0, .slice (some ⟨g, 0, none⟩) 1 cap] 54)).cell? ⟨w.heap.size, 2, none⟩ = some (.slice (some ⟨g, 0, none⟩) 1 cap) := cell_row hr 2
  have hkeep : ∀ w1 w2 : World, (w1.cell? ⟨w.heap.size, 0, none⟩ = some (.int .u8 23) ∧ w1.cell? ⟨w.heap.size, 2, none⟩ = some (.slice (some ⟨g, 0, none⟩) 1 cap) ∧ w1.cell? ⟨g, 0, none⟩ = some (.int .u8 (ro : Int)) ∧ w1.cell? ⟨g, 1, none⟩ = some (.int .u8 (rp : Int)) ∧ w1.cell? ⟨g, 2, none⟩ = some (.slice ua un uc)) → Below w1.heap.size w1 w2 → (w2.cell? ⟨w.heap.size, 0, none⟩ = some (.int .u8 23) ∧ w2.cell? ⟨w.heap.size, 2, none⟩ = some (.slice (some ⟨g, 0, none⟩) 1 cap) ∧ w2.cell? ⟨g, 0, none⟩ = some (.int .u8 (ro : Int)) ∧ w2.cell? ⟨g, 1, none⟩ = some (.int .u8 (rp : Int)) ∧ w2.cell? ⟨g, 2, none⟩ = some (.slice ua un uc)) := fun w1 w2 h hb => ⟨kept_cell h.1 hb, kept_cell h.2.1 hb, kept_cell h.2.2.1 hb, kept_cell h.2.2.2.1 hb, kept_cell h.2.2.2.2 hb⟩
  have HK0 : Hid ((w.alloc (.cells #[.int .u8 23, .int .u8 0, .slice (some ⟨g, 0, none⟩) 1 cap] 54)).cell? ⟨w.heap.size, 0, none⟩ = some (.int .u8 23) ∧ (w.alloc (.cells #[.int .u8 23, .int .u8 0, .slice (some ⟨g, 0, none⟩) 1 cap] 54)).cell? ⟨w.heap.size, 2, none⟩ = some (.slice (some ⟨g, 0, none⟩) 1 cap) ∧ (w.alloc (.cells #[.int .u8 23, .int .u8 0, .slice (some ⟨g, 0, none⟩) 1 cap] 54)).cell? ⟨g, 0, none⟩ = some (.int .u8 (ro : Int)) ∧ (w.alloc (.cells #[.int .u8 23, .int .u8 0, .slice (some ⟨g, 0, none⟩) 1 cap] 54)).cell? ⟨g, 1, none⟩ = some (.int .u8 (rp : Int)) ∧ (w.alloc (.cells #[.int .u8 23, .int .u8 0, .slice (some ⟨g, 0, none⟩) 1 cap] 54)).cell? ⟨g, 2, none⟩ = some (.slice ua un uc)) := ⟨k0, k2, n0, n1, n2⟩
  clear hn hu hc hb hr hT
  unfold RowR
  obtain ⟨Y, hY⟩ : ∃ Y, Y = kB c false ++ [] ++ [(23, 0)] := ⟨_, rfl⟩
  rw [← hY]
  have HY : Hid (Y = kB c false ++ [] ++ [(23, 0)]) := hY
  clear hY
  go_enter Try.func29, Try.ntmps29
  go_wp2
  generalize w.alloc (.cells #[.int .u8 23, .int .u8 0, .slice (some ⟨g, 0, none⟩) 1 cap] 54) = w0 at *
  have hD : Below w0.heap.size w0 w0.drew := (Below.refl _ _).drew
  have hk0 := hkeep _ _ HK0.out hD
  have hq1 := HCC.out false _ _ (TrAt.up hD HU.out)
  have hlb := hlc false
  have HO : Hid (∀ w1 a1 c1, TkSl w1 a1 (kB c false).length c1 (kB c false) → Calls Try.prog 49 #[.slice a1 (kB c false).length c1, .int .u8 23] w1 (RowR Y w1)) := fun w1 a1 c1 t1 => by rw [HY.out]; exact Try.rone_any a1 _ c1 (kB c false) 23 w1 t1 (by decide) (by omega)
  unfold RowR at HO hq1
  generalize kB c false = X at *
  clear HCC HU HK0 hlc hlb
  go_region_held3 (fun w' => w'.cell? ⟨w.heap.size, 0, none⟩ = some (.int .u8 23) ∧ w'.cell? ⟨w.heap.size, 2, none⟩ = some (.slice (some ⟨g, 0, none⟩) 1 cap) ∧ w'.cell? ⟨g, 0, none⟩ = some (.int .u8 (ro : Int)) ∧ w'.cell? ⟨g, 1, none⟩ = some (.int .u8 (rp : Int)) ∧ w'.cell? ⟨g, 2, none⟩ = some (.slice ua un uc)) (first | exact hk0 | exact s1 | exact s2 | fail) (first
    | (go_at_call 29; (with_reducible refine hq1.mono ?_); rintro e w1 ⟨a1, c1, rfl, t1, b1⟩; have s1 := hkeep _ _ hk0 b1; have ho := HO.out w1 a1 c1 t1)
    | (go_at_call 49; (with_reducible refine ho.mono ?_); rintro e w2 ⟨a2, c2, rfl, t2, b2⟩; have s2 := hkeep _ _ s1 b2)
    | fail)
  all_goals
    have HT2 : Hid _ := t2
    have HB2 : Hid _ := below_step (below_step (below_step HB.out hD) b1) b2
    clear s1 s2 t1 t2 b1 b2 ho hq1 hk0
    go_wp2
    go_ret
    exact ⟨a2, c2, rfl, HT2.out, HB2.out⟩
set_option maxRecDepth 100000 in
set_option maxHeartbeats 4000000 in
theorem Try.rk_un_9 (c : Tr) (hc : KC c) (hT : (Tr.un (9, 0) c).WF) : KC (.un (9, 0) c) := by
  intro hwt b v w hv
  obtain ⟨g, cap, u, rfl, hn, hu⟩ := hv
  obtain ⟨_, hcw, _, _⟩ := un_cases hT
  have hw1 := wt_un hT
  have hlc := kB_len hcw
  have hcc := hc (by omega)
  obtain ⟨ua, un, uc, rfl⟩ := hu.sl
  rw [kB_9]
  show Calls Try.prog 29 #[.agg #[.int .u8 9, .int .u8 0, .slice (some ⟨g, 0, none⟩) 1 cap], .bool b] w _
  have hb := below_new w (.cells #[.int .u8 9, .int .u8 0, .slice (some ⟨g, 0, none⟩) 1 cap] 54)
  have hr := (MapKept.heap_alloc w (.cells #[.int .u8 9, .int .u8 0, .slice (some ⟨g, 0, none⟩) 1 cap] 54)).1
  obtain ⟨n0, n1, n2⟩ := hn.up hb
  have HU : Hid (TrAt (w.alloc (.cells #[.int .u8 9, .int .u8 0, .slice (some ⟨g, 0, none⟩) 1 cap] 54)) c _) := hu.up hb
  unfold treeV at hcc
  have HCC : Hid _ := hcc
  clear hcc
  generalize rootK c = rk at *
  obtain ⟨ro, rp⟩ := rk
  dsimp only at n0 n1 HCC
  simp only [Nat.reduceAdd] at n1 n2
  have hi0 := fun w' => Try.idxT0 g 1 cap w' (by omega)
  have HB : Hid (Below w.heap.size w (w.alloc (.cells #[.int .u8 9, .int .u8 0, .slice (some ⟨g, 0, none⟩) 1 cap] 54))) := hb
  have k0 : (w.alloc (.cells #[.int .u8 9, .int .u8 0, .slice (some ⟨g, 0, none⟩) 1 cap] 54)).cell? ⟨w.heap.size, 0, none⟩ = some (.int .u8 9) := cell_row hr 0
  have k2 : (w.alloc (.cells #[.int .u8 9, .int .u8 0, .slice (some ⟨g, 0, none⟩) 1 cap] 54)).cell? ⟨w.heap.size, 2, none⟩ = some (.slice (some ⟨g, 0, none⟩) 1 cap) := cell_row hr 2
  have hkeep : ∀ w1 w2 : World, (w1.cell? ⟨w.heap.size, 0, none⟩ = some (.int .u8 9) ∧ w1.cell? ⟨w.heap.size, 2, none⟩ = some (.slice (some ⟨g, 0, none⟩) 1 cap) ∧ w1.cell? ⟨g, 0, none⟩ = some (.int .u8 (ro : Int)) ∧ w1.cell? ⟨g, 1, none⟩ = some (.int .u8 (rp : Int)) ∧ w1.cell? ⟨g, 2, none⟩ = some (.slice ua un uc)) → Below w1.heap.size w1 w2 → (w2.cell? ⟨w.heap.size, 0, none⟩ = some (.int .u8 9) ∧ w2.cell? ⟨w.heap.size, 2, none⟩ = some (.slice (some ⟨g, 0, none⟩) 1 cap) ∧ w2.cell? ⟨g, 0, none⟩ = some (.int .u8 (ro : Int)) ∧ w2.cell? ⟨g, 1, none⟩ = some (.int .u8 (rp : Int)) ∧ w2.cell? ⟨g, 2, none⟩ = some (.slice ua un uc)) := fun w1 w2 h hb => ⟨kept_cell h.1 hb, kept_cell h.2.1 hb, kept_cell h.2.2.1 hb, kept_cell h.2.2.2.1 hb, kept_cell h.2.2.2.2 hb⟩
  have HK0 : Hid ((w.alloc (.cells #[.int .u8 9, .int .u8 0, .slice (some ⟨g, 0, none⟩) 1 cap] 54)).cell? ⟨w.heap.size, 0, none⟩ = some (.int .u8 9) ∧ (w.alloc (.cells #[.int .u8 9, .int .u8 0, .slice (some ⟨g, 0, none⟩) 1 cap] 54)).cell? ⟨w.heap.size, 2, none⟩ = some (.slice (some ⟨g, 0, none⟩) 1 cap) ∧ (w.alloc (.cells #[.int .u8 9, .int .u8 0, .slice (some ⟨g, 0, none⟩) 1 cap] 54)).cell? ⟨g, 0, none⟩ = some (.int .u8 (ro : Int)) ∧ (w.alloc (.cells #[.int .u8 9, .int .u8 0, .slice (some ⟨g, 0, none⟩) 1 cap] 54)).cell? ⟨g, 1, none⟩ = some (.int .u8 (rp : Int)) ∧ (w.alloc (.cells #[.int .u8 9, .int .u8 0, .slice (some ⟨g, 0, none⟩) 1 cap] 54)).cell? ⟨g, 2, none⟩ = some (.slice ua un uc)) := ⟨k0, k2, n0, n1, n2⟩
  clear hn hu hc hb hr hT
  unfold RowR
  obtain ⟨Y, hY⟩ : ∃ Y, Y = [(tn 0 1 b, 0)] ++ kB c b ++ [(tn 15 16 b, 0)] := ⟨_, rfl⟩
  rw [← hY]
  have HY : Hid (Y = [(tn 0 1 b, 0)] ++ kB c b ++ [(tn 15 16 b, 0)]) := hY
  clear hY
  go_enter Try.func29, Try.ntmps29
  go_wp2
  generalize w.alloc (.cells #[.int .u8 9, .int .u8 0, .slice (some ⟨g, 0, none⟩) 1 cap] 54) = w0 at *
  have hD : Below w0.heap.size w0 w0.drew := (Below.refl _ _).drew
  have hk0 := hkeep _ _ HK0.out hD
  have htu := Try.rtu_0_1 b w0.drew
  have hz1 : tn 0 1 b < 256 := tn_lt b (by decide) (by decide)
  have hz2 : tn 15 16 b < 256 := tn_lt b (by decide) (by decide)
  have htu2 := fun w' => Try.rtu_15_16 b w'
  have hto := Try.rtok_any (tn 0 1 b) w0.drew
  have hlb := hlc b
  have HQ : Hid (∀ w1, Below w0.drew.heap.size w0.drew w1 → Calls Try.prog 29 _ w1 (RowR (kB c b) w1)) := fun w1 h1 => HCC.out b _ _ (TrAt.up (below_step hD h1) HU.out)
  have HO : Hid (∀ w1 a1 c1 a2 c2, TkSl w1 a1 1 c1 [(tn 0 1 b, 0)] → TkSl w1 a2 (kB c b).length c2 (kB c b) → Calls Try.prog 51 #[.slice a1 1 c1, .slice a2 (kB c b).length c2, .int .u8 (tn 15 16 b : Int)] w1 (RowR Y w1)) := fun w1 a1 c1 a2 c2 t1 t2 => by rw [HY.out]; exact Try.rtwo_any a1 1 c1 _ a2 _ c2 (kB c b) (tn 15 16 b) w1 t1 t2 hz2 (by omega) (by omega)
  unfold RowR at HO HQ
  generalize kB c b = X at *
  generalize tn 0 1 b = z1 at *
  generalize tn 15 16 b = z2 at *
  clear HCC HU HK0 hlc hlb
  go_region_held3 (fun w' => w'.cell? ⟨w.heap.size, 0, none⟩ = some (.int .u8 9) ∧ w'.cell? ⟨w.heap.size, 2, none⟩ = some (.slice (some ⟨g, 0, none⟩) 1 cap) ∧ w'.cell? ⟨g, 0, none⟩ = some (.int .u8 (ro : Int)) ∧ w'.cell? ⟨g, 1, none⟩ = some (.int .u8 (rp : Int)) ∧ w'.cell? ⟨g, 2, none⟩ = some (.slice ua un uc)) (first | exact hk0 | exact s1 | exact s2 | exact s3 | exact hkeep _ _ s1 (below_new _ _) | exact hkeep _ _ s2 (below_new _ _) | fail) (first
    | (go_at_call 50; (with_reducible refine htu.mono ?_); rintro e w' ⟨rfl, rfl⟩)
    | (go_at_call 52; (with_reducible refine hto.mono ?_); rintro e w1 ⟨rfl, b1⟩; have s1 := hkeep _ _ hk0 b1; have hqA := HQ.out w1 b1; have hqB := HQ.out (w1.alloc (.cells #[.int .u8 (z1 : Int), .int .u8 0] 37)) (below_step b1 (below_new _ _)))
    | (go_at_call 29; (with_reducible refine hqA.mono ?_); rintro e w2 ⟨a2, c2, rfl, t2, b2⟩; have s2 := hkeep _ _ s1 b2; have ho := HO.out (w2.alloc (.cells #[.int .u8 (z1 : Int), .int .u8 0] 37)) _ _ _ _ (blk_tk (Blk.new w2 37 z1 0) hz1 (by decide)) (t2.up (below_new _ _)); have hbz := below_step (below_step b1 b2) (below_new w2 (.cells #[.int .u8 (z1 : Int), .int .u8 0] 37)); have htw := htu2 w2; have htx := htu2 (w2.alloc (.cells #[.int .u8 (z1 : Int), .int .u8 0] 37)))
    | (go_at_call 29; (with_reducible refine hqB.mono ?_); rintro e w2 ⟨a2, c2, rfl, t2, b2⟩; have s2 := hkeep _ _ s1 (below_step (below_new w1 (.cells #[.int .u8 (z1 : Int), .int .u8 0] 37)) b2); have ho := HO.out w2 _ _ _ _ ((blk_tk (Blk.new w1 37 z1 0) hz1 (by decide)).up b2) t2; have hbz := below_step (below_step b1 (below_new w1 (.cells #[.int .u8 (z1 : Int), .int .u8 0] 37))) b2; have htw := htu2 w2; have htx := htu2 (w2.alloc (.cells #[.int .u8 (z1 : Int), .int .u8 0] 37)))
    | (go_at_call 50; (with_reducible refine htw.mono ?_); rintro e w' ⟨rfl, rfl⟩)
    | (go_at_call 50; (with_reducible refine htx.mono ?_); rintro e w' ⟨rfl, rfl⟩)
    | (go_at_call 51; (with_reducible refine ho.mono ?_); rintro e w3 ⟨a3, c3, rfl, t3, b3⟩; have hbf := below_step hbz b3; have s3 := hkeep _ _ hk0 hbf)
    | fail)
  all_goals
    have HT3 : Hid _ := t3
    have HB3 : Hid _ := below_step (below_step HB.out hD) hbf
    clear s1 s2 s3 t2 t3 b1 b2 b3 ho hbz hbf htw htx hqA hqB hk0
    go_wp2
    go_ret
    exact ⟨a3, c3, rfl, HT3.out, HB3.out⟩
set_option maxRecDepth 100000 in
set_option maxHeartbeats 4000000 in
theorem Try.rk_un_10 (c : Tr) (hc : KC c) (hT : (Tr.un (10, 0) c).WF) : KC (.un (10, 0) c) := by
  intro hwt b v w hv
  obtain ⟨g, cap, u, rfl, hn, hu⟩ := hv
  obtain ⟨_, hcw, _, _⟩ := un_cases hT
  have hw1 := wt_un hT
  have hlc := kB_len hcw
  have hcc := hc (by omega)
  obtain ⟨ua, un, uc, rfl⟩ := hu.sl
  rw [kB_10]
  show Calls Try.prog 29 #[.agg #[.int .u8 10, .int .u8 0, .slice (some ⟨g, 0, none⟩) 1 cap], .bool b] w _
  have hb := below_new w (.cells #[.int .u8 10, .int .u8 0, .slice (some ⟨g, 0, none⟩) 1 cap] 54)
  have hr := (MapKept.heap_alloc w (.cells #[.int .u8 10, .int .u8 0, .slice (some ⟨g, 0, none⟩) 1 cap] 54)).1
  obtain ⟨n0, n1, n2⟩ := hn.up hb
  have HU : Hid (TrAt (w.alloc (.cells #[.int .u8 10, .int .u8 0, .slice (some ⟨g, 0, none⟩) 1 cap] 54)) c _) := hu.up hb
  unfold treeV at hcc
  have HCC : Hid _ := hcc
  clear hcc
  generalize rootK c = rk at *
  obtain ⟨ro, rp⟩ := rk
  dsimp only at n0 n1 HCC
  simp only [Nat.reduceAdd] at n1 n2
  have hi0 := fun w' => Try.idxT0 g 1 cap w' (by omega)
  have HB : Hid (Below w.heap.size w (w.alloc (.cells #[.int .u8 10, .int .u8 0, .slice (some ⟨g, 0, none⟩) 1 cap] 54))) := hb
  have k0 : (w.alloc (.cells #[.int .u8 10, .int .u8 0, .slice (some ⟨g, 0, none⟩) 1 cap] 54)).cell? ⟨w.heap.size, 0, none⟩ = some (.int .u8 10) := cell_row hr 0
  have k2 : (w.alloc (.cells #[.int .u8 10, .int .u8 0, .slice (some ⟨g, 0, none⟩) 1 cap] 54)).cell? ⟨w.heap.size, 2, none⟩ = some (.slice (some ⟨g, 0, none⟩) 1 cap) := cell_row hr 2
  have hkeep : ∀ w1 w2 : World, (w1.cell? ⟨w.heap.size, 0, none⟩ = some (.int .u8 10) ∧ w1.cell? ⟨w.heap.size, 2, none⟩ = some (.slice (some ⟨g, 0, none⟩) 1 cap) ∧ w1.cell? ⟨g, 0, none⟩ = some (.int .u8 (ro : Int)) ∧ w1.cell? ⟨g, 1, none⟩ = some (.int .u8 (rp : Int)) ∧ w1.cell? ⟨g, 2, none⟩ = some (.slice ua un uc)) → Below w1.heap.size w1 w2 → (w2.cell? ⟨w.heap.size, 0, none⟩ = some (.int .u8 10) ∧ w2.cell? ⟨w.heap.size, 2, none⟩ = some (.slice (some ⟨g, 0, none⟩) 1 cap) ∧ w2.cell? ⟨g, 0, none⟩ = some (.int .u8 (ro : Int)) ∧ w2.cell? ⟨g, 1, none⟩ = some (.int .u8 (rp : Int)) ∧ w2.cell? ⟨g, 2, none⟩ = some (.slice ua un uc)) := fun w1 w2 h hb => ⟨kept_cell h.1 hb, kept_cell h.2.1 hb, kept_cell h.2.2.1 hb, kept_cell h.2.2.2.1 hb, kept_cell h.2.2.2.2 hb⟩
  have HK0 : Hid ((w.alloc (.cells #[.int .u8 10, .int .u8 0, .slice (some ⟨g, 0, none⟩) 1 cap] 54)).cell? ⟨w.heap.size, 0, none⟩ = some (.int .u8 10) ∧ (w.alloc (.cells #[.int .u8 10, .int .u8 0, .slice (some ⟨g, 0, none⟩) 1 cap] 54)).cell? ⟨w.heap.size, 2, none⟩ = some (.slice (some ⟨g, 0, none⟩) 1 cap) ∧ (w.alloc (.cells #[.int .u8 10, .int .u8 0, .slice (some ⟨g, 0, none⟩) 1 cap] 54)).cell? ⟨g, 0, none⟩ = some (.int .u8 (ro : Int)) ∧ (w.alloc (.cells #[.int .u8 10, .int .u8 0, .slice (some ⟨g, 0, none⟩) 1 cap] 54)).cell? ⟨g, 1, none⟩ = some (.int .u8 (rp : Int)) ∧ (w.alloc (.cells #[.int .u8 10, .int .u8 0, .slice (some ⟨g, 0, none⟩) 1 cap] 54)).cell? ⟨g, 2, none⟩ = some (.slice ua un uc)) := ⟨k0, k2, n0, n1, n2⟩
  clear hn hu hc hb hr hT
  unfold RowR
  obtain ⟨Y, hY⟩ : ∃ Y, Y = [(tn 1 0 b, 0)] ++ kB c b ++ [(tn 16 15 b, 0)] := ⟨_, rfl⟩
  rw [← hY]
  have HY : Hid (Y = [(tn 1 0 b, 0)] ++ kB c b ++ [(tn 16 15 b, 0)]) := hY
  clear hY
  go_enter Try.func29, Try.ntmps29
  go_wp2
  generalize w.alloc (.cells #[.int .u8 10, .int .u8 0, .slice (some ⟨g, 0, none⟩) 1 cap] 54) = w0 at *
  have hD : Below w0.heap.size w0 w0.drew := (Below.refl _ _).drew
  have hk0 := hkeep _ _ HK0.out hD
  have htu := Try.rtu_1_0 b w0.drew
  have hz1 : tn 1 0 b < 256 := tn_lt b (by decide) (by decide)
  have hz2 : tn 16 15 b < 256 := tn_lt b (by decide) (by decide)
  have htu2 := fun w' => Try.rtu_16_15 b w'
  have hto := Try.rtok_any (tn 1 0 b) w0.drew
  have hlb := hlc b
  have HQ : Hid (∀ w1, Below w0.drew.heap.size w0.drew w1 → Calls Try.prog 29 _ w1 (RowR (kB c b) w1)) := fun w1 h1 => HCC.out b _ _ (TrAt.up (below_step hD h1) HU.out)
  have HO : Hid (∀ w1 a1 c1 a2 c2, TkSl w1 a1 1 c1 [(tn 1 0 b, 0)] → TkSl w1 a2 (kB c b).length c2 (kB c b) → Calls Try.prog 51 #[.slice a1 1 c1, .slice a2 (kB c b).length c2, .int .u8 (tn 16 15 b : Int)] w1 (RowR Y w1)) := fun w1 a1 c1 a2 c2 t1 t2 => by rw [HY.out]; exact Try.rtwo_any a1 1 c1 _ a2 _ c2 (kB c b) (tn 16 15 b) w1 t1 t2 hz2 (by omega) (by omega)
  unfold RowR at HO HQ
  generalize kB c b = X at *
  generalize tn 1 0 b = z1 at *
  generalize tn 16 15 b = z2 at *
  clear HCC HU HK0 hlc hlb
  go_region_held3 (fun w' => w'.cell? ⟨w.heap.size, 0, none⟩ = some (.int .u8 10) ∧ w'.cell? ⟨w.heap.size, 2, none⟩ = some (.slice (some ⟨g, 0, none⟩) 1 cap) ∧ w'.cell? ⟨g, 0, none⟩ = some (.int .u8 (ro : Int)) ∧ w'.cell? ⟨g, 1, none⟩ = some (.int .u8 (rp : Int)) ∧ w'.cell? ⟨g, 2, none⟩ = some (.slice ua un uc)) (first | exact hk0 | exact s1 | exact s2 | exact s3 | exact hkeep _ _ s1 (below_new _ _) | exact hkeep _ _ s2 (below_new _ _) | fail) (first
    | (go_at_call 50; (with_reducible refine htu.mono ?_); rintro e w' ⟨rfl, rfl⟩)
    | (go_at_call 52; (with_reducible refine hto.mono ?_); rintro e w1 ⟨rfl, b1⟩; have s1 := hkeep _ _ hk0 b1; have hqA := HQ.out w1 b1; have hqB := HQ.out (w1.alloc (.cells #[.int .u8 (z1 : Int), .int .u8 0] 37)) (below_step b1 (below_new _ _)))
    | (go_at_call 29; (with_reducible refine hqA.mono ?_); rintro e w2 ⟨a2, c2, rfl, t2, b2⟩; have s2 := hkeep _ _ s1 b2; have ho := HO.out (w2.alloc (.cells #[.int .u8 (z1 : Int), .int .u8 0] 37)) _ _ _ _ (blk_tk (Blk.new w2 37 z1 0) hz1 (by decide)) (t2.up (below_new _ _)); have hbz := below_step (below_step b1 b2) (below_new w2 (.cells #[.int .u8 (z1 : Int), .int .u8 0] 37)); have htw := htu2 w2; have htx := htu2 (w2.alloc (.cells #[.int .u8 (z1 : Int), .int .u8 0] 37)))
    | (go_at_call 29; (with_reducible refine hqB.mono ?_); rintro e w2 ⟨a2, c2, rfl, t2, b2⟩; have s2 := hkeep _ _ s1 (below_step (below_new w1 (.cells #[.int .u8 (z1 : Int), .int .u8 0] 37)) b2); have ho := HO.out w2 _ _ _ _ ((blk_tk (Blk.new w1 37 z1 0) hz1 (by decide)).up b2) t2; have hbz := below_step (below_step b1 (below_new w1 (.cells #[.int .u8 (z1 : Int), .int .u8 0] 37))) b2; have htw := htu2 w2; have htx := htu2 (w2.alloc (.cells #[.int .u8 (z1 : Int), .int .u8 0] 37)))
    | (go_at_call 50; (with_reducible refine htw.mono ?_); rintro e w' ⟨rfl, rfl⟩)
    | (go_at_call 50; (with_reducible refine htx.mono ?_); rintro e w' ⟨rfl, rfl⟩)
    | (go_at_call 51; (with_reducible refine ho.mono ?_); rintro e w3 ⟨a3, c3, rfl, t3, b3⟩; have hbf := below_step hbz b3; have s3 := hkeep _ _ hk0 hbf)
    | fail)
  all_goals
    have HT3 : Hid _ := t3
    have HB3 : Hid _ := below_step (below_step HB.out hD) hbf
    clear s1 s2 s3 t2 t3 b1 b2 b3 ho hbz hbf htw htx hqA hqB hk0
    go_wp2
    go_ret
    exact ⟨a3, c3, rfl, HT3.out, HB3.out⟩
set_option maxRecDepth 100000 in
set_option maxHeartbeats 4000000 in
theorem Try.rk_bin_11 (c d : Tr) (hc : KC c) (hd : KC d) (hT : (Tr.bin (11, 0) c d).WF) : KC (.bin (11, 0) c d) := by
  intro hwt b v w hv
  obtain ⟨g, cap, u, u', rfl, hn, hn', hu, hu'⟩ := hv
  obtain ⟨_, hcw, hdw, _, _⟩ := bin_cases hT
  have hw1 := wt_bin hT
  have hlc := kB_len hcw
  have hld := kB_len hdw
  have hcc := hc (by omega)
  have hdd := hd (by omega)
  obtain ⟨ua, un, uc, rfl⟩ := hu.sl
  obtain ⟨va, vn, vc, rfl⟩ := hu'.sl
  rw [kB_11]
  show Calls Try.prog 29 #[.agg #[.int .u8 11, .int .u8 0, .slice (some ⟨g, 0, none⟩) 2 cap], .bool b] w _
  have hb := below_new w (.cells #[.int .u8 11, .int .u8 0, .slice (some ⟨g, 0, none⟩) 2 cap] 54)
  have hr := (MapKept.heap_alloc w (.cells #[.int .u8 11, .int .u8 0, .slice (some ⟨g, 0, none⟩) 2 cap] 54)).1
  obtain ⟨n0, n1, n2⟩ := hn.up hb
  obtain ⟨m0, m1, m2⟩ := hn'.up hb
  have HU : Hid (TrAt (w.alloc (.cells #[.int .u8 11, .int .u8 0, .slice (some ⟨g, 0, none⟩) 2 cap] 54)) c _) := hu.up hb
  have HU' : Hid (TrAt (w.alloc (.cells #[.int .u8 11, .int .u8 0, .slice (some ⟨g, 0, none⟩) 2 cap] 54)) d _) := hu'.up hb
  unfold treeV at hcc hdd
  have HCC : Hid _ := hcc
  have HDD : Hid _ := hdd
  clear hcc hdd
  generalize rootK c = rk at *
  obtain ⟨ro, rp⟩ := rk
  generalize rootK d = rd at *
  obtain ⟨so, sp⟩ := rd
  dsimp only at n0 n1 m0 m1 HCC HDD
  simp only [Nat.reduceAdd] at n1 n2 m1 m2
  have hi0 := fun w' => Try.idxT0 g 2 cap w' (by omega)
  have hi1 := fun w' => Try.idxT1 g 2 cap w' (by omega)
  have HB : Hid (Below w.heap.size w (w.alloc (.cells #[.int .u8 11, .int .u8 0, .slice (some ⟨g, 0, none⟩) 2 cap] 54))) := hb
  have k0 : (w.alloc (.cells #[.int .u8 11, .int .u8 0, .slice (some ⟨g, 0, none⟩) 2 cap] 54)).cell? ⟨w.heap.size, 0, none⟩ = some (.int .u8 11) := cell_row hr 0
  have k2 : (w.alloc (.cells #[.int .u8 11, .int .u8 0, .slice (some ⟨g, 0, none⟩) 2 cap] 54)).cell? ⟨w.heap.size, 2, none⟩ = some (.slice (some ⟨g, 0, none⟩) 2 cap) := cell_row hr 2
  have hkeep : ∀ w1 w2 : World, (w1.cell? ⟨w.heap.size, 0, none⟩ = some (.int .u8 11) ∧ w1.cell? ⟨w.heap.size, 2, none⟩ = some (.slice (some ⟨g, 0, none⟩) 2 cap) ∧ w1.cell? ⟨g, 0, none⟩ = some (.int .u8 (ro : Int)) ∧ w1.cell? ⟨g, 1, none⟩ = some (.int .u8 (rp : Int)) ∧ w1.cell? ⟨g, 2, none⟩ = some (.slice ua un uc) ∧ w1.cell? ⟨g, 3, none⟩ = some (.int .u8 (so : Int)) ∧ w1.cell? ⟨g, 4, none⟩ = some (.int .u8 (sp : Int)) ∧ w1.cell? ⟨g, 5, none⟩ = some (.slice va vn vc)) → Below w1.heap.size w1 w2 → (w2.cell? ⟨w.heap.size, 0, none⟩ = some (.int .u8 11) ∧ w2.cell? ⟨w.heap.size, 2, none⟩ = some (.slice (some ⟨g, 0, none⟩) 2 cap) ∧ w2.cell? ⟨g, 0, none⟩ = some (.int .u8 (ro : Int)) ∧ w2.cell? ⟨g, 1, none⟩ = some (.int .u8 (rp : Int)) ∧ w2.cell? ⟨g, 2, none⟩ = some (.slice ua un uc) ∧ w2.cell? ⟨g, 3, none⟩ = some (.int .u8 (so : Int)) ∧ w2.cell? ⟨g, 4, none⟩ = some (.int .u8 (sp : Int)) ∧ w2.cell? ⟨g, 5, none⟩ = some (.slice va vn vc)) := fun w1 w2 h hb => ⟨kept_cell h.1 hb, kept_cell h.2.1 hb, kept_cell h.2.2.1 hb, kept_cell h.2.2.2.1 hb, kept_cell h.2.2.2.2.1 hb, kept_cell h.2.2.2.2.2.1 hb, kept_cell h.2.2.2.2.2.2.1 hb, kept_cell h.2.2.2.2.2.2.2 hb⟩
  have HK0 : Hid ((w.alloc (.cells #[.int .u8 11, .int .u8 0, .slice (some ⟨g, 0, none⟩) 2 cap] 54)).cell? ⟨w.heap.size, 0, none⟩ = some (.int .u8 11) ∧ (w.alloc (.cells #[.int .u8 11, .int .u8 0, .slice (some ⟨g, 0, none⟩) 2 cap] 54)).cell? ⟨w.heap.size, 2, none⟩ = some (.slice (some ⟨g, 0, none⟩) 2 cap) ∧ (w.alloc (.cells #[.int .u8 11, .int .u8 0, .slice (some ⟨g, 0, none⟩) 2 cap] 54)).cell? ⟨g, 0, none⟩ = some (.int .u8 (ro : Int)) ∧ (w.alloc (.cells #[.int .u8 11, .int .u8 0, .slice (some ⟨g, 0, none⟩) 2 cap] 54)).cell? ⟨g, 1, none⟩ = some (.int .u8 (rp : Int)) ∧ (w.alloc (.cells #[.int .u8 11, .int .u8 0, .slice (some ⟨g, 0, none⟩) 2 cap] 54)).cell? ⟨g, 2, none⟩ = some (.slice ua un uc) ∧ (w.alloc (.cells #[.int .u8 11, .int .u8 0, .slice (some ⟨g, 0, none⟩) 2 cap] 54)).cell? ⟨g, 3, none⟩ = some (.int .u8 (so : Int)) ∧ (w.alloc (.cells #[.int .u8 11, .int .u8 0, .slice (some ⟨g, 0, none⟩) 2 cap] 54)).cell? ⟨g, 4, none⟩ = some (.int .u8 (sp : Int)) ∧ (w.alloc (.cells #[.int .u8 11, .int .u8 0, .slice (some ⟨g, 0, none⟩) 2 cap] 54)).cell? ⟨g, 5, none⟩ = some (.slice va vn vc)) := ⟨k0, k2, n0, n1, n2, m0, m1, m2⟩
  clear hn hu hc hb hr hT hn' hu' hd
  unfold RowR
  obtain ⟨Y, hY⟩ : ∃ Y, Y = kB c b ++ kB d b ++ [(tn 11 12 b, 0)] := ⟨_, rfl⟩
  rw [← hY]
  have HY : Hid (Y = kB c b ++ kB d b ++ [(tn 11 12 b, 0)]) := hY
  clear hY
  go_enter Try.func29, Try.ntmps29
  go_wp2
  generalize w.alloc (.cells #[.int .u8 11, .int .u8 0, .slice (some ⟨g, 0, none⟩) 2 cap] 54) = w0 at *
  have hD : Below w0.heap.size w0 w0.drew := (Below.refl _ _).drew
  have hk0 := hkeep _ _ HK0.out hD
  have hq1 := HCC.out b _ _ (TrAt.up hD HU.out)
  have hlb := hlc b
  have hlb2 := hld b
  have hz2 : tn 11 12 b < 256 := tn_lt b (by decide) (by decide)
  have htu2 := fun w' => Try.rtu_11_12 b w'
  have HQ : Hid (∀ w1, Below w0.drew.heap.size w0.drew w1 → Calls Try.prog 29 _ w1 (RowR (kB d b) w1)) := fun w1 h1 => HDD.out b _ _ (TrAt.up (below_step hD h1) HU'.out)
  have HO : Hid (∀ w1 a1 c1 a2 c2, TkSl w1 a1 (kB c b).length c1 (kB c b) → TkSl w1 a2 (kB d b).length c2 (kB d b) → Calls Try.prog 51 #[.slice a1 (kB c b).length c1, .slice a2 (kB d b).length c2, .int .u8 (tn 11 12 b : Int)] w1 (RowR Y w1)) := fun w1 a1 c1 a2 c2 t1 t2 => by rw [HY.out]; exact Try.rtwo_any a1 _ c1 (kB c b) a2 _ c2 (kB d b) (tn 11 12 b) w1 t1 t2 hz2 (by omega) (by omega)
  unfold RowR at HO HQ hq1
  generalize kB c b = X1 at *
  generalize kB d b = X2 at *
  generalize tn 11 12 b = z2 at *
  clear HCC HDD HU HU' HK0 hlc hld hlb hlb2
  go_region_held3 (fun w' => w'.cell? ⟨w.heap.size, 0, none⟩ = some (.int .u8 11) ∧ w'.cell? ⟨w.heap.size, 2, none⟩ = some (.slice (some ⟨g, 0, none⟩) 2 cap) ∧ w'.cell? ⟨g, 0, none⟩ = some (.int .u8 (ro : Int)) ∧ w'.cell? ⟨g, 1, none⟩ = some (.int .u8 (rp : Int)) ∧ w'.cell? ⟨g, 2, none⟩ = some (.slice ua un uc) ∧ w'.cell? ⟨g, 3, none⟩ = some (.int .u8 (so : Int)) ∧ w'.cell? ⟨g, 4, none⟩ = some (.int .u8 (sp : Int)) ∧ w'.cell? ⟨g, 5, none⟩ = some (.slice va vn vc)) (first | exact hk0 | exact s1 | exact s2 | exact s3 | fail) (first
    | (go_at_call 29; (with_reducible refine hq1.mono ?_); rintro e w1 ⟨a1, c1, rfl, t1, b1⟩; have s1 := hkeep _ _ hk0 b1; have hq2 := HQ.out w1 b1)
    | (go_at_call 29; (with_reducible refine hq2.mono ?_); rintro e w2 ⟨a2, c2, rfl, t2, b2⟩; have s2 := hkeep _ _ s1 b2; have ho := HO.out w2 a1 c1 a2 c2 (t1.up b2) t2; have htw := htu2 w2)
    | (go_at_call 50; (with_reducible refine htw.mono ?_); rintro e w' ⟨rfl, rfl⟩)
    | (go_at_call 51; (with_reducible refine ho.mono ?_); rintro e w3 ⟨a3, c3, rfl, t3, b3⟩; have s3 := hkeep _ _ s2 b3)
    | fail)
  all_goals
    have HT3 : Hid _ := t3
    have HB3 : Hid _ := below_step (below_step (below_step (below_step HB.out hD) b1) b2) b3
    clear s1 s2 s3 t1 t2 t3 b1 b2 b3 ho htw hq1 hq2 hk0
    go_wp2
    go_ret
    exact ⟨a3, c3, rfl, HT3.out, HB3.out⟩
set_option maxRecDepth 100000 in
set_option maxHeartbeats 4000000 in
theorem Try.rk_bin_12 (c d : Tr) (hc : KC c) (hd : KC d) (hT : (Tr.bin (12, 0) c d).WF) : KC (.bin (12, 0) c d) := by
  intro hwt b v w hv
  obtain ⟨g, cap, u, u', rfl, hn, hn', hu, hu'⟩ := hv
  obtain ⟨_, hcw, hdw, _, _⟩ := bin_cases hT
  have hw1 := wt_bin hT
  have hlc := kB_len hcw
  have hld := kB_len hdw
  have hcc := hc (by omega)
  have hdd := hd (by omega)
  obtain ⟨ua, un, uc, rfl⟩ := hu.sl
  obtain ⟨va, vn, vc, rfl⟩ := hu'.sl
  rw [kB_12]
  show Calls Try.prog 29 #[.agg #[.int .u8 12, .int .u8 0, .slice (some ⟨g, 0, none⟩) 2 cap], .bool b] w _
  have hb := below_new w (.cells #[.int .u8 12, .int .u8 0, .slice (some ⟨g, 0, none⟩) 2 cap] 54)
  have hr := (MapKept.heap_alloc w (.cells #[.int .u8 12, .int .u8 0, .slice (some ⟨g, 0, none⟩) 2 cap] 54)).1
  obtain ⟨n0, n1, n2⟩ := hn.up hb
  obtain ⟨m0, m1, m2⟩ := hn'.up hb
  have HU : Hid (TrAt (w.alloc (.cells #[.int .u8 12, .int .u8 0, .slice (some ⟨g, 0, none⟩) 2 cap] 54)) c _) := hu.up hb
  have HU' : Hid (TrAt (w.alloc (.cells #[.int .u8 12, .int .u8 0, .slice (some ⟨g, 0, none⟩) 2 cap] 54)) d _) := hu'.up hb
  unfold treeV at hcc hdd
  have HCC : Hid _ := hcc
  have HDD : Hid _ := hdd
  clear hcc hdd
  generalize rootK c = rk at *
  obtain ⟨ro, rp⟩ := rk
  generalize rootK d = rd at *
  obtain ⟨so, sp⟩ := rd
  dsimp only at n0 n1 m0 m1 HCC HDD
  simp only [Nat.reduceAdd] at n1 n2 m1 m2
  have hi0 := fun w' => Try.idxT0 g 2 cap w' (by omega)
  have hi1 := fun w' => Try.idxT1 g 2 cap w' (by omega)
  have HB : Hid (Below w.heap.size w (w.alloc (.cells #[.int .u8 12, .int .u8 0, .slice (some ⟨g, 0, none⟩) 2 cap] 54))) := hb
  have k0 : (w.alloc (.cells #[.int .u8 12, .int .u8 0, .slice (some ⟨g, 0, none⟩) 2 cap] 54)).cell? ⟨w.heap.size, 0, none⟩ = some (.int .u8 12) := cell_row hr 0
  have k2 : (w.alloc (.cells #[.int .u8 12, .int .u8 0, .slice (some ⟨g, 0, none⟩) 2 cap] 54)).cell? ⟨w.heap.size, 2, none⟩ = some (.slice (some ⟨g, 0, none⟩) 2 cap) := cell_row hr 2
  have hkeep : ∀ w1 w2 : World, (w1.cell? ⟨w.heap.size, 0, none⟩ = some (.int .u8 12) ∧ w1.cell? ⟨w.heap.size, 2, none⟩ = some (.slice (some ⟨g, 0, none⟩) 2 cap) ∧ w1.cell? ⟨g, 0, none⟩ = some (.int .u8 (ro : Int)) ∧ w1.cell? ⟨g, 1, none⟩ = some (.int .u8 (rp : Int)) ∧ w1.cell? ⟨g, 2, none⟩ = some (.slice ua un uc) ∧ w1.cell? ⟨g, 3, none⟩ = some (.int .u8 (so : Int)) ∧ w1.cell? ⟨g, 4, none⟩ = some (.int .u8 (sp : Int)) ∧ w1.cell? ⟨g, 5, none⟩ = some (.slice va vn vc)) → Below w1.heap.size w1 w2 → (w2.cell? ⟨w.heap.size, 0, none⟩ = some (.int .u8 12) ∧ w2.cell? ⟨w.heap.size, 2, none⟩ = some (.slice (some ⟨g, 0, none⟩) 2 cap) ∧ w2.cell? ⟨g, 0, none⟩ = some (.int .u8 (ro : Int)) ∧ w2.cell? ⟨g, 1, none⟩ = some (.int .u8 (rp : Int)) ∧ w2.cell? ⟨g, 2, none⟩ = some (.slice ua un uc) ∧ w2.cell? ⟨g, 3, none⟩ = some (.int .u8 (so : Int)) ∧ w2.cell? ⟨g, 4, none⟩ = some (.int .u8 (sp : Int)) ∧ w2.cell? ⟨g, 5, none⟩ = some (.slice va vn vc)) := fun w1 w2 h hb => ⟨kept_cell h.1 hb, kept_cell h.2.1 hb, kept_cell h.2.2.1 hb, kept_cell h.2.2.2.1 hb, kept_cell h.2.2.2.2.1 hb, kept_cell h.2.2.2.2.2.1 hb, kept_cell h.2.2.2.2.2.2.1 hb, kept_cell h.2.2.2.2.2.2.2 hb⟩
  have HK0 : Hid ((w.alloc (.cells #[.int .u8 12, .int .u8 0, .slice (some ⟨g, 0, none⟩) 2 cap] 54)).cell? ⟨w.heap.size, 0, none⟩ = some (.int .u8 12) ∧ (w.alloc (.cells #[.int .u8 12, .int .u8 0, .slice (some ⟨g, 0, none⟩) 2 cap] 54)).cell? ⟨w.heap.size, 2, none⟩ = some (.slice (some ⟨g, 0, none⟩) 2 cap) ∧ (w.alloc (.cells #[.int .u8 12, .int .u8 0, .slice (some ⟨g, 0, none⟩) 2 cap] 54)).cell? ⟨g, 0, none⟩ = some (.int .u8 (ro : Int)) ∧ (w.alloc (.cells #[.int .u8 12, .int .u8 0, .slice (some ⟨g, 0, none⟩) 2 cap] 54)).cell? ⟨g, 1, none⟩ = some (.int .u8 (rp : Int)) ∧ (w.alloc (.cells #[.int .u8 12, .int .u8 0, .slice (some ⟨g, 0, none⟩) 2 cap] 54)).cell? ⟨g, 2, none⟩ = some (.slice ua un uc) ∧ (w.alloc (.cells #[.int .u8 12, .int .u8 0, .slice (some ⟨g, 0, none⟩) 2 cap] 54)).cell? ⟨g, 3, none⟩ = some (.int .u8 (so : Int)) ∧ (w.alloc (.cells #[.int .u8 12, .int .u8 0, .slice (some ⟨g, 0, none⟩) 2 cap] 54)).cell? ⟨g, 4, none⟩ = some (.int .u8 (sp : Int)) ∧ (w.alloc (.cells #[.int .u8 12, .int .u8 0, .slice (some ⟨g, 0, none⟩) 2 cap] 54)).cell? ⟨g, 5, none⟩ = some (.slice va vn vc)) := ⟨k0, k2, n0, n1, n2, m0, m1, m2⟩
  clear hn hu hc hb hr hT hn' hu' hd
  unfold RowR
  obtain ⟨Y, hY⟩ : ∃ Y, Y = kB c b ++ kB d b ++ [(tn 12 11 b, 0)] := ⟨_, rfl⟩
  rw [← hY]
  have HY : Hid (Y = kB c b ++ kB d b ++ [(tn 12 11 b, 0)]) := hY
  clear hY
  go_enter Try.func29, Try.ntmps29
  go_wp2
  generalize w.alloc (.cells #[.int .u8 12, .int .u8 0, .slice (some ⟨g, 0, none⟩) 2 cap] 54) = w0 at *
  have hD : Below w0.heap.size w0 w0.drew := (Below.refl _ _).drew
  have hk0 := hkeep _ _ HK0.out hD
  have hq1 := HCC.out b _ _ (TrAt.up hD HU.out)
  have hlb := hlc b
  have hlb2 := hld b
  have hz2 : tn 12 11 b < 256 := tn_lt b (by decide) (by decide)
  have htu2 := fun w' => Try.rtu_12_11 b w'
  have HQ : Hid (∀ w1, Below w0.drew.heap.size w0.drew w1 → Calls Try.prog 29 _ w1 (RowR (kB d b) w1)) := fun w1 h1 => HDD.out b _ _ (TrAt.up (below_step hD h1) HU'.out)
  have HO : Hid (∀ w1 a1 c1 a2 c2, TkSl w1 a1 (kB c b).length c1 (kB c b) → TkSl w1 a2 (kB d b).length c2 (kB d b) → Calls Try.prog 51 #[.slice a1 (kB c b).length c1, .slice a2 (kB d b).length c2, .int .u8 (tn 12 11 b : Int)] w1 (RowR Y w1)) := fun w1 a1 c1 a2 c2 t1 t2 => by rw [HY.out]; exact Try.rtwo_any a1 _ c1 (kB c b) a2 _ c2 (kB d b) (tn 12 11 b) w1 t1 t2 hz2 (by omega) (by omega)
  unfold RowR at HO HQ hq1
  generalize kB c b = X1 at *
  generalize kB d b = X2 at *
  generalize tn 12 11 b = z2 at *
  clear HCC HDD HU HU' HK0 hlc hld hlb hlb2
  go_region_held3 (fun w' => w'.cell? ⟨w.heap.size, 0, none⟩ = some (.int .u8 12) ∧ w'.cell? ⟨w.heap.size, 2, none⟩ = some (.slice (some ⟨g, 0, none⟩) 2 cap) ∧ w'.cell? ⟨g, 0, none⟩ = some (.int .u8 (ro : Int)) ∧ w'.cell? ⟨g, 1, none⟩ = some (.int .u8 (rp : Int)) ∧ w'.cell? ⟨g, 2, none⟩ = some (.slice ua un uc) ∧ w'.cell? ⟨g, 3, none⟩ = some (.int .u8 (so : Int)) ∧ w'.cell? ⟨g, 4, none⟩ = some (.int .u8 (sp : Int)) ∧ w'.cell? ⟨g, 5, none⟩ = some (.slice va vn vc)) (first | exact hk0 | exact s1 | exact s2 | exact s3 | fail) (first
    | (go_at_call 29; (with_reducible refine hq1.mono ?_); rintro e w1 ⟨a1, c1, rfl, t1, b1⟩; have s1 := hkeep _ _ hk0 b1; have hq2 := HQ.out w1 b1)
    | (go_at_call 29; (with_reducible refine hq2.mono ?_); rintro e w2 ⟨a2, c2, rfl, t2, b2⟩; have s2 := hkeep _ _ s1 b2; have ho := HO.out w2 a1 c1 a2 c2 (t1.up b2) t2; have htw := htu2 w2)
    | (go_at_call 50; (with_reducible refine htw.mono ?_); rintro e w' ⟨rfl, rfl⟩)
    | (go_at_call 51; (with_reducible refine ho.mono ?_); rintro e w3 ⟨a3, c3, rfl, t3, b3⟩; have s3 := hkeep _ _ s2 b3)
    | fail)
  all_goals
    have HT3 : Hid _ := t3
    have HB3 : Hid _ := below_step (below_step (below_step (below_step HB.out hD) b1) b2) b3
    clear s1 s2 s3 t1 t2 t3 b1 b2 b3 ho htw hq1 hq2 hk0
    go_wp2
    go_ret
    exact ⟨a3, c3, rfl, HT3.out, HB3.out⟩
set_option maxRecDepth 100000 in
set_option maxHeartbeats 4000000 in
theorem Try.rk_bin_13 (c d : Tr) (hc : KC c) (hd : KC d) (hT : (Tr.bin (13, 0) c d).WF) : KC (.bin (13, 0) c d) := by
  intro hwt b v w hv
  obtain ⟨g, cap, u, u', rfl, hn, hn', hu, hu'⟩ := hv
  obtain ⟨_, hcw, hdw, _, _⟩ := bin_cases hT
  have hw1 := wt_bin hT
  have hlc := kB_len hcw
  have hld := kB_len hdw
  have hcc := hc (by omega)
  have hdd := hd (by omega)
  obtain ⟨ua, un, uc, rfl⟩ := hu.sl
  obtain ⟨va, vn, vc, rfl⟩ := hu'.sl
  rw [kB_13]
  show Calls Try.prog 29 #[.agg #[.int .u8 13, .int .u8 0, .slice (some ⟨g, 0, none⟩) 2 cap], .bool b] w _
  have hb := below_new w (.cells #[.int .u8 13, .int .u8 0, .slice (some ⟨g, 0, none⟩) 2 cap] 54)
  have hr := (MapKept.heap_alloc w (.cells #[.int .u8 13, .int .u8 0, .slice (some ⟨g, 0, none⟩) 2 cap] 54)).1
  obtain ⟨n0, n1, n2⟩ := hn.up hb
  obtain ⟨m0, m1, m2⟩ := hn'.up hb
  have HU : Hid (TrAt (w.alloc (.cells #[.int .u8 13, .int .u8 0, .slice (some ⟨g, 0, none⟩) 2 cap] 54)) c _) := hu.up hb
  have HU' : Hid (TrAt (w.alloc (.cells #[.int .u8 13, .int .u8 0, .slice (some ⟨g, 0, none⟩) 2 cap] 54)) d _) := hu'.up hb
  unfold treeV at hcc hdd
  have HCC : Hid _ := hcc
  have HDD : Hid _ := hdd
  clear hcc hdd
  generalize rootK c = rk at *
  obtain ⟨ro, rp⟩ := rk
  generalize rootK d = rd at *
  obtain ⟨so, sp⟩ := rd
  dsimp only at n0 n1 m0 m1 HCC HDD
  simp only [Nat.reduceAdd] at n1 n2 m1 m2
  have hi0 := fun w' => Try.idxT0 g 2 cap w' (by omega)
  have hi1 := fun w' => Try.idxT1 g 2 cap w' (by omega)
  have HB : Hid (Below w.heap.size w (w.alloc (.cells #[.int .u8 13, .int .u8 0, .slice (some ⟨g, 0, none⟩) 2 cap] 54))) := hb
  have k0 : (w.alloc (.cells #[.int .u8 13, .int .u8 0, .slice (some ⟨g, 0, none⟩) 2 cap] 54)).cell? ⟨w.heap.size, 0, none⟩ = some (.int .u8 13) := cell_row hr 0
  have k2 : (w.alloc (.cells #[.int .u8 13, .int .u8 0, .slice (some ⟨g, 0, none⟩) 2 cap] 54)).cell? ⟨w.heap.size, 2, none⟩ = some (.slice (some ⟨g, 0, none⟩) 2 cap) := cell_row hr 2
  have hkeep : ∀ w1 w2 : World, (w1.cell? ⟨w.heap.size, 0, none⟩ = some (.int .u8 13) ∧ w1.cell? ⟨w.heap.size, 2, none⟩ = some (.slice (some ⟨g, 0, none⟩) 2 cap) ∧ w1.cell? ⟨g, 0, none⟩ = some (.int .u8 (ro : Int)) ∧ w1.cell? ⟨g, 1, none⟩ = some (.int .u8 (rp : Int)) ∧ w1.cell? ⟨g, 2, none⟩ = some (.slice ua un uc) ∧ w1.cell? ⟨g, 3, none⟩ = some (.int .u8 (so : Int)) ∧ w1.cell? ⟨g, 4, none⟩ = some (.int .u8 (sp : Int)) ∧ w1.cell? ⟨g, 5, none⟩ = some (.slice va vn vc)) → Below w1.heap.size w1 w2 → (w2.cell? ⟨w.heap.size, 0, none⟩ = some (.int .u8 13) ∧ w2.cell? ⟨w.heap.size, 2, none⟩ = some (.slice (some ⟨g, 0, none⟩) 2 cap) ∧ w2.cell? ⟨g, 0, none⟩ = some (.int .u8 (ro : Int)) ∧ w2.cell? ⟨g, 1, none⟩ = some (.int .u8 (rp : Int)) ∧ w2.cell? ⟨g, 2, none⟩ = some (.slice ua un uc) ∧ w2.cell? ⟨g, 3, none⟩ = some (.int .u8 (so : Int)) ∧ w2.cell? ⟨g, 4, none⟩ = some (.int .u8 (sp : Int)) ∧ w2.cell? ⟨g, 5, none⟩ = some (.slice va vn vc)) := fun w1 w2 h hb => ⟨kept_cell h.1 hb, kept_cell h.2.1 hb, kept_cell h.2.2.1 hb, kept_cell h.2.2.2.1 hb, kept_cell h.2.2.2.2.1 hb, kept_cell h.2.2.2.2.2.1 hb, kept_cell h.2.2.2.2.2.2.1 hb, kept_cell h.2.2.2.2.2.2.2 hb⟩
  have HK0 : Hid ((w.alloc (.cells #[.int .u8 13, .int .u8 0, .slice (some ⟨g, 0, none⟩) 2 cap] 54)).cell? ⟨w.heap.size, 0, none⟩ = some (.int .u8 13) ∧ (w.alloc (.cells #[.int .u8 13, .int .u8 0, .slice (some ⟨g, 0, none⟩) 2 cap] 54)).cell? ⟨w.heap.size, 2, none⟩ = some (.slice (some ⟨g, 0, none⟩) 2 cap) ∧ (w.alloc (.cells #[.int .u8 13, .int .u8 0, .slice (some ⟨g, 0, none⟩) 2 cap] 54)).cell? ⟨g, 0, none⟩ = some (.int .u8 (ro : Int)) ∧ (w.alloc (.cells #[.int .u8 13, .int .u8 0, .slice (some ⟨g, 0, none⟩) 2 cap] 54)).cell? ⟨g, 1, none⟩ = some (.int .u8 (rp : Int)) ∧ (w.alloc (.cells #[.int .u8 13, .int .u8 0, .slice (some ⟨g, 0, none⟩) 2 cap] 54)).cell? ⟨g, 2, none⟩ = some (.slice ua un uc) ∧ (w.alloc (.cells #[.int .u8 13, .int .u8 0, .slice (some ⟨g, 0, none⟩) 2 cap] 54)).cell? ⟨g, 3, none⟩ = some (.int .u8 (so : Int)) ∧ (w.alloc (.cells #[.int .u8 13, .int .u8 0, .slice (some ⟨g, 0, none⟩) 2 cap] 54)).cell? ⟨g, 4, none⟩ = some (.int .u8 (sp : Int)) ∧ (w.alloc (.cells #[.int .u8 13, .int .u8 0, .slice (some ⟨g, 0, none⟩) 2 cap] 54)).cell? ⟨g, 5, none⟩ = some (.slice va vn vc)) := ⟨k0, k2, n0, n1, n2, m0, m1, m2⟩
  clear hn hu hc hb hr hT hn' hu' hd
  unfold RowR
  obtain ⟨Y, hY⟩ : ∃ Y, Y = kB c (!b) ++ kB d b ++ [(tn 12 11 b, 0)] := ⟨_, rfl⟩
  rw [← hY]
  have HY : Hid (Y = kB c (!b) ++ kB d b ++ [(tn 12 11 b, 0)]) := hY
  clear hY
  go_enter Try.func29, Try.ntmps29
  go_wp2
  generalize w.alloc (.cells #[.int .u8 13, .int .u8 0, .slice (some ⟨g, 0, none⟩) 2 cap] 54) = w0 at *
  have hD : Below w0.heap.size w0 w0.drew := (Below.refl _ _).drew
  have hk0 := hkeep _ _ HK0.out hD
  have hq1 := HCC.out (!b) _ _ (TrAt.up hD HU.out)
  have hlb := hlc (!b)
  have hlb2 := hld b
  have hz2 : tn 12 11 b < 256 := tn_lt b (by decide) (by decide)
  have htu2 := fun w' => Try.rtu_12_11 b w'
  have HQ : Hid (∀ w1, Below w0.drew.heap.size w0.drew w1 → Calls Try.prog 29 _ w1 (RowR (kB d b) w1)) := fun w1 h1 => HDD.out b _ _ (TrAt.up (below_step hD h1) HU'.out)
  have HO : Hid (∀ w1 a1 c1 a2 c2, TkSl w1 a1 (kB c (!b)).length c1 (kB c (!b)) → TkSl w1 a2 (kB d b).length c2 (kB d b) → Calls Try.prog 51 #[.slice a1 (kB c (!b)).length c1, .slice a2 (kB d b).length c2, .int .u8 (tn 12 11 b : Int)] w1 (RowR Y w1)) := fun w1 a1 c1 a2 c2 t1 t2 => by rw [HY.out]; exact Try.rtwo_any a1 _ c1 (kB c (!b)) a2 _ c2 (kB d b) (tn 12 11 b) w1 t1 t2 hz2 (by omega) (by omega)
  unfold RowR at HO HQ hq1
  generalize kB c (!b) = X1 at *
  generalize kB d b = X2 at *
  generalize tn 12 11 b = z2 at *
  clear HCC HDD HU HU' HK0 hlc hld hlb hlb2
  go_region_held3 (fun w' => w'.cell? ⟨w.heap.size, 0, none⟩ = some (.int .u8 13) ∧ w'.cell? ⟨w.heap.size, 2, none⟩ = some (.slice (some ⟨g, 0, none⟩) 2 cap) ∧ w'.cell? ⟨g, 0, none⟩ = some (.int .u8 (ro : Int)) ∧ w'.cell? ⟨g, 1, none⟩ = some (.int .u8 (rp : Int)) ∧ w'.cell? ⟨g, 2, none⟩ = some (.slice ua un uc) ∧ w'.cell? ⟨g, 3, none⟩ = some (.int .u8 (so : Int)) ∧ w'.cell? ⟨g, 4, none⟩ = some (.int .u8 (sp : Int)) ∧ w'.cell? ⟨g, 5, none⟩ = some (.slice va vn vc)) (first | exact hk0 | exact s1 | exact s2 | exact s3 | fail) (first
    | (go_at_call 29; (with_reducible refine hq1.mono ?_); rintro e w1 ⟨a1, c1, rfl, t1, b1⟩; have s1 := hkeep _ _ hk0 b1; have hq2 := HQ.out w1 b1)
    | (go_at_call 29; (with_reducible refine hq2.mono ?_); rintro e w2 ⟨a2, c2, rfl, t2, b2⟩; have s2 := hkeep _ _ s1 b2; have ho := HO.out w2 a1 c1 a2 c2 (t1.up b2) t2; have htw := htu2 w2)
    | (go_at_call 50; (with_reducible refine htw.mono ?_); rintro e w' ⟨rfl, rfl⟩)
    | (go_at_call 51; (with_reducible refine ho.mono ?_); rintro e w3 ⟨a3, c3, rfl, t3, b3⟩; have s3 := hkeep _ _ s2 b3)
    | fail)
  all_goals
    have HT3 : Hid _ := t3
    have HB3 : Hid _ := below_step (below_step (below_step (below_step HB.out hD) b1) b2) b3
    clear s1 s2 s3 t1 t2 t3 b1 b2 b3 ho htw hq1 hq2 hk0
    go_wp2
    go_ret
    exact ⟨a3, c3, rfl, HT3.out, HB3.out⟩
set_option maxRecDepth 100000 in
set_option maxHeartbeats 4000000 in
theorem Try.rk_bin_15 (c d : Tr) (hc : KC c) (hd : KC d) (hT : (Tr.bin (15, 0) c d).WF) : KC (.bin (15, 0) c d) := by
  intro hwt b v w hv
  obtain ⟨g, cap, u, u', rfl, hn, hn', hu, hu'⟩ := hv
  obtain ⟨_, hcw, hdw, _, _⟩ := bin_cases hT
  have hw1 := wt_bin hT
  have hlc := kB_len hcw
  have hld := kB_len hdw
  have hcc := hc (by omega)
  have hdd := hd (by omega)
  obtain ⟨ua, un, uc, rfl⟩ := hu.sl
  obtain ⟨va, vn, vc, rfl⟩ := hu'.sl
  rw [kB_15]
  show Calls Try.prog 29 #[.agg #[.int .u8 15, .int .u8 0, .slice (some ⟨g, 0, none⟩) 2 cap], .bool b] w _
  have hb := below_new w (.cells #[.int .u8 15, .int .u8 0, .slice (some ⟨g, 0, none⟩) 2 cap] 54)
  have hr := (MapKept.heap_alloc w (.cells #[.int .u8 15, .int .u8 0, .slice (some ⟨g, 0, none⟩) 2 cap] 54)).1
  obtain ⟨n0, n1, n2⟩ := hn.up hb
  obtain ⟨m0, m1, m2⟩ := hn'.up hb
  have HU : Hid (TrAt (w.alloc (.cells #[.int .u8 15, .int .u8 0, .slice (some ⟨g, 0, none⟩) 2 cap] 54)) c _) := hu.up hb
  have HU' : Hid (TrAt (w.alloc (.cells #[.int .u8 15, .int .u8 0, .slice (some ⟨g, 0, none⟩) 2 cap] 54)) d _) := hu'.up hb
  unfold treeV at hcc hdd
  have HCC : Hid _ := hcc
  have HDD : Hid _ := hdd
  clear hcc hdd
  generalize rootK c = rk at *
  obtain ⟨ro, rp⟩ := rk
  generalize rootK d = rd at *
  obtain ⟨so, sp⟩ := rd
  dsimp only at n0 n1 m0 m1 HCC HDD
  simp only [Nat.reduceAdd] at n1 n2 m1 m2
  have hi0 := fun w' => Try.idxT0 g 2 cap w' (by omega)
  have hi1 := fun w' => Try.idxT1 g 2 cap w' (by omega)
  have HB : Hid (Below w.heap.size w (w.alloc (.cells #[.int .u8 15, .int .u8 0, .slice (some ⟨g, 0, none⟩) 2 cap] 54))) := hb
  have k0 : (w.alloc (.cells #[.int .u8 15, .int .u8 0, .slice (some ⟨g, 0, none⟩) 2 cap] 54)).cell? ⟨w.heap.size, 0, none⟩ = some (.int .u8 15) := cell_row hr 0
  have k2 : (w.alloc (.cells #[.int .u8 15, .int .u8 0, .slice (some ⟨g, 0, none⟩) 2 cap] 54)).cell? ⟨w.heap.size, 2, none⟩ = some (.slice (some ⟨g, 0, none⟩) 2 cap) := cell_row hr 2
  have hkeep : ∀ w1 w2 : World, (w1.cell? ⟨w.heap.size, 0, none⟩ = some (.int .u8 15) ∧ w1.cell? ⟨w.heap.size, 2, none⟩ = some (.slice (some ⟨g, 0, none⟩) 2 cap) ∧ w1.cell? ⟨g, 0, none⟩ = some (.int .u8 (ro : Int)) ∧ w1.cell? ⟨g, 1, none⟩ = some (.int .u8 (rp : Int)) ∧ w1.cell? ⟨g, 2, none⟩ = some (.slice ua un uc) ∧ w1.cell? ⟨g, 3, none⟩ = some (.int .u8 (so : Int)) ∧ w1.cell? ⟨g, 4, none⟩ = some (.int .u8 (sp : Int)) ∧ w1.cell? ⟨g, 5, none⟩ = some (.slice va vn vc)) → Below w1.heap.size w1 w2 → (w2.cell? ⟨w.heap.size, 0, none⟩ = some (.int .u8 15) ∧ w2.cell? ⟨w.heap.size, 2, none⟩ = some (.slice (some ⟨g, 0, none⟩) 2 cap) ∧ w2.cell? ⟨g, 0, none⟩ = some (.int .u8 (ro : Int)) ∧ w2.cell? ⟨g, 1, none⟩ = some (.int .u8 (rp : Int)) ∧ w2.cell? ⟨g, 2, none⟩ = some (.slice ua un uc) ∧ w2.cell? ⟨g, 3, none⟩ = some (.int .u8 (so : Int)) ∧ w2.cell? ⟨g, 4, none⟩ = some (.int .u8 (sp : Int)) ∧ w2.cell? ⟨g, 5, none⟩ = some (.slice va vn vc)) := fun w1 w2 h hb => ⟨kept_cell h.1 hb, kept_cell h.2.1 hb, kept_cell h.2.2.1 hb, kept_cell h.2.2.2.1 hb, kept_cell h.2.2.2.2.1 hb, kept_cell h.2.2.2.2.2.1 hb, kept_cell h.2.2.2.2.2.2.1 hb, kept_cell h.2.2.2.2.2.2.2 hb⟩
  have HK0 : Hid ((w.alloc (.cells #[.int .u8 15, .int .u8 0, .slice (some ⟨g, 0, none⟩) 2 cap] 54)).cell? ⟨w.heap.size, 0, none⟩ = some (.int .u8 15) ∧ (w.alloc (.cells #[.int .u8 15, .int .u8 0, .slice (some ⟨g, 0, none⟩) 2 cap] 54)).cell? ⟨w.heap.size, 2, none⟩ = some (.slice (some ⟨g, 0, none⟩) 2 cap) ∧ (w.alloc (.cells #[.int .u8 15, .int .u8 0, .slice (some ⟨g, 0, none⟩) 2 cap] 54)).cell? ⟨g, 0, none⟩ = some (.int .u8 (ro : Int)) ∧ (w.alloc (.cells #[.int .u8 15, .int .u8 0, .slice (some ⟨g, 0, none⟩) 2 cap] 54)).cell? ⟨g, 1, none⟩ = some (.int .u8 (rp : Int)) ∧ (w.alloc (.cells #[.int .u8 15, .int .u8 0, .slice (some ⟨g, 0, none⟩) 2 cap] 54)).cell? ⟨g, 2, none⟩ = some (.slice ua un uc) ∧ (w.alloc (.cells #[.int .u8 15, .int .u8 0, .slice (some ⟨g, 0, none⟩) 2 cap] 54)).cell? ⟨g, 3, none⟩ = some (.int .u8 (so : Int)) ∧ (w.alloc (.cells #[.int .u8 15, .int .u8 0, .slice (some ⟨g, 0, none⟩) 2 cap] 54)).cell? ⟨g, 4, none⟩ = some (.int .u8 (sp : Int)) ∧ (w.alloc (.cells #[.int .u8 15, .int .u8 0, .slice (some ⟨g, 0, none⟩) 2 cap] 54)).cell? ⟨g, 5, none⟩ = some (.slice va vn vc)) := ⟨k0, k2, n0, n1, n2, m0, m1, m2⟩
  clear hn hu hc hb hr hT hn' hu' hd
  unfold RowR
  obtain ⟨Y, hY⟩ : ∃ Y, Y = kB c b ++ kB d b ++ [(tn 15 16 b, 0)] := ⟨_, rfl⟩
  rw [← hY]
  have HY : Hid (Y = kB c b ++ kB d b ++ [(tn 15 16 b, 0)]) := hY
  clear hY
  go_enter Try.func29, Try.ntmps29
  go_wp2
  generalize w.alloc (.cells #[.int .u8 15, .int .u8 0, .slice (some ⟨g, 0, none⟩) 2 cap] 54) = w0 at *
  have hD : Below w0.heap.size w0 w0.drew := (Below.refl _ _).drew
  have hk0 := hkeep _ _ HK0.out hD
  have hq1 := HCC.out b _ _ (TrAt.up hD HU.out)
  have hlb := hlc b
  have hlb2 := hld b
  have hz2 : tn 15 16 b < 256 := tn_lt b (by decide) (by decide)
  have htu2 := fun w' => Try.rtu_15_16 b w'
  have HQ : Hid (∀ w1, Below w0.drew.heap.size w0.drew w1 → Calls Try.prog 29 _ w1 (RowR (kB d b) w1)) := fun w1 h1 => HDD.out b _ _ (TrAt.up (below_step hD h1) HU'.out)
  have HO : Hid (∀ w1 a1 c1 a2 c2, TkSl w1 a1 (kB c b).length c1 (kB c b) → TkSl w1 a2 (kB d b).length c2 (kB d b) → Calls Try.prog 51 #[.slice a1 (kB c b).length c1, .slice a2 (kB d b).length c2, .int .u8 (tn 15 16 b : Int)] w1 (RowR Y w1)) := fun w1 a1 c1 a2 c2 t1 t2 => by rw [HY.out]; exact Try.rtwo_any a1 _ c1 (kB c b) a2 _ c2 (kB d b) (tn 15 16 b) w1 t1 t2 hz2 (by omega) (by omega)
  unfold RowR at HO HQ hq1
  generalize kB c b = X1 at *
  generalize kB d b = X2 at *
  generalize tn 15 16 b = z2 at *
  clear HCC HDD HU HU' HK0 hlc hld hlb hlb2
  go_region_held3 (fun w' => w'.cell? ⟨w.heap.size, 0, none⟩ = some (.int .u8 15) ∧ w'.cell? ⟨w.heap.size, 2, none⟩ = some (.slice (some ⟨g, 0, none⟩) 2 cap) ∧ w'.cell? ⟨g, 0, none⟩ = some (.int .u8 (ro : Int)) ∧ w'.cell? ⟨g, 1, none⟩ = some (.int .u8 (rp : Int)) ∧ w'.cell? ⟨g, 2, none⟩ = some (.slice ua un uc) ∧ w'.cell? ⟨g, 3, none⟩ = some (.int .u8 (so : Int)) ∧ w'.cell? ⟨g, 4, none⟩ = some (.int .u8 (sp : Int)) ∧ w'.cell? ⟨g, 5, none⟩ = some (.slice va vn vc)) (first | exact hk0 | exact s1 | exact s2 | exact s3 | fail) (first
    | (go_at_call 29; (with_reducible refine hq1.mono ?_); rintro e w1 ⟨a1, c1, rfl, t1, b1⟩; have s1 := hkeep _ _ hk0 b1; have hq2 := HQ.out w1 b1)
    | (go_at_call 29; (with_reducible refine hq2.mono ?_); rintro e w2 ⟨a2, c2, rfl, t2, b2⟩; have s2 := hkeep _ _ s1 b2; have ho := HO.out w2 a1 c1 a2 c2 (t1.up b2) t2; have htw := htu2 w2)
    | (go_at_call 50; (with_reducible refine htw.mono ?_); rintro e w' ⟨rfl, rfl⟩)
    | (go_at_call 51; (with_reducible refine ho.mono ?_); rintro e w3 ⟨a3, c3, rfl, t3, b3⟩; have s3 := hkeep _ _ s2 b3)
    | fail)
  all_goals
    have HT3 : Hid _ := t3
    have HB3 : Hid _ := below_step (below_step (below_step (below_step HB.out hD) b1) b2) b3
    clear s1 s2 s3 t1 t2 t3 b1 b2 b3 ho htw hq1 hq2 hk0
    go_wp2
    go_ret
    exact ⟨a3, c3, rfl, HT3.out, HB3.out⟩
set_option maxRecDepth 100000 in
set_option maxHeartbeats 4000000 in
theorem Try.rk_bin_16 (c d : Tr) (hc : KC c) (hd : KC d) (hT : (Tr.bin (16, 0) c d).WF) : KC (.bin (16, 0) c d) := by
  intro hwt b v w hv
  obtain ⟨g, cap, u, u', rfl, hn, hn', hu, hu'⟩ := hv
  obtain ⟨_, hcw, hdw, _, _⟩ := bin_cases hT
  have hw1 := wt_bin hT
  have hlc := kB_len hcw
  have hld := kB_len hdw
  have hcc := hc (by omega)
  have hdd := hd (by omega)
  obtain ⟨ua, un, uc, rfl⟩ := hu.sl
  obtain ⟨va, vn, vc, rfl⟩ := hu'.sl
  rw [kB_16]
  show Calls Try.prog 29 #[.agg #[.int .u8 16, .int .u8 0, .slice (some ⟨g, 0, none⟩) 2 cap], .bool b] w _
  have hb := below_new w (.cells #[.int .u8 16, .int .u8 0, .slice (some ⟨g, 0, none⟩) 2 cap] 54)
  have hr := (MapKept.heap_alloc w (.cells #[.int .u8 16, .int .u8 0, .slice (some ⟨g, 0, none⟩) 2 cap] 54)).1
  obtain ⟨n0, n1, n2⟩ := hn.up hb
  obtain ⟨m0, m1, m2⟩ := hn'.up hb
  have HU : Hid (TrAt (w.alloc (.cells #[.int .u8 16, .int .u8 0, .slice (some ⟨g, 0, none⟩) 2 cap] 54)) c _) := hu.up hb
  have HU' : Hid (TrAt (w.alloc (.cells #[.int .u8 16, .int .u8 0, .slice (some ⟨g, 0, none⟩) 2 cap] 54)) d _) := hu'.up hb
  unfold treeV at hcc hdd
  have HCC : Hid _ := hcc
  have HDD : Hid _ := hdd
  clear hcc hdd
  generalize rootK c = rk at *
  obtain ⟨ro, rp⟩ := rk
  generalize rootK d = rd at *
  obtain ⟨so, sp⟩ := rd
  dsimp only at n0 n1 m0 m1 HCC HDD
  simp only [Nat.reduceAdd] at n1 n2 m1 m2
  have hi0 := fun w' => Try.idxT0 g 2 cap w' (by omega)
  have hi1 := fun w' => Try.idxT1 g 2 cap w' (by omega)
  have HB : Hid (Below w.heap.size w (w.alloc (.cells #[.int .u8 16, .int .u8 0, .slice (some ⟨g, 0, none⟩) 2 cap] 54))) := hb
  have k0 : (w.alloc (.cells #[.int .u8 16, .int .u8 0, .slice (some ⟨g, 0, none⟩) 2 cap] 54)).cell? ⟨w.heap.size, 0, none⟩ = some (.int .u8 16) := cell_row hr 0
  have k2 : (w.alloc (.cells #[.int .u8 16, .int .u8 0, .slice (some ⟨g, 0, none⟩) 2 cap] 54)).cell? ⟨w.heap.size, 2, none⟩ = some (.slice (some ⟨g, 0, none⟩) 2 cap) := cell_row hr 2
  have hkeep : ∀ w1 w2 : World, (w1.cell? ⟨w.heap.size, 0, none⟩ = some (.int .u8 16) ∧ w1.cell? ⟨w.heap.size, 2, none⟩ = some (.slice (some ⟨g, 0, none⟩) 2 cap) ∧ w1.cell? ⟨g, 0, none⟩ = some (.int .u8 (ro : Int)) ∧ w1.cell? ⟨g, 1, none⟩ = some (.int .u8 (rp : Int)) ∧ w1.cell? ⟨g, 2, none⟩ = some (.slice ua un uc) ∧ w1.cell? ⟨g, 3, none⟩ = some (.int .u8 (so : Int)) ∧ w1.cell? ⟨g, 4, none⟩ = some (.int .u8 (sp : Int)) ∧ w1.cell? ⟨g, 5, none⟩ = some (.slice va vn vc)) → Below w1.heap.size w1 w2 → (w2.cell? ⟨w.heap.size, 0, none⟩ = some (.int .u8 16) ∧ w2.cell? ⟨w.heap.size, 2, none⟩ = some (.slice (some ⟨g, 0, none⟩) 2 cap) ∧ w2.cell? ⟨g, 0, none⟩ = some (.int .u8 (ro : Int)) ∧ w2.cell? ⟨g, 1, none⟩ = some (.int .u8 (rp : Int)) ∧ w2.cell? ⟨g, 2, none⟩ = some (.slice ua un uc) ∧ w2.cell? ⟨g, 3, none⟩ = some (.int .u8 (so : Int)) ∧ w2.cell? ⟨g, 4, none⟩ = some (.int .u8 (sp : Int)) ∧ w2.cell? ⟨g, 5, none⟩ = some (.slice va vn vc)) := fun w1 w2 h hb => ⟨kept_cell h.1 hb, kept_cell h.2.1 hb, kept_cell h.2.2.1 hb, kept_cell h.2.2.2.1 hb, kept_cell h.2.2.2.2.1 hb, kept_cell h.2.2.2.2.2.1 hb, kept_cell h.2.2.2.2.2.2.1 hb, kept_cell h.2.2.2.2.2.2.2 hb⟩
  have HK0 : Hid ((w.alloc (.cells #[.int .u8 16, .int .u8 0, .slice (some ⟨g, 0, none⟩) 2 cap] 54)).cell? ⟨w.heap.size, 0, none⟩ = some (.int .u8 16) ∧ (w.alloc (.cells #[.int .u8 16, .int .u8 0, .slice (some ⟨g, 0, none⟩) 2 cap] 54)).cell? ⟨w.heap.size, 2, none⟩ = some (.slice (some ⟨g, 0, none⟩) 2 cap) ∧ (w.alloc (.cells #[.int .u8 16, .int .u8 0, .slice (some ⟨g, 0, none⟩) 2 cap] 54)).cell? ⟨g, 0, none⟩ = some (.int .u8 (ro : Int)) ∧ (w.alloc (.cells #[.int .u8 16, .int .u8 0, .slice (some ⟨g, 0, none⟩) 2 cap] 54)).cell? ⟨g, 1, none⟩ = some (.int .u8 (rp : Int)) ∧ (w.alloc (.cells #[.int .u8 16, .int .u8 0, .slice (some ⟨g, 0, none⟩) 2 cap] 54)).cell? ⟨g, 2, none⟩ = some (.slice ua un uc) ∧ (w.alloc (.cells #[.int .u8 16, .int .u8 0, .slice (some ⟨g, 0, none⟩) 2 cap] 54)).cell? ⟨g, 3, none⟩ = some (.int .u8 (so : Int)) ∧ (w.alloc (.cells #[.int .u8 16, .int .u8 0, .slice (some ⟨g, 0, none⟩) 2 cap] 54)).cell? ⟨g, 4, none⟩ = some (.int .u8 (sp : Int)) ∧ (w.alloc (.cells #[.int .u8 16, .int .u8 0, .slice (some ⟨g, 0, none⟩) 2 cap] 54)).cell? ⟨g, 5, none⟩ = some (.slice va vn vc)) := ⟨k0, k2, n0, n1, n2, m0, m1, m2⟩
  clear hn hu hc hb hr hT hn' hu' hd
  unfold RowR
  obtain ⟨Y, hY⟩ : ∃ Y, Y = kB c b ++ kB d b ++ [(tn 16 15 b, 0)] := ⟨_, rfl⟩
  rw [← hY]
  have HY : Hid (Y = kB c b ++ kB d b ++ [(tn 16 15 b, 0)]) := hY
  clear hY
  go_enter Try.func29, Try.ntmps29
  go_wp2
  generalize w.alloc (.cells #[.int .u8 16, .int .u8 0, .slice (some ⟨g, 0, none⟩) 2 cap] 54) = w0 at *
  have hD : Below w0.heap.size w0 w0.drew := (Below.refl _ _).drew
  have hk0 := hkeep _ _ HK0.out hD
  have hq1 := HCC.out b _ _ (TrAt.up hD HU.out)
  have hlb := hlc b
  have hlb2 := hld b
  have hz2 : tn 16 15 b < 256 := tn_lt b (by decide) (by decide)
  have htu2 := fun w' => Try.rtu_16_15 b w'
  have HQ : Hid (∀ w1, Below w0.drew.heap.size w0.drew w1 → Calls Try.prog 29 _ w1 (RowR (kB d b) w1)) := fun w1 h1 => HDD.out b _ _ (TrAt.up (below_step hD h1) HU'.out)
  have HO : Hid (∀ w1 a1 c1 a2 c2, TkSl w1 a1 (kB c b).length c1 (kB c b) → TkSl w1 a2 (kB d b).length c2 (kB d b) → Calls Try.prog 51 #[.slice a1 (kB c b).length c1, .slice a2 (kB d b).length c2, .int .u8 (tn 16 15 b : Int)] w1 (RowR Y w1)) := fun w1 a1 c1 a2 c2 t1 t2 => by rw [HY.out]; exact Try.rtwo_any a1 _ c1 (kB c b) a2 _ c2 (kB d b) (tn 16 15 b) w1 t1 t2 hz2 (by omega) (by omega)
  unfold RowR at HO HQ hq1
  generalize kB c b = X1 at *
  generalize kB d b = X2 at *
  generalize tn 16 15 b = z2 at *
  clear HCC HDD HU HU' HK0 hlc hld hlb hlb2
  go_region_held3 (fun w' => w'.cell? ⟨w.heap.size, 0, none⟩ = some (.int .u8 16) ∧ w'.cell? ⟨w.heap.size, 2, none⟩ = some (.slice (some ⟨g, 0, none⟩) 2 cap) ∧ w'.cell? ⟨g, 0, none⟩ = some (.int .u8 (ro : Int)) ∧ w'.cell? ⟨g, 1, none⟩ = some (.int .u8 (rp : Int)) ∧ w'.cell? ⟨g, 2, none⟩ = some (.slice ua un uc) ∧ w'.cell? ⟨g, 3, none⟩ = some (.int .u8 (so : Int)) ∧ w'.cell? ⟨g, 4, none⟩ = some (.int .u8 (sp : Int)) ∧ w'.cell? ⟨g, 5, none⟩ = some (.slice va vn vc)) (first | exact hk0 | exact s1 | exact s2 | exact s3 | fail) (first
    | (go_at_call 29; (with_reducible refine hq1.mono ?_); rintro e w1 ⟨a1, c1, rfl, t1, b1⟩; have s1 := hkeep _ _ hk0 b1; have hq2 := HQ.out w1 b1)
    | (go_at_call 29; (with_reducible refine hq2.mono ?_); rintro e w2 ⟨a2, c2, rfl, t2, b2⟩; have s2 := hkeep _ _ s1 b2; have ho := HO.out w2 a1 c1 a2 c2 (t1.up b2) t2; have htw := htu2 w2)
    | (go_at_call 50; (with_reducible refine htw.mono ?_); rintro e w' ⟨rfl, rfl⟩)
    | (go_at_call 51; (with_reducible refine ho.mono ?_); rintro e w3 ⟨a3, c3, rfl, t3, b3⟩; have s3 := hkeep _ _ s2 b3)
    | fail)
  all_goals
    have HT3 : Hid _ := t3
    have HB3 : Hid _ := below_step (below_step (below_step (below_step HB.out hD) b1) b2) b3
    clear s1 s2 s3 t1 t2 t3 b1 b2 b3 ho htw hq1 hq2 hk0
    go_wp2
    go_ret
    exact ⟨a3, c3, rfl, HT3.out, HB3.out⟩
set_option maxRecDepth 100000 in
set_option maxHeartbeats 4000000 in
theorem Try.rk_bin_17 (c d : Tr) (hc : KC c) (hd : KC d) (hT : (Tr.bin (17, 0) c d).WF) : KC (.bin (17, 0) c d) := by
  intro hwt b v w hv
  obtain ⟨g, cap, u, u', rfl, hn, hn', hu, hu'⟩ := hv
  obtain ⟨_, hcw, hdw, _, _⟩ := bin_cases hT
  have hw1 := wt_bin hT
  have hlc := kB_len hcw
  have hld := kB_len hdw
  have hcc := hc (by omega)
  have hdd := hd (by omega)
  obtain ⟨ua, un, uc, rfl⟩ := hu.sl
  obtain ⟨va, vn, vc, rfl⟩ := hu'.sl
  rw [kB_17]
  show Calls Try.prog 29 #[.agg #[.int .u8 17, .int .u8 0, .slice (some ⟨g, 0, none⟩) 2 cap], .bool b] w _
  have hb := below_new w (.cells #[.int .u8 17, .int .u8 0, .slice (some ⟨g, 0, none⟩) 2 cap] 54)
  have hr := (MapKept.heap_alloc w (.cells #[.int .u8 17, .int .u8 0, .slice (some ⟨g, 0, none⟩) 2 cap] 54)).1
  obtain ⟨n0, n1, n2⟩ := hn.up hb
  obtain ⟨m0, m1, m2⟩ := hn'.up hb
  have HU : Hid (TrAt (w.alloc (.cells #[.int .u8 17, .int .u8 0, .slice (some ⟨g, 0, none⟩) 2 cap] 54)) c _) := hu.up hb
  have HU' : Hid (TrAt (w.alloc (.cells #[.int .u8 17, .int .u8 0, .slice (some ⟨g, 0, none⟩) 2 cap] 54)) d _) := hu'.up hb
  unfold treeV at hcc hdd
  have HCC : Hid _ := hcc
  have HDD : Hid _ := hdd
  clear hcc hdd
  generalize rootK c = rk at *
  obtain ⟨ro, rp⟩ := rk
  generalize rootK d = rd at *
  obtain ⟨so, sp⟩ := rd
  dsimp only at n0 n1 m0 m1 HCC HDD
  simp only [Nat.reduceAdd] at n1 n2 m1 m2
  have hi0 := fun w' => Try.idxT0 g 2 cap w' (by omega)
  have hi1 := fun w' => Try.idxT1 g 2 cap w' (by omega)
  have HB : Hid (Below w.heap.size w (w.alloc (.cells #[.int .u8 17, .int .u8 0, .slice (some ⟨g, 0, none⟩) 2 cap] 54))) := hb
  have k0 : (w.alloc (.cells #[.int .u8 17, .int .u8 0, .slice (some ⟨g, 0, none⟩) 2 cap] 54)).cell? ⟨w.heap.size, 0, none⟩ = some (.int .u8 17) := cell_row hr 0
  have k2 : (w.alloc (.cells #[.int .u8 17, .int .u8 0, .slice (some ⟨g, 0, none⟩) 2 cap] 54)).cell? ⟨w.heap.size, 2, none⟩ = some (.slice (some ⟨g, 0, none⟩) 2 cap) := cell_row hr 2
  have hkeep : ∀ w1 w2 : World, (w1.cell? ⟨w.heap.size, 0, none⟩ = some (.int .u8 17) ∧ w1.cell? ⟨w.heap.size, 2, none⟩ = some (.slice (some ⟨g, 0, none⟩) 2 cap) ∧ w1.cell? ⟨g, 0, none⟩ = some (.int .u8 (ro : Int)) ∧ w1.cell? ⟨g, 1, none⟩ = some (.int .u8 (rp : Int)) ∧ w1.cell? ⟨g, 2, none⟩ = some (.slice ua un uc) ∧ w1.cell? ⟨g, 3, none⟩ = some (.int .u8 (so : Int)) ∧ w1.cell? ⟨g, 4, none⟩ = some (.int .u8 (sp : Int)) ∧ w1.cell? ⟨g, 5, none⟩ = some (.slice va vn vc)) → Below w1.heap.size w1 w2 → (w2.cell? ⟨w.heap.size, 0, none⟩ = some (.int .u8 17) ∧ w2.cell? ⟨w.heap.size, 2, none⟩ = some (.slice (some ⟨g, 0, none⟩) 2 cap) ∧ w2.cell? ⟨g, 0, none⟩ = some (.int .u8 (ro : Int)) ∧ w2.cell? ⟨g, 1, none⟩ = some (.int .u8 (rp : Int)) ∧ w2.cell? ⟨g, 2, none⟩ = some (.slice ua un uc) ∧ w2.cell? ⟨g, 3, none⟩ = some (.int .u8 (so : Int)) ∧ w2.cell? ⟨g, 4, none⟩ = some (.int .u8 (sp : Int)) ∧ w2.cell? ⟨g, 5, none⟩ = some (.slice va vn vc)) := fun w1 w2 h hb => ⟨kept_cell h.1 hb, kept_cell h.2.1 hb, kept_cell h.2.2.1 hb, kept_cell h.2.2.2.1 hb, kept_cell h.2.2.2.2.1 hb, kept_cell h.2.2.2.2.2.1 hb, kept_cell h.2.2.2.2.2.2.1 hb, kept_cell h.2.2.2.2.2.2.2 hb⟩
  have HK0 : Hid ((w.alloc (.cells #[.int .u8 17, .int .u8 0, .slice (some ⟨g, 0, none⟩) 2 cap] 54)).cell? ⟨w.heap.size, 0, none⟩ = some (.int .u8 17) ∧ (w.alloc (.cells #[.int .u8 17, .int .u8 0, .slice (some ⟨g, 0, none⟩) 2 cap] 54)).cell? ⟨w.heap.size, 2, none⟩ = some (.slice (some ⟨g, 0, none⟩) 2 cap) ∧ (w.alloc (.cells #[.int .u8 17, .int .u8 0, .slice (some ⟨g, 0, none⟩) 2 cap] 54)).cell? ⟨g, 0, none⟩ = some (.int .u8 (ro : Int)) ∧ (w.alloc (.cells #[.int .u8 17, .int .u8 0, .slice (some ⟨g, 0, none⟩) 2 cap] 54)).cell? ⟨g, 1, none⟩ = some (.int .u8 (rp : Int)) ∧ (w.alloc (.cells #[.int .u8 17, .int .u8 0, .slice (some ⟨g, 0, none⟩) 2 cap] 54)).cell? ⟨g, 2, none⟩ = some (.slice ua un uc) ∧ (w.alloc (.cells #[.int .u8 17, .int .u8 0, .slice (some ⟨g, 0, none⟩) 2 cap] 54)).cell? ⟨g, 3, none⟩ = some (.int .u8 (so : Int)) ∧ (w.alloc (.cells #[.int .u8 17, .int .u8 0, .slice (some ⟨g, 0, none⟩) 2 cap] 54)).cell? ⟨g, 4, none⟩ = some (.int .u8 (sp : Int)) ∧ (w.alloc (.cells #[.int .u8 17, .int .u8 0, .slice (some ⟨g, 0, none⟩) 2 cap] 54)).cell? ⟨g, 5, none⟩ = some (.slice va vn vc)) := ⟨k0, k2, n0, n1, n2, m0, m1, m2⟩
  clear hn hu hc hb hr hT hn' hu' hd
  unfold RowR
  obtain ⟨Y, hY⟩ : ∃ Y, Y = kB c false ++ kB d b ++ [(tn 17 18 b, 0)] := ⟨_, rfl⟩
  rw [← hY]
  have HY : Hid (Y = kB c false ++ kB d b ++ [(tn 17 18 b, 0)]) := hY
  clear hY
  go_enter Try.func29, Try.ntmps29
  go_wp2
  generalize w.alloc (.cells #[.int .u8 17, .int .u8 0, .slice (some ⟨g, 0, none⟩) 2 cap] 54) = w0 at *
  have hD : Below w0.heap.size w0 w0.drew := (Below.refl _ _).drew
  have hk0 := hkeep _ _ HK0.out hD
  have hq1 := HCC.out false _ _ (TrAt.up hD HU.out)
  have hlb := hlc false
  have hlb2 := hld b
  have hz2 : tn 17 18 b < 256 := tn_lt b (by decide) (by decide)
  have htu2 := fun w' => Try.rtu_17_18 b w'
  have HQ : Hid (∀ w1, Below w0.drew.heap.size w0.drew w1 → Calls Try.prog 29 _ w1 (RowR (kB d b) w1)) := fun w1 h1 => HDD.out b _ _ (TrAt.up (below_step hD h1) HU'.out)
  have HO : Hid (∀ w1 a1 c1 a2 c2, TkSl w1 a1 (kB c false).length c1 (kB c false) → TkSl w1 a2 (kB d b).length c2 (kB d b) → Calls Try.prog 51 #[.slice a1 (kB c false).length c1, .slice a2 (kB d b).length c2, .int .u8 (tn 17 18 b : Int)] w1 (RowR Y w1)) := fun w1 a1 c1 a2 c2 t1 t2 => by rw [HY.out]; exact Try.rtwo_any a1 _ c1 (kB c false) a2 _ c2 (kB d b) (tn 17 18 b) w1 t1 t2 hz2 (by omega) (by omega)
  unfold RowR at HO HQ hq1
  generalize kB c false = X1 at *
  generalize kB d b = X2 at *
  generalize tn 17 18 b = z2 at *
  clear HCC HDD HU HU' HK0 hlc hld hlb hlb2
  go_region_held3 (fun w' => w'.cell? ⟨w.heap.size, 0, none⟩ = some (.int .u8 17) ∧ w'.cell? ⟨w.heap.size, 2, none⟩ = some (.slice (some ⟨g, 0, none⟩) 2 cap) ∧ w'.cell? ⟨g, 0, none⟩ = some (.int .u8 (ro : Int)) ∧ w'.cell? ⟨g, 1, none⟩ = some (.int .u8 (rp : Int)) ∧ w'.cell? ⟨g, 2, none⟩ = some (.slice ua un uc) ∧ w'.cell? ⟨g, 3, none⟩ = some (.int .u8 (so : Int)) ∧ w'.cell? ⟨g, 4, none⟩ = some (.int .u8 (sp : Int)) ∧ w'.cell? ⟨g, 5, none⟩ = some (.slice va vn vc)) (first | exact hk0 | exact s1 | exact s2 | exact s3 | fail) (first
    | (go_at_call 29; (with_reducible refine hq1.mono ?_); rintro e w1 ⟨a1, c1, rfl, t1, b1⟩; have s1 := hkeep _ _ hk0 b1; have hq2 := HQ.out w1 b1)
    | (go_at_call 29; (with_reducible refine hq2.mono ?_); rintro e w2 ⟨a2, c2, rfl, t2, b2⟩; have s2 := hkeep _ _ s1 b2; have ho := HO.out w2 a1 c1 a2 c2 (t1.up b2) t2; have htw := htu2 w2)
    | (go_at_call 50; (with_reducible refine htw.mono ?_); rintro e w' ⟨rfl, rfl⟩)
    | (go_at_call 51; (with_reducible refine ho.mono ?_); rintro e w3 ⟨a3, c3, rfl, t3, b3⟩; have s3 := hkeep _ _ s2 b3)
    | fail)
  all_goals
    have HT3 : Hid _ := t3
    have HB3 : Hid _ := below_step (below_step (below_step (below_step HB.out hD) b1) b2) b3
    clear s1 s2 s3 t1 t2 t3 b1 b2 b3 ho htw hq1 hq2 hk0
    go_wp2
    go_ret
    exact ⟨a3, c3, rfl, HT3.out, HB3.out⟩
set_option maxRecDepth 100000 in
set_option maxHeartbeats 4000000 in
theorem Try.rk_bin_18 (c d : Tr) (hc : KC c) (hd : KC d) (hT : (Tr.bin (18, 0) c d).WF) : KC (.bin (18, 0) c d) := by
  intro hwt b v w hv
  obtain ⟨g, cap, u, u', rfl, hn, hn', hu, hu'⟩ := hv
  obtain ⟨_, hcw, hdw, _, _⟩ := bin_cases hT
  have hw1 := wt_bin hT
  have hlc := kB_len hcw
  have hld := kB_len hdw
  have hcc := hc (by omega)
  have hdd := hd (by omega)
  obtain ⟨ua, un, uc, rfl⟩ := hu.sl
  obtain ⟨va, vn, vc, rfl⟩ := hu'.sl
  rw [kB_18]
  show Calls Try.prog 29 #[.agg #[.int .u8 18, .int .u8 0, .slice (some ⟨g, 0, none⟩) 2 cap], .bool b] w _
  have hb := below_new w (.cells #[.int .u8 18, .int .u8 0, .slice (some ⟨g, 0, none⟩) 2 cap] 54)
  have hr := (MapKept.heap_alloc w (.cells #[.int .u8 18, .int .u8 0, .slice (some ⟨g, 0, none⟩) 2 cap] 54)).1
  obtain ⟨n0, n1, n2⟩ := hn.up hb
  obtain ⟨m0, m1, m2⟩ := hn'.up hb
  have HU : Hid (TrAt (w.alloc (.cells #[.int .u8 18, .int .u8 0, .slice (some ⟨g, 0, none⟩) 2 cap] 54)) c _) := hu.up hb
  have HU' : Hid (TrAt (w.alloc (.cells #[.int .u8 18, .int .u8 0, .slice (some ⟨g, 0, none⟩) 2 cap] 54)) d _) := hu'.up hb
  unfold treeV at hcc hdd
  have HCC : Hid _ := hcc
  have HDD : Hid _ := hdd
  clear hcc hdd
  generalize rootK c = rk at *
  obtain ⟨ro, rp⟩ := rk
  generalize rootK d = rd at *
  obtain ⟨so, sp⟩ := rd
  dsimp only at n0 n1 m0 m1 HCC HDD
  simp only [Nat.reduceAdd] at n1 n2 m1 m2
  have hi0 := fun w' => Try.idxT0 g 2 cap w' (by omega)
  have hi1 := fun w' => Try.idxT1 g 2 cap w' (by omega)
  have HB : Hid (Below w.heap.size w (w.alloc (.cells #[.int .u8 18, .int .u8 0, .slice (some ⟨g, 0, none⟩) 2 cap] 54))) := hb
  have k0 : (w.alloc (.cells #[.int .u8 18, .int .u8 0, .slice (some ⟨g, 0, none⟩) 2 cap] 54)).cell? ⟨w.heap.size, 0, none⟩ = some (.int .u8 18) := cell_row hr 0
  have k2 : (w.alloc (.cells #[.int .u8 18, .int .u8 0, .slice (some ⟨g, 0, none⟩) 2 cap] 54)).cell? ⟨w.heap.size, 2, none⟩ = some (.slice (some ⟨g, 0, none⟩) 2 cap) := cell_row hr 2
  have hkeep : ∀ w1 w2 : World, (w1.cell? ⟨w.heap.size, 0, none⟩ = some (.int .u8 18) ∧ w1.cell? ⟨w.heap.size, 2, none⟩ = some (.slice (some ⟨g, 0, none⟩) 2 cap) ∧ w1.cell? ⟨g, 0, none⟩ = some (.int .u8 (ro : Int)) ∧ w1.cell? ⟨g, 1, none⟩ = some (.int .u8 (rp : Int)) ∧ w1.cell? ⟨g, 2, none⟩ = some (.slice ua un uc) ∧ w1.cell? ⟨g, 3, none⟩ = some (.int .u8 (so : Int)) ∧ w1.cell? ⟨g, 4, none⟩ = some (.int .u8 (sp : Int)) ∧ w1.cell? ⟨g, 5, none⟩ = some (.slice va vn vc)) → Below w1.heap.size w1 w2 → (w2.cell? ⟨w.heap.size, 0, none⟩ = some (.int .u8 18) ∧ w2.cell? ⟨w.heap.size, 2, none⟩ = some (.slice (some ⟨g, 0, none⟩) 2 cap) ∧ w2.cell? ⟨g, 0, none⟩ = some (.int .u8 (ro : Int)) ∧ w2.cell? ⟨g, 1, none⟩ = some (.int .u8 (rp : Int)) ∧ w2.cell? ⟨g, 2, none⟩ = some (.slice ua un uc) ∧ w2.cell? ⟨g, 3, none⟩ = some (.int .u8 (so : Int)) ∧ w2.cell? ⟨g, 4, none⟩ = some (.int .u8 (sp : Int)) ∧ w2.cell? ⟨g, 5, none⟩ = some (.slice va vn vc)) := fun w1 w2 h hb => ⟨kept_cell h.1 hb, kept_cell h.2.1 hb, kept_cell h.2.2.1 hb, kept_cell h.2.2.2.1 hb, kept_cell h.2.2.2.2.1 hb, kept_cell h.2.2.2.2.2.1 hb, kept_cell h.2.2.2.2.2.2.1 hb, kept_cell h.2.2.2.2.2.2.2 hb⟩
  have HK0 : Hid ((w.alloc (.cells #[.int .u8 18, .int .u8 0, .slice (some ⟨g, 0, none⟩) 2 cap] 54)).cell? ⟨w.heap.size, 0, none⟩ = some (.int .u8 18) ∧ (w.alloc (.cells #[.int .u8 18, .int .u8 0, .slice (some ⟨g, 0, none⟩) 2 cap] 54)).cell? ⟨w.heap.size, 2, none⟩ = some (.slice (some ⟨g, 0, none⟩) 2 cap) ∧ (w.alloc (.cells #[.int .u8 18, .int .u8 0, .slice (some ⟨g, 0, none⟩) 2 cap] 54)).cell? ⟨g, 0, none⟩ = some (.int .u8 (ro : Int)) ∧ (w.alloc (.cells #[.int .u8 18, .int .u8 0, .slice (some ⟨g, 0, none⟩) 2 cap] 54)).cell? ⟨g, 1, none⟩ = some (.int .u8 (rp : Int)) ∧ (w.alloc (.cells #[.int .u8 18, .int .u8 0, .slice (some ⟨g, 0, none⟩) 2 cap] 54)).cell? ⟨g, 2, none⟩ = some (.slice ua un uc) ∧ (w.alloc (.cells #[.int .u8 18, .int .u8 0, .slice (some ⟨g, 0, none⟩) 2 cap] 54)).cell? ⟨g, 3, none⟩ = some (.int .u8 (so : Int)) ∧ (w.alloc (.cells #[.int .u8 18, .int .u8 0, .slice (some ⟨g, 0, none⟩) 2 cap] 54)).cell? ⟨g, 4, none⟩ = some (.int .u8 (sp : Int)) ∧ (w.alloc (.cells #[.int .u8 18, .int .u8 0, .slice (some ⟨g, 0, none⟩) 2 cap] 54)).cell? ⟨g, 5, none⟩ = some (.slice va vn vc)) := ⟨k0, k2, n0, n1, n2, m0, m1, m2⟩
  clear hn hu hc hb hr hT hn' hu' hd
  unfold RowR
  obtain ⟨Y, hY⟩ : ∃ Y, Y = kB c false ++ kB d b ++ [(tn 18 17 b, 0)] := ⟨_, rfl⟩
  rw [← hY]
  have HY : Hid (Y = kB c false ++ kB d b ++ [(tn 18 17 b, 0)]) := hY
  clear hY
  go_enter Try.func29, Try.ntmps29
  go_wp2
  generalize w.alloc (.cells #[.int .u8 18, .int .u8 0, .slice (some ⟨g, 0, none⟩) 2 cap] 54) = w0 at *
  have hD : Below w0.heap.size w0 w0.drew := (Below.refl _ _).drew
  have hk0 := hkeep _ _ HK0.out hD
  have hq1 := HCC.out false _ _ (TrAt.up hD HU.out)
  have hlb := hlc false
  have hlb2 := hld b
  have hz2 : tn 18 17 b < 256 := tn_lt b (by decide) (by decide)
  have htu2 := fun w' => Try.rtu_18_17 b w'
  have HQ : Hid (∀ w1, Below w0.drew.heap.size w0.drew w1 → Calls Try.prog 29 _ w1 (RowR (kB d b) w1)) := fun w1 h1 => HDD.out b _ _ (TrAt.up (below_step hD h1) HU'.out)
  have HO : Hid (∀ w1 a1 c1 a2 c2, TkSl w1 a1 (kB c false).length c1 (kB c false) → TkSl w1 a2 (kB d b).length c2 (kB d b) → Calls Try.prog 51 #[.slice a1 (kB c false).length c1, .slice a2 (kB d b).length c2, .int .u8 (tn 18 17 b : Int)] w1 (RowR Y w1)) := fun w1 a1 c1 a2 c2 t1 t2 => by rw [HY.out]; exact Try.rtwo_any a1 _ c1 (kB c false) a2 _ c2 (kB d b) (tn 18 17 b) w1 t1 t2 hz2 (by omega) (by omega)
  unfold RowR at HO HQ hq1
  generalize kB c false = X1 at *
  generalize kB d b = X2 at *
  generalize tn 18 17 b = z2 at *
  clear HCC HDD HU HU' HK0 hlc hld hlb hlb2
  go_region_held3 (fun w' => w'.cell? ⟨w.heap.size, 0, none⟩ = some (.int .u8 18) ∧ w'.cell? ⟨w.heap.size, 2, none⟩ = some (.slice (some ⟨g, 0, none⟩) 2 cap) ∧ w'.cell? ⟨g, 0, none⟩ = some (.int .u8 (ro : Int)) ∧ w'.cell? ⟨g, 1, none⟩ = some (.int .u8 (rp : Int)) ∧ w'.cell? ⟨g, 2, none⟩ = some (.slice ua un uc) ∧ w'.cell? ⟨g, 3, none⟩ = some (.int .u8 (so : Int)) ∧ w'.cell? ⟨g, 4, none⟩ = some (.int .u8 (sp : Int)) ∧ w'.cell? ⟨g, 5, none⟩ = some (.slice va vn vc)) (first | exact hk0 | exact s1 | exact s2 | exact s3 | fail) (first
    | (go_at_call 29; (with_reducible refine hq1.mono ?_); rintro e w1 ⟨a1, c1, rfl, t1, b1⟩; have s1 := hkeep _ _ hk0 b1; have hq2 := HQ.out w1 b1)
    | (go_at_call 29; (with_reducible refine hq2.mono ?_); rintro e w2 ⟨a2, c2, rfl, t2, b2⟩; have s2 := hkeep _ _ s1 b2; have ho := HO.out w2 a1 c1 a2 c2 (t1.up b2) t2; have htw := htu2 w2)
    | (go_at_call 50; (with_reducible refine htw.mono ?_); rintro e w' ⟨rfl, rfl⟩)
    | (go_at_call 51; (with_reducible refine ho.mono ?_); rintro e w3 ⟨a3, c3, rfl, t3, b3⟩; have s3 := hkeep _ _ s2 b3)
    | fail)
  all_goals
    have HT3 : Hid _ := t3
    have HB3 : Hid _ := below_step (below_step (below_step (below_step HB.out hD) b1) b2) b3
    clear s1 s2 s3 t1 t2 t3 b1 b2 b3 ho htw hq1 hq2 hk0
    go_wp2
    go_ret
    exact ⟨a3, c3, rfl, HT3.out, HB3.out⟩
set_option maxRecDepth 100000 in
set_option maxHeartbeats 4000000 in
theorem Try.rk_bin_21 (c d : Tr) (hc : KC c) (hd : KC d) (hT : (Tr.bin (21, 0) c d).WF) : KC (.bin (21, 0) c d) := by
  intro hwt b v w hv
  obtain ⟨g, cap, u, u', rfl, hn, hn', hu, hu'⟩ := hv
  obtain ⟨_, hcw, hdw, _, _⟩ := bin_cases hT
  have hw1 := wt_bin hT
  have hlc := kB_len hcw
  have hld := kB_len hdw
  have hcc := hc (by omega)
  have hdd := hd (by omega)
  obtain ⟨ua, un, uc, rfl⟩ := hu.sl
  obtain ⟨va, vn, vc, rfl⟩ := hu'.sl
  rw [kB_21]
  show Calls Try.prog 29 #[.agg #[.int .u8 21, .int .u8 0, .slice (some ⟨g, 0, none⟩) 2 cap], .bool b] w _
  have hb := below_new w (.cells #[.int .u8 21, .int .u8 0, .slice (some ⟨g, 0, none⟩) 2 cap] 54)
  have hr := (MapKept.heap_alloc w (.cells #[.int .u8 21, .int .u8 0, .slice (some ⟨g, 0, none⟩) 2 cap] 54)).1
  obtain ⟨n0, n1, n2⟩ := hn.up hb
  obtain ⟨m0, m1, m2⟩ := hn'.up hb
  have HU : Hid (TrAt (w.alloc (.cells #[.int .u8 21, .int .u8 0, .slice (some ⟨g, 0, none⟩) 2 cap] 54)) c _) := hu.up hb
  have HU' : Hid (TrAt (w.alloc (.cells #[.int .u8 21, .int .u8 0, .slice (some ⟨g, 0, none⟩) 2 cap] 54)) d _) := hu'.up hb
  unfold treeV at hcc hdd
  have HCC : Hid _ := hcc
  have HDD : Hid _ := hdd
  clear hcc hdd
  generalize rootK c = rk at *
  obtain ⟨ro, rp⟩ := rk
  generalize rootK d = rd at *
  obtain ⟨so, sp⟩ := rd
  dsimp only at n0 n1 m0 m1 HCC HDD
  simp only [Nat.reduceAdd] at n1 n2 m1 m2
  have hi0 := fun w' => Try.idxT0 g 2 cap w' (by omega)
  have hi1 := fun w' => Try.idxT1 g 2 cap w' (by omega)
  have HB : Hid (Below w.heap.size w (w.alloc (.cells #[.int .u8 21, .int .u8 0, .slice (some ⟨g, 0, none⟩) 2 cap] 54))) := hb
  have k0 : (w.alloc (.cells #[.int .u8 21, .int .u8 0, .slice (some ⟨g, 0, none⟩) 2 cap] 54)).cell? ⟨w.heap.size, 0, none⟩ = some (.int .u8 21) := cell_row hr 0
  have k2 : (w.alloc (.cells #[.int .u8 21, .int .u8 0, .slice (some ⟨g, 0, none⟩) 2 cap] 54)).cell? ⟨w.heap.size, 2, none⟩ = some (.slice (some ⟨g, 0, none⟩) 2 cap) := cell_row hr 2
  have hkeep : ∀ w1 w2 : World, (w1.cell? ⟨w.heap.size, 0, none⟩ = some (.int .u8 21) ∧ w1.cell? ⟨w.heap.size, 2, none⟩ = some (.slice (some ⟨g, 0, none⟩) 2 cap) ∧ w1.cell? ⟨g, 0, none⟩ = some (.int .u8 (ro : Int)) ∧ w1.cell? ⟨g, 1, none⟩ = some (.int .u8 (rp : Int)) ∧ w1.cell? ⟨g, 2, none⟩ = some (.slice ua un uc) ∧ w1.cell? ⟨g, 3, none⟩ = some (.int .u8 (so : Int)) ∧ w1.cell? ⟨g, 4, none⟩ = some (.int .u8 (sp : Int)) ∧ w1.cell? ⟨g, 5, none⟩ = some (.slice va vn vc)) → Below w1.heap.size w1 w2 → (w2.cell? ⟨w.heap.size, 0, none⟩ = some (.int .u8 21) ∧ w2.cell? ⟨w.heap.size, 2, none⟩ = some (.slice (some ⟨g, 0, none⟩) 2 cap) ∧ w2.cell? ⟨g, 0, none⟩ = some (.int .u8 (ro : Int)) ∧ w2.cell? ⟨g, 1, none⟩ = some (.int .u8 (rp : Int)) ∧ w2.cell? ⟨g, 2, none⟩ = some (.slice ua un uc) ∧ w2.cell? ⟨g, 3, none⟩ = some (.int .u8 (so : Int)) ∧ w2.cell? ⟨g, 4, none⟩ = some (.int .u8 (sp : Int)) ∧ w2.cell? ⟨g, 5, none⟩ = some (.slice va vn vc)) := fun w1 w2 h hb => ⟨kept_cell h.1 hb, kept_cell h.2.1 hb, kept_cell h.2.2.1 hb, kept_cell h.2.2.2.1 hb, kept_cell h.2.2.2.2.1 hb, kept_cell h.2.2.2.2.2.1 hb, kept_cell h.2.2.2.2.2.2.1 hb, kept_cell h.2.2.2.2.2.2.2 hb⟩
  have HK0 : Hid ((w.alloc (.cells #[.int .u8 21, .int .u8 0, .slice (some ⟨g, 0, none⟩) 2 cap] 54)).cell? ⟨w.heap.size, 0, none⟩ = some (.int .u8 21) ∧ (w.alloc (.cells #[.int .u8 21, .int .u8 0, .slice (some ⟨g, 0, none⟩) 2 cap] 54)).cell? ⟨w.heap.size, 2, none⟩ = some (.slice (some ⟨g, 0, none⟩) 2 cap) ∧ (w.alloc (.cells #[.int .u8 21, .int .u8 0, .slice (some ⟨g, 0, none⟩) 2 cap] 54)).cell? ⟨g, 0, none⟩ = some (.int .u8 (ro : Int)) ∧ (w.alloc (.cells #[.int .u8 21, .int .u8 0, .slice (some ⟨g, 0, none⟩) 2 cap] 54)).cell? ⟨g, 1, none⟩ = some (.int .u8 (rp : Int)) ∧ (w.alloc (.cells #[.int .u8 21, .int .u8 0, .slice (some ⟨g, 0, none⟩) 2 cap] 54)).cell? ⟨g, 2, none⟩ = some (.slice ua un uc) ∧ (w.alloc (.cells #[.int .u8 21, .int .u8 0, .slice (some ⟨g, 0, none⟩) 2 cap] 54)).cell? ⟨g, 3, none⟩ = some (.int .u8 (so : Int)) ∧ (w.alloc (.cells #[.int .u8 21, .int .u8 0, .slice (some ⟨g, 0, none⟩) 2 cap] 54)).cell? ⟨g, 4, none⟩ = some (.int .u8 (sp : Int)) ∧ (w.alloc (.cells #[.int .u8 21, .int .u8 0, .slice (some ⟨g, 0, none⟩) 2 cap] 54)).cell? ⟨g, 5, none⟩ = some (.slice va vn vc)) := ⟨k0, k2, n0, n1, n2, m0, m1, m2⟩
  clear hn hu hc hb hr hT hn' hu' hd
  unfold RowR
  obtain ⟨Y, hY⟩ : ∃ Y, Y = kB c false ++ kB d false ++ [(21, 0)] := ⟨_, rfl⟩
  rw [← hY]
  have HY : Hid (Y = kB c false ++ kB d false ++ [(21, 0)]) := hY
  clear hY
  go_enter Try.func29, Try.ntmps29
  go_wp2
  generalize w.alloc (.cells #[.int .u8 21, .int .u8 0, .slice (some ⟨g, 0, none⟩) 2 cap] 54) = w0 at *
  have hD : Below w0.heap.size w0 w0.drew := (Below.refl _ _).drew
  have hk0 := hkeep _ _ HK0.out hD
  have hq1 := HCC.out false _ _ (TrAt.up hD HU.out)
  have hlb := hlc false
  have hlb2 := hld false
  have HQ : Hid (∀ w1, Below w0.drew.heap.size w0.drew w1 → Calls Try.prog 29 _ w1 (RowR (kB d false) w1)) := fun w1 h1 => HDD.out false _ _ (TrAt.up (below_step hD h1) HU'.out)
  have HO : Hid (∀ w1 a1 c1 a2 c2, TkSl w1 a1 (kB c false).length c1 (kB c false) → TkSl w1 a2 (kB d false).length c2 (kB d false) → Calls Try.prog 51 #[.slice a1 (kB c false).length c1, .slice a2 (kB d false).length c2, .int .u8 21] w1 (RowR Y w1)) := fun w1 a1 c1 a2 c2 t1 t2 => by rw [HY.out]; exact Try.rtwo_any a1 _ c1 (kB c false) a2 _ c2 (kB d false) (21) w1 t1 t2 (by decide) (by omega) (by omega)
  unfold RowR at HO HQ hq1
  generalize kB c false = X1 at *
  generalize kB d false = X2 at *
  clear HCC HDD HU HU' HK0 hlc hld hlb hlb2
  go_region_held3 (fun w' => w'.cell? ⟨w.heap.size, 0, none⟩ = some (.int .u8 21) ∧ w'.cell? ⟨w.heap.size, 2, none⟩ = some (.slice (some ⟨g, 0, none⟩) 2 cap) ∧ w'.cell? ⟨g, 0, none⟩ = some (.int .u8 (ro : Int)) ∧ w'.cell? ⟨g, 1, none⟩ = some (.int .u8 (rp : Int)) ∧ w'.cell? ⟨g, 2, none⟩ = some (.slice ua un uc) ∧ w'.cell? ⟨g, 3, none⟩ = some (.int .u8 (so : Int)) ∧ w'.cell? ⟨g, 4, none⟩ = some (.int .u8 (sp : Int)) ∧ w'.cell? ⟨g, 5, none⟩ = some (.slice va vn vc)) (first | exact hk0 | exact s1 | exact s2 | exact s3 | fail) (first
    | (go_at_call 29; (with_reducible refine hq1.mono ?_); rintro e w1 ⟨a1, c1, rfl, t1, b1⟩; have s1 := hkeep _ _ hk0 b1; have hq2 := HQ.out w1 b1)
    | (go_at_call 29; (with_reducible refine hq2.mono ?_); rintro e w2 ⟨a2, c2, rfl, t2, b2⟩; have s2 := hkeep _ _ s1 b2; have ho := HO.out w2 a1 c1 a2 c2 (t1.up b2) t2)
    | (go_at_call 51; (with_reducible refine ho.mono ?_); rintro e w3 ⟨a3, c3, rfl, t3, b3⟩; have s3 := hkeep _ _ s2 b3)
    | fail)
  all_goals
    have HT3 : Hid _ := t3
    have HB3 : Hid _ := below_step (below_step (below_step (below_step HB.out hD) b1) b2) b3
    clear s1 s2 s3 t1 t2 t3 b1 b2 b3 ho hq1 hq2 hk0
    go_wp2
    go_ret
    exact ⟨a3, c3, rfl, HT3.out, HB3.out⟩
set_option maxRecDepth 100000 in
set_option maxHeartbeats 4000000 in
theorem Try.rk_bin_22 (c d : Tr) (hc : KC c) (hd : KC d) (hT : (Tr.bin (22, 0) c d).WF) : KC (.bin (22, 0) c d) := by
  intro hwt b v w hv
  obtain ⟨g, cap, u, u', rfl, hn, hn', hu, hu'⟩ := hv
  obtain ⟨_, hcw, hdw, _, _⟩ := bin_cases hT
  have hw1 := wt_bin hT
  have hlc := kB_len hcw
  have hld := kB_len hdw
  have hcc := hc (by omega)
  have hdd := hd (by omega)
  obtain ⟨ua, un, uc, rfl⟩ := hu.sl
  obtain ⟨va, vn, vc, rfl⟩ := hu'.sl
  rw [kB_22]
  show Calls Try.prog 29 #[.agg #[.int .u8 22, .int .u8 0, .slice (some ⟨g, 0, none⟩) 2 cap], .bool b] w _
  have hb := below_new w (.cells #[.int .u8 22, .int .u8 0, .slice (some ⟨g, 0, none⟩) 2 cap] 54)
  have hr := (MapKept.heap_alloc w (.cells #[.int .u8 22, .int .u8 0, .slice (some ⟨g, 0, none⟩) 2 cap] 54)).1
  obtain ⟨n0, n1, n2⟩ := hn.up hb
  obtain ⟨m0, m1, m2⟩ := hn'.up hb
  have HU : Hid (TrAt (w.alloc (.cells #[.int .u8 22, .int .u8 0, .slice (some ⟨g, 0, none⟩) 2 cap] 54)) c _) := hu.up hb
  have HU' : Hid (TrAt (w.alloc (.cells #[.int .u8 22, .int .u8 0, .slice (some ⟨g, 0, none⟩) 2 cap] 54)) d _) := hu'.up hb
  unfold treeV at hcc hdd
  have HCC : Hid _ := hcc
  have HDD : Hid _ := hdd
  clear hcc hdd
  generalize rootK c = rk at *
  obtain ⟨ro, rp⟩ := rk
  generalize rootK d = rd at *
  obtain ⟨so, sp⟩ := rd
  dsimp only at n0 n1 m0 m1 HCC HDD
  simp only [Nat.reduceAdd] at n1 n2 m1 m2
  have hi0 := fun w' => Try.idxT0 g 2 cap w' (by omega)
  have hi1 := fun w' => Try.idxT1 g 2 cap w' (by omega)
  have HB : Hid (Below w.heap.size w (w.alloc (.cells #[.int .u8 22, .int .u8 0, .slice (some ⟨g, 0, none⟩) 2 cap] 54))) := hb
  have k0 : (w.alloc (.cells #[.int .u8 22, .int .u8 0, .slice (some ⟨g, 0, none⟩) 2 cap] 54)).cell? ⟨w.heap.size, 0, none⟩ = some (.int .u8 22) := cell_row hr 0
  have k2 : (w.alloc (.cells #[.int .u8 22, .int .u8 0, .slice (some ⟨g, 0, none⟩) 2 cap] 54)).cell? ⟨w.heap.size, 2, none⟩ = some (.slice (some ⟨g, 0, none⟩) 2 cap) := cell_row hr 2
  have hkeep : ∀ w1 w2 : World, (w1.cell? ⟨w.heap.size, 0, none⟩ = some (.int .u8 22) ∧ w1.cell? ⟨w.heap.size, 2, none⟩ = some (.slice (some ⟨g, 0, none⟩) 2 cap) ∧ w1.cell? ⟨g, 0, none⟩ = some (.int .u8 (ro : Int)) ∧ w1.cell? ⟨g, 1, none⟩ = some (.int .u8 (rp : Int)) ∧ w1.cell? ⟨g, 2, none⟩ = some (.slice ua un uc) ∧ w1.cell? ⟨g, 3, none⟩ = some (.int .u8 (so : Int)) ∧ w1.cell? ⟨g, 4, none⟩ = some (.int .u8 (sp : Int)) ∧ w1.cell? ⟨g, 5, none⟩ = some (.slice va vn vc)) → Below w1.heap.size w1 w2 → (w2.cell? ⟨w.heap.size, 0, none⟩ = some (.int .u8 22) ∧ w2.cell? ⟨w.heap.size, 2, none⟩ = some (.slice (some ⟨g, 0, none⟩) 2 cap) ∧ w2.cell? ⟨g, 0, none⟩ = some (.int .u8 (ro : Int)) ∧ w2.cell? ⟨g, 1, none⟩ = some (.int .u8 (rp : Int)) ∧ w2.cell? ⟨g, 2, none⟩ = some (.slice ua un uc) ∧ w2.cell? ⟨g, 3, none⟩ = some (.int .u8 (so : Int)) ∧ w2.cell? ⟨g, 4, none⟩ = some (.int .u8 (sp : Int)) ∧ w2.cell? ⟨g, 5, none⟩ = some (.slice va vn vc)) := fun w1 w2 h hb => ⟨kept_cell h.1 hb, kept_cell h.2.1 hb, kept_cell h.2.2.1 hb, kept_cell h.2.2.2.1 hb, kept_cell h.2.2.2.2.1 hb, kept_cell h.2.2.2.2.2.1 hb, kept_cell h.2.2.2.2.2.2.1 hb, kept_cell h.2.2.2.2.2.2.2 hb⟩
  have HK0 : Hid ((w.alloc (.cells #[.int .u8 22, .int .u8 0, .slice (some ⟨g, 0, none⟩) 2 cap] 54)).cell? ⟨w.heap.size, 0, none⟩ = some (.int .u8 22) ∧ (w.alloc (.cells #[.int .u8 22, .int .u8 0, .slice (some ⟨g, 0, none⟩) 2 cap] 54)).cell? ⟨w.heap.size, 2, none⟩ = some (.slice (some ⟨g, 0, none⟩) 2 cap) ∧ (w.alloc (.cells #[.int .u8 22, .int .u8 0, .slice (some ⟨g, 0, none⟩) 2 cap] 54)).cell? ⟨g, 0, none⟩ = some (.int .u8 (ro : Int)) ∧ (w.alloc (.cells #[.int .u8 22, .int .u8 0, .slice (some ⟨g, 0, none⟩) 2 cap] 54)).cell? ⟨g, 1, none⟩ = some (.int .u8 (rp : Int)) ∧ (w.alloc (.cells #[.int .u8 22, .int .u8 0, .slice (some ⟨g, 0, none⟩) 2 cap] 54)).cell? ⟨g, 2, none⟩ = some (.slice ua un uc) ∧ (w.alloc (.cells #[.int .u8 22, .int .u8 0, .slice (some ⟨g, 0, none⟩) 2 cap] 54)).cell? ⟨g, 3, none⟩ = some (.int .u8 (so : Int)) ∧ (w.alloc (.cells #[.int .u8 22, .int .u8 0, .slice (some ⟨g, 0, none⟩) 2 cap] 54)).cell? ⟨g, 4, none⟩ = some (.int .u8 (sp : Int)) ∧ (w.alloc (.cells #[.int .u8 22, .int .u8 0, .slice (some ⟨g, 0, none⟩) 2 cap] 54)).cell? ⟨g, 5, none⟩ = some (.slice va vn vc)) := ⟨k0, k2, n0, n1, n2, m0, m1, m2⟩
  clear hn hu hc hb hr hT hn' hu' hd
  unfold RowR
  obtain ⟨Y, hY⟩ : ∃ Y, Y = kB c false ++ kB d false ++ [(22, 0)] := ⟨_, rfl⟩
  rw [← hY]
  have HY : Hid (Y = kB c false ++ kB d false ++ [(22, 0)]) := hY
  clear hY
  go_enter Try.func29, Try.ntmps29
  go_wp2
  generalize w.alloc (.cells #[.int .u8 22, .int .u8 0, .slice (some ⟨g, 0, none⟩) 2 cap] 54) = w0 at *
  have hD : Below w0.heap.size w0 w0.drew := (Below.refl _ _).drew
  have hk0 := hkeep _ _ HK0.out hD
  have hq1 := HCC.out false _ _ (TrAt.up hD HU.out)
  have hlb := hlc false
  have hlb2 := hld false
  have HQ : Hid (∀ w1, Below w0.drew.heap.size w0.drew w1 → Calls Try.prog 29 _ w1 (RowR (kB d false) w1)) := fun w1 h1 => HDD.out false _ _ (TrAt.up (below_step hD h1) HU'.out)
  have HO : Hid (∀ w1 a1 c1 a2 c2, TkSl w1 a1 (kB c false).length c1 (kB c false) → TkSl w1 a2 (kB d false).length c2 (kB d false) → Calls Try.prog 51 #[.slice a1 (kB c false).length c1, .slice a2 (kB d false).length c2, .int .u8 22] w1 (RowR Y w1)) := fun w1 a1 c1 a2 c2 t1 t2 => by rw [HY.out]; exact Try.rtwo_any a1 _ c1 (kB c false) a2 _ c2 (kB d false) (22) w1 t1 t2 (by decide) (by omega) (by omega)
  unfold RowR at HO HQ hq1
  generalize kB c false = X1 at *
  generalize kB d false = X2 at *
  clear HCC HDD HU HU' HK0 hlc hld hlb hlb2
  go_region_held3 (fun w' => w'.cell? ⟨w.heap.size, 0, none⟩ = some (.int .u8 22) ∧ w'.cell? ⟨w.heap.size, 2, none⟩ = some (.slice (some ⟨g, 0, none⟩) 2 cap) ∧ w'.cell? ⟨g, 0, none⟩ = some (.int .u8 (ro : Int)) ∧ w'.cell? ⟨g, 1, none⟩ = some (.int .u8 (rp : Int)) ∧ w'.cell? ⟨g, 2, none⟩ = some (.slice ua un uc) ∧ w'.cell? ⟨g, 3, none⟩ = some (.int .u8 (so : Int)) ∧ w'.cell? ⟨g, 4, none⟩ = some (.int .u8 (sp : Int)) ∧ w'.cell? ⟨g, 5, none⟩ = some (.slice va vn vc)) (first | exact hk0 | exact s1 | exact s2 | exact s3 | fail) (first
    | (go_at_call 29; (with_reducible refine hq1.mono ?_); rintro e w1 ⟨a1, c1, rfl, t1, b1⟩; have s1 := hkeep _ _ hk0 b1; have hq2 := HQ.out w1 b1)
    | (go_at_call 29; (with_reducible refine hq2.mono ?_); rintro e w2 ⟨a2, c2, rfl, t2, b2⟩; have s2 := hkeep _ _ s1 b2; have ho := HO.out w2 a1 c1 a2 c2 (t1.up b2) t2)
    | (go_at_call 51; (with_reducible refine ho.mono ?_); rintro e w3 ⟨a3, c3, rfl, t3, b3⟩; have s3 := hkeep _ _ s2 b3)
    | fail)
  all_goals
    have HT3 : Hid _ := t3
    have HB3 : Hid _ := below_step (below_step (below_step (below_step HB.out hD) b1) b2) b3
    clear s1 s2 s3 t1 t2 t3 b1 b2 b3 ho hq1 hq2 hk0
    go_wp2
    go_ret
    exact ⟨a3, c3, rfl, HT3.out, HB3.out⟩
set_option maxRecDepth 100000 in
set_option maxHeartbeats 4000000 in
theorem Try.rk_bin_14 (c d : Tr) (hc : KC c) (hd : KC d) (hT : (Tr.bin (14, 0) c d).WF) : KC (.bin (14, 0) c d) := by
  intro hwt b v w hv
  obtain ⟨g, cap, u, u', rfl, hn, hn', hu, hu'⟩ := hv
  obtain ⟨_, hcw, hdw, _, _⟩ := bin_cases hT
  have hw1 := wt_bin hT
  have hlc := kB_len hcw
  have hld := kB_len hdw
  have hcc := hc (by omega)
  have hdd := hd (by omega)
  obtain ⟨ua, un, uc, rfl⟩ := hu.sl
  obtain ⟨va, vn, vc, rfl⟩ := hu'.sl
  rw [kB_14]
  show Calls Try.prog 29 #[.agg #[.int .u8 14, .int .u8 0, .slice (some ⟨g, 0, none⟩) 2 cap], .bool b] w _
  have hb := below_new w (.cells #[.int .u8 14, .int .u8 0, .slice (some ⟨g, 0, none⟩) 2 cap] 54)
  have hr := (MapKept.heap_alloc w (.cells #[.int .u8 14, .int .u8 0, .slice (some ⟨g, 0, none⟩) 2 cap] 54)).1
  obtain ⟨n0, n1, n2⟩ := hn.up hb
  obtain ⟨m0, m1, m2⟩ := hn'.up hb
  have HU : Hid (TrAt (w.alloc (.cells #[.int .u8 14, .int .u8 0, .slice (some ⟨g, 0, none⟩) 2 cap] 54)) c _) := hu.up hb
  have HU' : Hid (TrAt (w.alloc (.cells #[.int .u8 14, .int .u8 0, .slice (some ⟨g, 0, none⟩) 2 cap] 54)) d _) := hu'.up hb
  unfold treeV at hcc hdd
  have HCC : Hid _ := hcc
  have HDD : Hid _ := hdd
  clear hcc hdd
  generalize rootK c = rk at *
  obtain ⟨ro, rp⟩ := rk
  generalize rootK d = rd at *
  obtain ⟨so, sp⟩ := rd
  dsimp only at n0 n1 m0 m1 HCC HDD
  simp only [Nat.reduceAdd] at n1 n2 m1 m2
  have hi0 := fun w' => Try.idxT0 g 2 cap w' (by omega)
  have hi1 := fun w' => Try.idxT1 g 2 cap w' (by omega)
  have HB : Hid (Below w.heap.size w (w.alloc (.cells #[.int .u8 14, .int .u8 0, .slice (some ⟨g, 0, none⟩) 2 cap] 54))) := hb
  have k0 : (w.alloc (.cells #[.int .u8 14, .int .u8 0, .slice (some ⟨g, 0, none⟩) 2 cap] 54)).cell? ⟨w.heap.size, 0, none⟩ = some (.int .u8 14) := cell_row hr 0
  have k2 : (w.alloc (.cells #[.int .u8 14, .int .u8 0, .slice (some ⟨g, 0, none⟩) 2 cap] 54)).cell? ⟨w.heap.size, 2, none⟩ = some (.slice (some ⟨g, 0, none⟩) 2 cap) := cell_row hr 2
  have hkeep : ∀ w1 w2 : World, (w1.cell? ⟨w.heap.size, 0, none⟩ = some (.int .u8 14) ∧ w1.cell? ⟨w.heap.size, 2, none⟩ = some (.slice (some ⟨g, 0, none⟩) 2 cap) ∧ w1.cell? ⟨g, 0, none⟩ = some (.int .u8 (ro : Int)) ∧ w1.cell? ⟨g, 1, none⟩ = some (.int .u8 (rp : Int)) ∧ w1.cell? ⟨g, 2, none⟩ = some (.slice ua un uc) ∧ w1.cell? ⟨g, 3, none⟩ = some (.int .u8 (so : Int)) ∧ w1.cell? ⟨g, 4, none⟩ = some (.int .u8 (sp : Int)) ∧ w1.cell? ⟨g, 5, none⟩ = some (.slice va vn vc)) → Below w1.heap.size w1 w2 → (w2.cell? ⟨w.heap.size, 0, none⟩ = some (.int .u8 14) ∧ w2.cell? ⟨w.heap.size, 2, none⟩ = some (.slice (some ⟨g, 0, none⟩) 2 cap) ∧ w2.cell? ⟨g, 0, none⟩ = some (.int .u8 (ro : Int)) ∧ w2.cell? ⟨g, 1, none⟩ = some (.int .u8 (rp : Int)) ∧ w2.cell? ⟨g, 2, none⟩ = some (.slice ua un uc) ∧ w2.cell? ⟨g, 3, none⟩ = some (.int .u8 (so : Int)) ∧ w2.cell? ⟨g, 4, none⟩ = some (.int .u8 (sp : Int)) ∧ w2.cell? ⟨g, 5, none⟩ = some (.slice va vn vc)) := fun w1 w2 h hb => ⟨kept_cell h.1 hb, kept_cell h.2.1 hb, kept_cell h.2.2.1 hb, kept_cell h.2.2.2.1 hb, kept_cell h.2.2.2.2.1 hb, kept_cell h.2.2.2.2.2.1 hb, kept_cell h.2.2.2.2.2.2.1 hb, kept_cell h.2.2.2.2.2.2.2 hb⟩
  have HK0 : Hid ((w.alloc (.cells #[.int .u8 14, .int .u8 0, .slice (some ⟨g, 0, none⟩) 2 cap] 54)).cell? ⟨w.heap.size, 0, none⟩ = some (.int .u8 14) ∧ (w.alloc (.cells #[.int .u8 14, .int .u8 0, .slice (some ⟨g, 0, none⟩) 2 cap] 54)).cell? ⟨w.heap.size, 2, none⟩ = some (.slice (some ⟨g, 0, none⟩) 2 cap) ∧ (w.alloc (.cells #[.int .u8 14, .int .u8 0, .slice (some ⟨g, 0, none⟩) 2 cap] 54)).cell? ⟨g, 0, none⟩ = some (.int .u8 (ro : Int)) ∧ (w.alloc (.cells #[.int .u8 14, .int .u8 0, .slice (some ⟨g, 0, none⟩) 2 cap] 54)).cell? ⟨g, 1, none⟩ = some (.int .u8 (rp : Int)) ∧ (w.alloc (.cells #[.int .u8 14, .int .u8 0, .slice (some ⟨g, 0, none⟩) 2 cap] 54)).cell? ⟨g, 2, none⟩ = some (.slice ua un uc) ∧ (w.alloc (.cells #[.int .u8 14, .int .u8 0, .slice (some ⟨g, 0, none⟩) 2 cap] 54)).cell? ⟨g, 3, none⟩ = some (.int .u8 (so : Int)) ∧ (w.alloc (.cells #[.int .u8 14, .int .u8 0, .slice (some ⟨g, 0, none⟩) 2 cap] 54)).cell? ⟨g, 4, none⟩ = some (.int .u8 (sp : Int)) ∧ (w.alloc (.cells #[.int .u8 14, .int .u8 0, .slice (some ⟨g, 0, none⟩) 2 cap] 54)).cell? ⟨g, 5, none⟩ = some (.slice va vn vc)) := ⟨k0, k2, n0, n1, n2, m0, m1, m2⟩
  clear hn hu hc hb hr hT hn' hu' hd
  unfold RowR
  obtain ⟨Y, hY⟩ : ∃ Y, Y = (kB c false ++ kB d b ++ [(11, 0)]) ++ (kB c true ++ kB d (!b) ++ [(11, 0)]) ++ [(12, 0)] := ⟨_, rfl⟩
  rw [← hY]
  have HY : Hid (Y = (kB c false ++ kB d b ++ [(11, 0)]) ++ (kB c true ++ kB d (!b) ++ [(11, 0)]) ++ [(12, 0)]) := hY
  clear hY
  go_enter Try.func29, Try.ntmps29
  go_wp2
  generalize w.alloc (.cells #[.int .u8 14, .int .u8 0, .slice (some ⟨g, 0, none⟩) 2 cap] 54) = w0 at *
  have hD : Below w0.heap.size w0 w0.drew := (Below.refl _ _).drew
  have hk0 := hkeep _ _ HK0.out hD
  have HB' : Hid _ := below_step HB.out hD
  have l1 := hlc false
  have l2 := hld b
  have l3 := hlc true
  have l4 := hld (!b)
  have h1 := HCC.out false _ _ (TrAt.up hD HU.out)
  have H2 : Hid (∀ w1, Below w0.drew.heap.size w0.drew w1 → Calls Try.prog 29 _ w1 (RowR (kB d b) w1)) := fun w1 h1 => HDD.out b _ _ (TrAt.up (below_step hD h1) HU'.out)
  have H4 : Hid (∀ w1, Below w0.drew.heap.size w0.drew w1 → Calls Try.prog 29 _ w1 (RowR (kB c true) w1)) := fun w1 h1 => HCC.out true _ _ (TrAt.up (below_step hD h1) HU.out)
  have H5 : Hid (∀ w1, Below w0.drew.heap.size w0.drew w1 → Calls Try.prog 29 _ w1 (RowR (kB d (!b)) w1)) := fun w1 h1 => HDD.out (!b) _ _ (TrAt.up (below_step hD h1) HU'.out)
  have H3 : Hid (∀ w1 a1 c1 a2 c2, TkSl w1 a1 (kB c false).length c1 (kB c false) → TkSl w1 a2 (kB d b).length c2 (kB d b) → Calls Try.prog 51 #[.slice a1 (kB c false).length c1, .slice a2 (kB d b).length c2, .int .u8 11] w1 (RowR (kB c false ++ kB d b ++ [(11, 0)]) w1)) := fun w1 a1 c1 a2 c2 t1 t2 => Try.rtwo_any a1 _ c1 _ a2 _ c2 _ 11 w1 t1 t2 (by decide) (by omega) (by omega)
  have H6 : Hid (∀ w1 a1 c1 a2 c2, TkSl w1 a1 (kB c true).length c1 (kB c true) → TkSl w1 a2 (kB d (!b)).length c2 (kB d (!b)) → Calls Try.prog 51 #[.slice a1 (kB c true).length c1, .slice a2 (kB d (!b)).length c2, .int .u8 11] w1 (RowR (kB c true ++ kB d (!b) ++ [(11, 0)]) w1)) := fun w1 a1 c1 a2 c2 t1 t2 => Try.rtwo_any a1 _ c1 _ a2 _ c2 _ 11 w1 t1 t2 (by decide) (by omega) (by omega)
  have q1 : (kB c false ++ kB d b ++ [(11, 0)]).length ≤ 1000000 := by simp only [List.length_append, List.length_singleton]; omega
  have q2 : (kB c true ++ kB d (!b) ++ [(11, 0)]).length ≤ 1000000 := by simp only [List.length_append, List.length_singleton]; omega
  generalize kB c false ++ kB d b ++ [(11, 0)] = Z1 at *
  generalize kB c true ++ kB d (!b) ++ [(11, 0)] = Z2 at *
  have H7 : Hid (∀ w1 a1 c1 a2 c2, TkSl w1 a1 Z1.length c1 Z1 → TkSl w1 a2 Z2.length c2 Z2 → Calls Try.prog 51 #[.slice a1 Z1.length c1, .slice a2 Z2.length c2, .int .u8 12] w1 (RowR Y w1)) := fun w1 a1 c1 a2 c2 t1 t2 => by rw [HY.out]; exact Try.rtwo_any a1 _ c1 _ a2 _ c2 _ 12 w1 t1 t2 (by decide) (by omega) (by omega)
  unfold RowR at h1 H2 H3 H4 H5 H6 H7
  generalize kB c false = X1 at *
  generalize kB d b = X2 at *
  generalize kB c true = X4 at *
  generalize kB d (!b) = X5 at *
  clear HCC HDD HU HU' HK0 hlc hld l1 l2 l3 l4 q1 q2
  go_region_held3 (fun w' => w'.cell? ⟨w.heap.size, 0, none⟩ = some (.int .u8 14) ∧ w'.cell? ⟨w.heap.size, 2, none⟩ = some (.slice (some ⟨g, 0, none⟩) 2 cap) ∧ w'.cell? ⟨g, 0, none⟩ = some (.int .u8 (ro : Int)) ∧ w'.cell? ⟨g, 1, none⟩ = some (.int .u8 (rp : Int)) ∧ w'.cell? ⟨g, 2, none⟩ = some (.slice ua un uc) ∧ w'.cell? ⟨g, 3, none⟩ = some (.int .u8 (so : Int)) ∧ w'.cell? ⟨g, 4, none⟩ = some (.int .u8 (sp : Int)) ∧ w'.cell? ⟨g, 5, none⟩ = some (.slice va vn vc)) (first | exact hk0 | exact s1 | exact s2 | exact s3 | exact s4 | exact s5 | exact s6 | exact s7 | fail) (first
    | (go_at_call 29; (with_reducible refine h1.mono ?_); rintro e w1 ⟨a1, c1, rfl, t1, b1⟩; have s1 := hkeep _ _ hk0 b1; have h2 := H2.out w1 b1)
    | (go_at_call 29; (with_reducible refine h2.mono ?_); rintro e w2 ⟨a2, c2, rfl, t2, b2⟩; have s2 := hkeep _ _ s1 b2; have h3 := H3.out w2 a1 c1 a2 c2 (t1.up b2) t2)
    | (go_at_call 51; (with_reducible refine h3.mono ?_); rintro e w3 ⟨a3, c3, rfl, t3, b3⟩; have s3 := hkeep _ _ s2 b3; have bb3 := below_step (below_step b1 b2) b3; have h4 := H4.out w3 bb3)
    | (go_at_call 29; (with_reducible refine h4.mono ?_); rintro e w4 ⟨a4, c4, rfl, t4, b4⟩; have s4 := hkeep _ _ s3 b4; have bb4 := below_step bb3 b4; have h5 := H5.out w4 bb4)
    | (go_at_call 29; (with_reducible refine h5.mono ?_); rintro e w5 ⟨a5, c5, rfl, t5, b5⟩; have s5 := hkeep _ _ s4 b5; have h6 := H6.out w5 a4 c4 a5 c5 (t4.up b5) t5)
    | (go_at_call 51; (with_reducible refine h6.mono ?_); rintro e w6 ⟨a6, c6, rfl, t6, b6⟩; have s6 := hkeep _ _ s5 b6; have h7 := H7.out w6 a3 c3 a6 c6 (t3.up (below_step (below_step b4 b5) b6)) t6)
    | (go_at_call 51; (with_reducible refine h7.mono ?_); rintro e w7 ⟨a7, c7, rfl, t7, b7⟩; have s7 := hkeep _ _ s6 b7)
    | fail)
  all_goals
    have HT7 : Hid _ := t7
    have HB7 : Hid _ := below_step (below_step (below_step (below_step HB'.out bb4) b5) b6) b7
    clear s1 s2 s3 s4 s5 s6 s7 t1 t2 t3 t4 t5 t6 t7 b1 b2 b3 b4 b5 b6 b7 h1 h2 h3 h4 h5 h6 h7 hk0 bb3 bb4
    go_wp2
    go_ret
    exact ⟨a7, c7, rfl, HT7.out, HB7.out⟩
theorem Try.rK_any : ∀ T : Tr, T.WF → KC T
  | .leaf (op, p), h => by
    rcases leaf_cases h with ⟨rfl, hp⟩ | ⟨rfl, rfl | rfl | rfl | rfl | rfl⟩
    · exact Try.rk_leaf_2 p hp
    · exact Try.rk_leaf_0
    · exact Try.rk_leaf_1
    · exact Try.rk_leaf_3
    · exact Try.rk_leaf_4
    · exact Try.rk_leaf_5
  | .un (op, p) c, h => by
    have h' := h
    obtain ⟨rfl, hc, _, ho⟩ := un_cases h'
    have ih := Try.rK_any c hc
    rcases ho with rfl | rfl | rfl | rfl | rfl | rfl | rfl | rfl
    · exact Try.rk_un_6 c ih h
    · exact Try.rk_un_7 c ih h
    · exact Try.rk_un_8 c ih h
    · exact Try.rk_un_9 c ih h
    · exact Try.rk_un_10 c ih h
    · exact Try.rk_un_19 c ih h
    · exact Try.rk_un_20 c ih h
    · exact Try.rk_un_23 c ih h
  | .bin (op, p) c d, h => by
    have h' := h
    obtain ⟨rfl, hc, hd, _, ho⟩ := bin_cases h'
    have ih := Try.rK_any c hc
    have jh := Try.rK_any d hd
    rcases ho with rfl | rfl | rfl | rfl | rfl | rfl | rfl | rfl | rfl | rfl
    · exact Try.rk_bin_11 c d ih jh h
    · exact Try.rk_bin_12 c d ih jh h
    · exact Try.rk_bin_13 c d ih jh h
    · exact Try.rk_bin_14 c d ih jh h
    · exact Try.rk_bin_15 c d ih jh h
    · exact Try.rk_bin_16 c d ih jh h
    · exact Try.rk_bin_17 c d ih jh h
    · exact Try.rk_bin_18 c d ih jh h
    · exact Try.rk_bin_21 c d ih jh h
    · exact Try.rk_bin_22 c d ih jh h
end Go.Proofs.Ytfgaieefejdkbaa
