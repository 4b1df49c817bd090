/- The document's trees in memory; sizes. -/
import Derived.Test.YtfgaieefejdkbaaWKr1
namespace Go.Proofs.Ytfgaieefejdkbaa
open Go.RowKit Go.Maps

def rootK : Tr → Tk
  | .leaf k => k
  | .un k _ => k
  | .bin k _ _ => k
def treeV (k : Tk) (v : Value) : Value := .agg #[.int .u8 (k.1 : Int), .int .u8 (k.2 : Int), v]
/-- A tree's token and the slice of what it takes, at a place. -/
def NodeAt (w : World) (g o : Nat) (k : Tk) (u : Value) : Prop := w.cell? ⟨g, o, none⟩ = some (.int .u8 (k.1 : Int)) ∧ w.cell? ⟨g, o + 1, none⟩ = some (.int .u8 (k.2 : Int)) ∧ w.cell? ⟨g, o + 2, none⟩ = some u
theorem NodeAt.up {w w' : World} {g o : Nat} {k : Tk} {u : Value} (h : NodeAt w g o k u) (hb : Below w.heap.size w w') : NodeAt w' g o k u := ⟨kept_cell h.1 hb, kept_cell h.2.1 hb, kept_cell h.2.2 hb⟩
/-- The slice of what a tree's token takes. -/
def TrAt (w : World) : Tr → Value → Prop
  | .leaf _, v => ∃ a c, v = .slice a 0 c
  | .un _ c, v => ∃ g cap u, v = .slice (some ⟨g, 0, none⟩) 1 cap ∧ NodeAt w g 0 (rootK c) u ∧ TrAt w c u
  | .bin _ c d, v => ∃ g cap u u', v = .slice (some ⟨g, 0, none⟩) 2 cap ∧ NodeAt w g 0 (rootK c) u ∧ NodeAt w g 3 (rootK d) u' ∧ TrAt w c u ∧ TrAt w d u'
theorem TrAt.up {w w' : World} (hb : Below w.heap.size w w') : ∀ {T : Tr} {v : Value}, TrAt w T v → TrAt w' T v
  | .leaf _, _, h => h
  | .un _ _, _, ⟨g, cap, u, e, h1, h2⟩ => ⟨g, cap, u, e, h1.up hb, TrAt.up hb h2⟩
  | .bin _ _ _, _, ⟨g, cap, u, u', e, h1, h2, h3, h4⟩ => ⟨g, cap, u, u', e, h1.up hb, h2.up hb, TrAt.up hb h3, TrAt.up hb h4⟩
theorem TrAt.sl {w : World} : ∀ {T : Tr} {v : Value}, TrAt w T v → ∃ a n c, v = .slice a n c
  | .leaf _, _, ⟨a, c, e⟩ => ⟨a, 0, c, e⟩
  | .un _ _, _, ⟨_, cap, _, e, _⟩ => ⟨_, _, cap, e⟩
  | .bin _ _ _, _, ⟨_, cap, _, _, e, _⟩ => ⟨_, _, cap, e⟩
theorem Try.sizeTr : (Try.prog.info? 54).map (·.size) = some 3 := by kernel_rfl
theorem Try.idxT0 (g n cap : Nat) (w : World) (hn : 0 < n) : (Instr.indexAt 52 (.slice (some ⟨g, 0, none⟩) n cap) (.int .i64 0)).run Try.prog w = .ok (.pointer (some ⟨g, 0, none⟩)) w := by
  simp [Instr.indexAt, run_underlying Try.underlying52, asIntOf, sizeOf_runN Try.sizeTr, hn, Result.andThen, go_sem]
theorem Try.idxT1 (g n cap : Nat) (w : World) (hn : 1 < n) : (Instr.indexAt 52 (.slice (some ⟨g, 0, none⟩) n cap) (.int .i64 1)).run Try.prog w = .ok (.pointer (some ⟨g, 3, none⟩)) w := by
  have hn' : (1 : Int) < (n : Int) := by omega
  simp [Instr.indexAt, run_underlying Try.underlying52, asIntOf, sizeOf_runN Try.sizeTr, hn', Result.andThen, go_sem, add_plain]
/-- What sizes answers. -/
def SzR (T : Tr) (w : World) (e : Ending) (w' : World) : Prop := ∃ m1 m2 : Nat, e = .returned (.tuple #[.int .i64 (m1 : Int), .int .i64 (m2 : Int)]) ∧ m1 = min (s1 T) 2049 ∧ m2 ≤ 2049 ∧ (pathT T = false → m2 = min (s2 T) 2049) ∧ Below w.heap.size w w'
def SzC (T : Tr) : Prop := ∀ (u : Value) (w : World), TrAt w T u → Calls Try.prog 32 #[treeV (rootK T) u] w (SzR T w)
theorem Try.rsz_leaf_0 : SzC (.leaf (0, 0)) := by
  intro u w hu
  obtain ⟨a, c, rfl⟩ := hu
  show Calls Try.prog 32 #[.agg #[.int .u8 0, .int .u8 0, .slice a 0 c]] w (SzR (.leaf (0, 0)) w)
  have hb := below_new w (.cells #[.int .u8 0, .int .u8 0, .slice a 0 c] 54)
  go_enter Try.func32, Try.ntmps32
  go_wp2
  go_ret2
  exact ⟨1, 1, rfl, rfl, by omega, fun _ => rfl, hb⟩
theorem Try.rsz_leaf_1 : SzC (.leaf (1, 0)) := by
  intro u w hu
  obtain ⟨a, c, rfl⟩ := hu
  show Calls Try.prog 32 #[.agg #[.int .u8 1, .int .u8 0, .slice a 0 c]] w (SzR (.leaf (1, 0)) w)
  have hb := below_new w (.cells #[.int .u8 1, .int .u8 0, .slice a 0 c] 54)
  go_enter Try.func32, Try.ntmps32
  go_wp2
  go_ret2
  exact ⟨1, 1, rfl, rfl, by omega, fun _ => rfl, hb⟩
theorem Try.rsz_leaf_4 : SzC (.leaf (4, 0)) := by
  intro u w hu
  obtain ⟨a, c, rfl⟩ := hu
  show Calls Try.prog 32 #[.agg #[.int .u8 4, .int .u8 0, .slice a 0 c]] w (SzR (.leaf (4, 0)) w)
  have hb := below_new w (.cells #[.int .u8 4, .int .u8 0, .slice a 0 c] 54)
  go_enter Try.func32, Try.ntmps32
  go_wp2
  go_ret2
  exact ⟨1, 1, rfl, rfl, by omega, fun _ => rfl, hb⟩
theorem Try.rsz_leaf_5 : SzC (.leaf (5, 0)) := by
  intro u w hu
  obtain ⟨a, c, rfl⟩ := hu
  show Calls Try.prog 32 #[.agg #[.int .u8 5, .int .u8 0, .slice a 0 c]] w (SzR (.leaf (5, 0)) w)
  have hb := below_new w (.cells #[.int .u8 5, .int .u8 0, .slice a 0 c] 54)
  go_enter Try.func32, Try.ntmps32
  go_wp2
  go_ret2
  exact ⟨1, 1, rfl, rfl, by omega, fun _ => rfl, hb⟩
theorem Try.rsz_leaf_2 (p : Nat) : SzC (.leaf (2, p)) := by
  intro u w hu
  obtain ⟨a, c, rfl⟩ := hu
  show Calls Try.prog 32 #[.agg #[.int .u8 2, .int .u8 (p : Int), .slice a 0 c]] w (SzR (.leaf (2, p)) w)
  have hb := below_new w (.cells #[.int .u8 2, .int .u8 (p : Int), .slice a 0 c] 54)
  go_enter Try.func32, Try.ntmps32
  go_wp2
  go_ret2
  exact ⟨1, 2, rfl, rfl, by omega, fun _ => rfl, hb⟩
theorem Try.rsz_leaf_3 : SzC (.leaf (3, 0)) := by
  intro u w hu
  obtain ⟨a, c, rfl⟩ := hu
  show Calls Try.prog 32 #[.agg #[.int .u8 3, .int .u8 0, .slice a 0 c]] w (SzR (.leaf (3, 0)) w)
  have hb := below_new w (.cells #[.int .u8 3, .int .u8 0, .slice a 0 c] 54)
  go_enter Try.func32, Try.ntmps32
  go_wp2
  go_ret2
  exact ⟨4, 4, rfl, rfl, by omega, fun _ => rfl, hb⟩
set_option maxRecDepth 100000 in
set_option maxHeartbeats 2000000 in
theorem Try.rsz_un_6 (c : Tr) (hc : SzC c) (hT : (Tr.un (6, 0) c).WF) : SzC (.un (6, 0) c) := by
  intro v w hv
  obtain ⟨g, cap, u, rfl, hn, hu⟩ := hv
  obtain ⟨_, _, hf, _⟩ := un_cases hT
  have HF : Hid (fit1T 6 c = true) := hf
  obtain ⟨ua, un, uc, rfl⟩ := hu.sl
  show Calls Try.prog 32 #[.agg #[.int .u8 6, .int .u8 0, .slice (some ⟨g, 0, none⟩) 1 cap]] w (SzR (.un (6, 0) c) w)
  have hb := below_new w (.cells #[.int .u8 6, .int .u8 0, .slice (some ⟨g, 0, none⟩) 1 cap] 54)
  have hr := (MapKept.heap_alloc w (.cells #[.int .u8 6, .int .u8 0, .slice (some ⟨g, 0, none⟩) 1 cap] 54)).1
  obtain ⟨n0, n1, n2⟩ := hn.up hb
  have hcc := hc _ _ (hu.up hb)
  unfold treeV at hcc
  generalize rootK c = rk at *
  obtain ⟨ro, rp⟩ := rk
  dsimp only at n0 n1 hcc
  have hi0 := fun w' => Try.idxT0 g 1 cap w' (by omega)
  have HB : Hid _ := hb
  have HR : Hid _ := hr
  clear hn hu hc hb hr hf hT
  go_enter Try.func32, Try.ntmps32
  go_wp2_with fail
  generalize w.alloc (.cells #[.int .u8 6, .int .u8 0, .slice (some ⟨g, 0, none⟩) 1 cap] 54) = w0 at *
  refine hcc.mono ?_
  rintro e w1 ⟨m1, m2, rfl, e1, e2, e3, hb1⟩
  have hr1 := (hb1.block w.heap.size (Array.getElem?_eq_some_iff.1 HR.out).1).trans HR.out
  have k0 : w1.cell? ⟨w.heap.size, 0, none⟩ = some (.int .u8 6) := cell_row hr1 0
  have k2 : w1.cell? ⟨w.heap.size, 2, none⟩ = some (.slice (some ⟨g, 0, none⟩) 1 cap) := cell_row hr1 2
  have HB1 : Hid _ := below_step HB.out hb1
  have E1 : Hid _ := e1
  have E3 : Hid _ := e3
  have hm1 : m1 ≤ 2049 := by omega
  clear hb1 hr1 hcc e1 e3
  go_wp2
  go_ret2
  have hn : pathT c = false := by have := HF.out; simpa [fit1T] using this
  exact ⟨m2, m1, rfl, (E3.out hn).trans rfl, hm1, fun _ => E1.out.trans rfl, HB1.out⟩
set_option maxRecDepth 100000 in
set_option maxHeartbeats 2000000 in
theorem Try.rsz_un_7 (c : Tr) (hc : SzC c) (hT : (Tr.un (7, 0) c).WF) : SzC (.un (7, 0) c) := by
  intro v w hv
  obtain ⟨g, cap, u, rfl, hn, hu⟩ := hv
  obtain ⟨_, _, hf, _⟩ := un_cases hT
  have HF : Hid (fit1T 7 c = true) := hf
  obtain ⟨ua, un, uc, rfl⟩ := hu.sl
  show Calls Try.prog 32 #[.agg #[.int .u8 7, .int .u8 0, .slice (some ⟨g, 0, none⟩) 1 cap]] w (SzR (.un (7, 0) c) w)
  have hb := below_new w (.cells #[.int .u8 7, .int .u8 0, .slice (some ⟨g, 0, none⟩) 1 cap] 54)
  have hr := (MapKept.heap_alloc w (.cells #[.int .u8 7, .int .u8 0, .slice (some ⟨g, 0, none⟩) 1 cap] 54)).1
  obtain ⟨n0, n1, n2⟩ := hn.up hb
  have hcc := hc _ _ (hu.up hb)
  unfold treeV at hcc
  generalize rootK c = rk at *
  obtain ⟨ro, rp⟩ := rk
  dsimp only at n0 n1 hcc
  have hi0 := fun w' => Try.idxT0 g 1 cap w' (by omega)
  have HB : Hid _ := hb
  have HR : Hid _ := hr
  clear hn hu hc hb hr hf hT
  go_enter Try.func32, Try.ntmps32
  go_wp2_with fail
  generalize w.alloc (.cells #[.int .u8 7, .int .u8 0, .slice (some ⟨g, 0, none⟩) 1 cap] 54) = w0 at *
  refine hcc.mono ?_
  rintro e w1 ⟨m1, m2, rfl, e1, e2, e3, hb1⟩
  have hr1 := (hb1.block w.heap.size (Array.getElem?_eq_some_iff.1 HR.out).1).trans HR.out
  have k0 : w1.cell? ⟨w.heap.size, 0, none⟩ = some (.int .u8 7) := cell_row hr1 0
  have k2 : w1.cell? ⟨w.heap.size, 2, none⟩ = some (.slice (some ⟨g, 0, none⟩) 1 cap) := cell_row hr1 2
  have HB1 : Hid _ := below_step HB.out hb1
  have E1 : Hid _ := e1
  have E3 : Hid _ := e3
  have hm1 : m1 ≤ 2049 := by omega
  clear hb1 hr1 hcc e1 e3
  have hsA := fun w' => Try.rsum_any m1 0 0 _ w' (by omega) (by omega) (by omega) rfl
  have hsB := fun w' => Try.rsum_any m2 0 0 _ w' (by omega) (by omega) (by omega) rfl
  go_wp2_with fail
  refine (hsA _).mono ?_
  rintro e w' ⟨rfl, rfl⟩
  go_wp2_with fail
  refine (hsB _).mono ?_
  rintro e w' ⟨rfl, rfl⟩
  go_wp2
  go_ret2
  have hn : pathT c = false := by have := HF.out; simpa [fit1T] using this
  have q1 : s1 (.un (7, 0) c) = s1 c + 1 := by simp [s1, kTr, Tr.flat]
  have q2 : s2 (.un (7, 0) c) = s2 c + 1 := by simp [s2, kTr, Tr.flat]
  exact ⟨_, _, rfl, by rw [E1.out, q1]; omega, by omega, fun _ => by rw [E3.out hn, q2]; omega, HB1.out⟩
set_option maxRecDepth 100000 in
set_option maxHeartbeats 2000000 in
theorem Try.rsz_un_8 (c : Tr) (hc : SzC c) (hT : (Tr.un (8, 0) c).WF) : SzC (.un (8, 0) c) := by
  intro v w hv
  obtain ⟨g, cap, u, rfl, hn, hu⟩ := hv
  obtain ⟨_, _, hf, _⟩ := un_cases hT
  have HF : Hid (fit1T 8 c = true) := hf
  obtain ⟨ua, un, uc, rfl⟩ := hu.sl
  show Calls Try.prog 32 #[.agg #[.int .u8 8, .int .u8 0, .slice (some ⟨g, 0, none⟩) 1 cap]] w (SzR (.un (8, 0) c) w)
  have hb := below_new w (.cells #[.int .u8 8, .int .u8 0, .slice (some ⟨g, 0, none⟩) 1 cap] 54)
  have hr := (MapKept.heap_alloc w (.cells #[.int .u8 8, .int .u8 0, .slice (some ⟨g, 0, none⟩) 1 cap] 54)).1
  obtain ⟨n0, n1, n2⟩ := hn.up hb
  have hcc := hc _ _ (hu.up hb)
  unfold treeV at hcc
  generalize rootK c = rk at *
  obtain ⟨ro, rp⟩ := rk
  dsimp only at n0 n1 hcc
  have hi0 := fun w' => Try.idxT0 g 1 cap w' (by omega)
  have HB : Hid _ := hb
  have HR : Hid _ := hr
  clear hn hu hc hb hr hf hT
  go_enter Try.func32, Try.ntmps32
  go_wp2_with fail
  generalize w.alloc (.cells #[.int .u8 8, .int .u8 0, .slice (some ⟨g, 0, none⟩) 1 cap] 54) = w0 at *
  refine hcc.mono ?_
  rintro e w1 ⟨m1, m2, rfl, e1, e2, e3, hb1⟩
  have hr1 := (hb1.block w.heap.size (Array.getElem?_eq_some_iff.1 HR.out).1).trans HR.out
  have k0 : w1.cell? ⟨w.heap.size, 0, none⟩ = some (.int .u8 8) := cell_row hr1 0
  have k2 : w1.cell? ⟨w.heap.size, 2, none⟩ = some (.slice (some ⟨g, 0, none⟩) 1 cap) := cell_row hr1 2
  have HB1 : Hid _ := below_step HB.out hb1
  have E1 : Hid _ := e1
  have E3 : Hid _ := e3
  have hm1 : m1 ≤ 2049 := by omega
  clear hb1 hr1 hcc e1 e3
  have hsA := fun w' => Try.rsum_any m1 0 0 _ w' (by omega) (by omega) (by omega) rfl
  have hsB := fun w' => Try.rsum_any m2 0 0 _ w' (by omega) (by omega) (by omega) rfl
  go_wp2_with fail
  refine (hsA _).mono ?_
  rintro e w' ⟨rfl, rfl⟩
  go_wp2_with fail
  refine (hsB _).mono ?_
  rintro e w' ⟨rfl, rfl⟩
  go_wp2
  go_ret2
  have hn : pathT c = false := by have := HF.out; simpa [fit1T] using this
  have q1 : s1 (.un (8, 0) c) = s1 c + 1 := by simp [s1, kTr, Tr.flat]
  have q2 : s2 (.un (8, 0) c) = s2 c + 1 := by simp [s2, kTr, Tr.flat]
  exact ⟨_, _, rfl, by rw [E1.out, q1]; omega, by omega, fun _ => by rw [E3.out hn, q2]; omega, HB1.out⟩
set_option maxRecDepth 100000 in
set_option maxHeartbeats 2000000 in
theorem Try.rsz_un_9 (c : Tr) (hc : SzC c) (hT : (Tr.un (9, 0) c).WF) : SzC (.un (9, 0) c) := by
  intro v w hv
  obtain ⟨g, cap, u, rfl, hn, hu⟩ := hv
  obtain ⟨_, _, hf, _⟩ := un_cases hT
  have HF : Hid (fit1T 9 c = true) := hf
  obtain ⟨ua, un, uc, rfl⟩ := hu.sl
  show Calls Try.prog 32 #[.agg #[.int .u8 9, .int .u8 0, .slice (some ⟨g, 0, none⟩) 1 cap]] w (SzR (.un (9, 0) c) w)
  have hb := below_new w (.cells #[.int .u8 9, .int .u8 0, .slice (some ⟨g, 0, none⟩) 1 cap] 54)
  have hr := (MapKept.heap_alloc w (.cells #[.int .u8 9, .int .u8 0, .slice (some ⟨g, 0, none⟩) 1 cap] 54)).1
  obtain ⟨n0, n1, n2⟩ := hn.up hb
  have hcc := hc _ _ (hu.up hb)
  unfold treeV at hcc
  generalize rootK c = rk at *
  obtain ⟨ro, rp⟩ := rk
  dsimp only at n0 n1 hcc
  have hi0 := fun w' => Try.idxT0 g 1 cap w' (by omega)
  have HB : Hid _ := hb
  have HR : Hid _ := hr
  clear hn hu hc hb hr hf hT
  go_enter Try.func32, Try.ntmps32
  go_wp2_with fail
  generalize w.alloc (.cells #[.int .u8 9, .int .u8 0, .slice (some ⟨g, 0, none⟩) 1 cap] 54) = w0 at *
  refine hcc.mono ?_
  rintro e w1 ⟨m1, m2, rfl, e1, e2, e3, hb1⟩
  have hr1 := (hb1.block w.heap.size (Array.getElem?_eq_some_iff.1 HR.out).1).trans HR.out
  have k0 : w1.cell? ⟨w.heap.size, 0, none⟩ = some (.int .u8 9) := cell_row hr1 0
  have k2 : w1.cell? ⟨w.heap.size, 2, none⟩ = some (.slice (some ⟨g, 0, none⟩) 1 cap) := cell_row hr1 2
  have HB1 : Hid _ := below_step HB.out hb1
  have E1 : Hid _ := e1
  have E3 : Hid _ := e3
  have hm1 : m1 ≤ 2049 := by omega
  clear hb1 hr1 hcc e1 e3
  have hsA := fun w' => Try.rsum_any m1 1 0 _ w' (by omega) (by omega) (by omega) rfl
  have hsB := fun w' => Try.rsum_any m2 1 0 _ w' (by omega) (by omega) (by omega) rfl
  go_wp2_with fail
  refine (hsA _).mono ?_
  rintro e w' ⟨rfl, rfl⟩
  go_wp2_with fail
  refine (hsB _).mono ?_
  rintro e w' ⟨rfl, rfl⟩
  go_wp2
  go_ret2
  have hn : pathT c = false := by have := HF.out; simpa [fit1T] using this
  have q1 : s1 (.un (9, 0) c) = s1 c + 2 := by simp [s1, kTr, Tr.flat]; try omega
  have q2 : s2 (.un (9, 0) c) = s2 c + 2 := by simp [s2, kTr, Tr.flat]; try omega
  exact ⟨_, _, rfl, by rw [E1.out, q1]; omega, by omega, fun _ => by rw [E3.out hn, q2]; omega, HB1.out⟩
set_option maxRecDepth 100000 in
set_option maxHeartbeats 2000000 in
theorem Try.rsz_un_10 (c : Tr) (hc : SzC c) (hT : (Tr.un (10, 0) c).WF) : SzC (.un (10, 0) c) := by
  intro v w hv
  obtain ⟨g, cap, u, rfl, hn, hu⟩ := hv
  obtain ⟨_, _, hf, _⟩ := un_cases hT
  have HF : Hid (fit1T 10 c = true) := hf
  obtain ⟨ua, un, uc, rfl⟩ := hu.sl
  show Calls Try.prog 32 #[.agg #[.int .u8 10, .int .u8 0, .slice (some ⟨g, 0, none⟩) 1 cap]] w (SzR (.un (10, 0) c) w)
  have hb := below_new w (.cells #[.int .u8 10, .int .u8 0, .slice (some ⟨g, 0, none⟩) 1 cap] 54)
  have hr := (MapKept.heap_alloc w (.cells #[.int .u8 10, .int .u8 0, .slice (some ⟨g, 0, none⟩) 1 cap] 54)).1
  obtain ⟨n0, n1, n2⟩ := hn.up hb
  have hcc := hc _ _ (hu.up hb)
  unfold treeV at hcc
  generalize rootK c = rk at *
  obtain ⟨ro, rp⟩ := rk
  dsimp only at n0 n1 hcc
  have hi0 := fun w' => Try.idxT0 g 1 cap w' (by omega)
  have HB : Hid _ := hb
  have HR : Hid _ := hr
  clear hn hu hc hb hr hf hT
  go_enter Try.func32, Try.ntmps32
  go_wp2_with fail
  generalize w.alloc (.cells #[.int .u8 10, .int .u8 0, .slice (some ⟨g, 0, none⟩) 1 cap] 54) = w0 at *
  refine hcc.mono ?_
  rintro e w1 ⟨m1, m2, rfl, e1, e2, e3, hb1⟩
  have hr1 := (hb1.block w.heap.size (Array.getElem?_eq_some_iff.1 HR.out).1).trans HR.out
  have k0 : w1.cell? ⟨w.heap.size, 0, none⟩ = some (.int .u8 10) := cell_row hr1 0
  have k2 : w1.cell? ⟨w.heap.size, 2, none⟩ = some (.slice (some ⟨g, 0, none⟩) 1 cap) := cell_row hr1 2
  have HB1 : Hid _ := below_step HB.out hb1
  have E1 : Hid _ := e1
  have E3 : Hid _ := e3
  have hm1 : m1 ≤ 2049 := by omega
  clear hb1 hr1 hcc e1 e3
  have hsA := fun w' => Try.rsum_any m1 1 0 _ w' (by omega) (by omega) (by omega) rfl
  have hsB := fun w' => Try.rsum_any m2 1 0 _ w' (by omega) (by omega) (by omega) rfl
  go_wp2_with fail
  refine (hsA _).mono ?_
  rintro e w' ⟨rfl, rfl⟩
  go_wp2_with fail
  refine (hsB _).mono ?_
  rintro e w' ⟨rfl, rfl⟩
  go_wp2
  go_ret2
  have hn : pathT c = false := by have := HF.out; simpa [fit1T] using this
  have q1 : s1 (.un (10, 0) c) = s1 c + 2 := by simp [s1, kTr, Tr.flat]; try omega
  have q2 : s2 (.un (10, 0) c) = s2 c + 2 := by simp [s2, kTr, Tr.flat]; try omega
  exact ⟨_, _, rfl, by rw [E1.out, q1]; omega, by omega, fun _ => by rw [E3.out hn, q2]; omega, HB1.out⟩
set_option maxRecDepth 100000 in
set_option maxHeartbeats 2000000 in
theorem Try.rsz_un_19 (c : Tr) (hc : SzC c) (hT : (Tr.un (19, 0) c).WF) : SzC (.un (19, 0) c) := by
  intro v w hv
  obtain ⟨g, cap, u, rfl, hn, hu⟩ := hv
  obtain ⟨_, _, hf, _⟩ := un_cases hT
  have HF : Hid (fit1T 19 c = true) := hf
  obtain ⟨ua, un, uc, rfl⟩ := hu.sl
  show Calls Try.prog 32 #[.agg #[.int .u8 19, .int .u8 0, .slice (some ⟨g, 0, none⟩) 1 cap]] w (SzR (.un (19, 0) c) w)
  have hb := below_new w (.cells #[.int .u8 19, .int .u8 0, .slice (some ⟨g, 0, none⟩) 1 cap] 54)
  have hr := (MapKept.heap_alloc w (.cells #[.int .u8 19, .int .u8 0, .slice (some ⟨g, 0, none⟩) 1 cap] 54)).1
  obtain ⟨n0, n1, n2⟩ := hn.up hb
  have hcc := hc _ _ (hu.up hb)
  unfold treeV at hcc
  generalize rootK c = rk at *
  obtain ⟨ro, rp⟩ := rk
  dsimp only at n0 n1 hcc
  have hi0 := fun w' => Try.idxT0 g 1 cap w' (by omega)
  have HB : Hid _ := hb
  have HR : Hid _ := hr
  clear hn hu hc hb hr hf hT
  go_enter Try.func32, Try.ntmps32
  go_wp2_with fail
  generalize w.alloc (.cells #[.int .u8 19, .int .u8 0, .slice (some ⟨g, 0, none⟩) 1 cap] 54) = w0 at *
  refine hcc.mono ?_
  rintro e w1 ⟨m1, m2, rfl, e1, e2, e3, hb1⟩
  have hr1 := (hb1.block w.heap.size (Array.getElem?_eq_some_iff.1 HR.out).1).trans HR.out
  have k0 : w1.cell? ⟨w.heap.size, 0, none⟩ = some (.int .u8 19) := cell_row hr1 0
  have k2 : w1.cell? ⟨w.heap.size, 2, none⟩ = some (.slice (some ⟨g, 0, none⟩) 1 cap) := cell_row hr1 2
  have HB1 : Hid _ := below_step HB.out hb1
  have E1 : Hid _ := e1
  have E3 : Hid _ := e3
  have hm1 : m1 ≤ 2049 := by omega
  clear hb1 hr1 hcc e1 e3
  have hsA := fun w' => Try.rsum_any m1 0 0 _ w' (by omega) (by omega) (by omega) rfl
  have hsB := fun w' => Try.rsum_any m2 0 0 _ w' (by omega) (by omega) (by omega) rfl
  go_wp2_with fail
  refine (hsA _).mono ?_
  rintro e w' ⟨rfl, rfl⟩
  go_wp2_with fail
  refine (hsB _).mono ?_
  rintro e w' ⟨rfl, rfl⟩
  go_wp2
  go_ret2
  exact ⟨_, _, rfl, by rw [E1.out]; show _ = min ((kTr c).1.flat ++ [_]).length 2049; unfold s1; simp; omega, by omega, fun h => absurd h (by simp [path_un, isPathB]), HB1.out⟩
set_option maxRecDepth 100000 in
set_option maxHeartbeats 2000000 in
theorem Try.rsz_un_20 (c : Tr) (hc : SzC c) (hT : (Tr.un (20, 0) c).WF) : SzC (.un (20, 0) c) := by
  intro v w hv
  obtain ⟨g, cap, u, rfl, hn, hu⟩ := hv
  obtain ⟨_, _, hf, _⟩ := un_cases hT
  have HF : Hid (fit1T 20 c = true) := hf
  obtain ⟨ua, un, uc, rfl⟩ := hu.sl
  show Calls Try.prog 32 #[.agg #[.int .u8 20, .int .u8 0, .slice (some ⟨g, 0, none⟩) 1 cap]] w (SzR (.un (20, 0) c) w)
  have hb := below_new w (.cells #[.int .u8 20, .int .u8 0, .slice (some ⟨g, 0, none⟩) 1 cap] 54)
  have hr := (MapKept.heap_alloc w (.cells #[.int .u8 20, .int .u8 0, .slice (some ⟨g, 0, none⟩) 1 cap] 54)).1
  obtain ⟨n0, n1, n2⟩ := hn.up hb
  have hcc := hc _ _ (hu.up hb)
  unfold treeV at hcc
  generalize rootK c = rk at *
  obtain ⟨ro, rp⟩ := rk
  dsimp only at n0 n1 hcc
  have hi0 := fun w' => Try.idxT0 g 1 cap w' (by omega)
  have HB : Hid _ := hb
  have HR : Hid _ := hr
  clear hn hu hc hb hr hf hT
  go_enter Try.func32, Try.ntmps32
  go_wp2_with fail
  generalize w.alloc (.cells #[.int .u8 20, .int .u8 0, .slice (some ⟨g, 0, none⟩) 1 cap] 54) = w0 at *
  refine hcc.mono ?_
  rintro e w1 ⟨m1, m2, rfl, e1, e2, e3, hb1⟩
  have hr1 := (hb1.block w.heap.size (Array.getElem?_eq_some_iff.1 HR.out).1).trans HR.out
  have k0 : w1.cell? ⟨w.heap.size, 0, none⟩ = some (.int .u8 20) := cell_row hr1 0
  have k2 : w1.cell? ⟨w.heap.size, 2, none⟩ = some (.slice (some ⟨g, 0, none⟩) 1 cap) := cell_row hr1 2
  have HB1 : Hid _ := below_step HB.out hb1
  have E1 : Hid _ := e1
  have E3 : Hid _ := e3
  have hm1 : m1 ≤ 2049 := by omega
  clear hb1 hr1 hcc e1 e3
  have hsA := fun w' => Try.rsum_any m1 0 0 _ w' (by omega) (by omega) (by omega) rfl
  have hsB := fun w' => Try.rsum_any m2 0 0 _ w' (by omega) (by omega) (by omega) rfl
  go_wp2_with fail
  refine (hsA _).mono ?_
  rintro e w' ⟨rfl, rfl⟩
  go_wp2_with fail
  refine (hsB _).mono ?_
  rintro e w' ⟨rfl, rfl⟩
  go_wp2
  go_ret2
  exact ⟨_, _, rfl, by rw [E1.out]; show _ = min ((kTr c).1.flat ++ [_]).length 2049; unfold s1; simp; omega, by omega, fun h => absurd h (by simp [path_un, isPathB]), HB1.out⟩
set_option maxRecDepth 100000 in
set_option maxHeartbeats 2000000 in
theorem Try.rsz_un_23 (c : Tr) (hc : SzC c) (hT : (Tr.un (23, 0) c).WF) : SzC (.un (23, 0) c) := by
  intro v w hv
  obtain ⟨g, cap, u, rfl, hn, hu⟩ := hv
  obtain ⟨_, _, hf, _⟩ := un_cases hT
  have HF : Hid (fit1T 23 c = true) := hf
  obtain ⟨ua, un, uc, rfl⟩ := hu.sl
  show Calls Try.prog 32 #[.agg #[.int .u8 23, .int .u8 0, .slice (some ⟨g, 0, none⟩) 1 cap]] w (SzR (.un (23, 0) c) w)
  have hb := below_new w (.cells #[.int .u8 23, .int .u8 0, .slice (some ⟨g, 0, none⟩) 1 cap] 54)
  have hr := (MapKept.heap_alloc w (.cells #[.int .u8 23, .int .u8 0, .slice (some ⟨g, 0, none⟩) 1 cap] 54)).1
  obtain ⟨n0, n1, n2⟩ := hn.up hb
  have hcc := hc _ _ (hu.up hb)
  unfold treeV at hcc
  generalize rootK c = rk at *
  obtain ⟨ro, rp⟩ := rk
  dsimp only at n0 n1 hcc
  have hi0 := fun w' => Try.idxT0 g 1 cap w' (by omega)
  have HB : Hid _ := hb
  have HR : Hid _ := hr
  clear hn hu hc hb hr hf hT
  go_enter Try.func32, Try.ntmps32
  go_wp2_with fail
  generalize w.alloc (.cells #[.int .u8 23, .int .u8 0, .slice (some ⟨g, 0, none⟩) 1 cap] 54) = w0 at *
  refine hcc.mono ?_
  rintro e w1 ⟨m1, m2, rfl, e1, e2, e3, hb1⟩
  have hr1 := (hb1.block w.heap.size (Array.getElem?_eq_some_iff.1 HR.out).1).trans HR.out
  have k0 : w1.cell? ⟨w.heap.size, 0, none⟩ = some (.int .u8 23) := cell_row hr1 0
  have k2 : w1.cell? ⟨w.heap.size, 2, none⟩ = some (.slice (some ⟨g, 0, none⟩) 1 cap) := cell_row hr1 2
  have HB1 : Hid _ := below_step HB.out hb1
  have E1 : Hid _ := e1
  have E3 : Hid _ := e3
  have hm1 : m1 ≤ 2049 := by omega
  clear hb1 hr1 hcc e1 e3
  have hsA := fun w' => Try.rsum_any m1 0 0 _ w' (by omega) (by omega) (by omega) rfl
  have hsB := fun w' => Try.rsum_any m2 0 0 _ w' (by omega) (by omega) (by omega) rfl
  go_wp2_with fail
  refine (hsA _).mono ?_
  rintro e w' ⟨rfl, rfl⟩
  go_wp2_with fail
  refine (hsB _).mono ?_
  rintro e w' ⟨rfl, rfl⟩
  go_wp2
  go_ret2
  exact ⟨_, _, rfl, by rw [E1.out]; show _ = min ((kTr c).1.flat ++ [_]).length 2049; unfold s1; simp; omega, by omega, fun h => absurd h (by simp [path_un, isPathB]), HB1.out⟩
set_option maxRecDepth 100000 in
set_option maxHeartbeats 2000000 in
theorem Try.rsz_bin_11 (c d : Tr) (hc : SzC c) (hd : SzC d) (hT : (Tr.bin (11, 0) c d).WF) : SzC (.bin (11, 0) c d) := by
  intro v w hv
  obtain ⟨g, cap, u, u', rfl, hn, hn', hu, hu'⟩ := hv
  obtain ⟨_, _, _, hf, _⟩ := bin_cases hT
  have HF : Hid (fit2T 11 c d = true) := hf
  obtain ⟨ua, un, uc, rfl⟩ := hu.sl
  obtain ⟨va, vn, vc, rfl⟩ := hu'.sl
  show Calls Try.prog 32 #[.agg #[.int .u8 11, .int .u8 0, .slice (some ⟨g, 0, none⟩) 2 cap]] w (SzR (.bin (11, 0) c d) w)
  have hb := below_new w (.cells #[.int .u8 11, .int .u8 0, .slice (some ⟨g, 0, none⟩) 2 cap] 54)
  have hr := (MapKept.heap_alloc w (.cells #[.int .u8 11, .int .u8 0, .slice (some ⟨g, 0, none⟩) 2 cap] 54)).1
  obtain ⟨n0, n1, n2⟩ := hn.up hb
  have HN' : Hid (NodeAt _ g 3 (rootK d) _) := hn'.up hb
  have hcc := hc _ _ (hu.up hb)
  have HU' : Hid _ := hu'.up hb
  have HDC : Hid (SzC d) := hd
  unfold treeV at hcc
  generalize rootK c = rk at *
  obtain ⟨ro, rp⟩ := rk
  dsimp only at n0 n1 hcc
  have hi0 := fun w' => Try.idxT0 g 2 cap w' (by omega)
  have hi1 := fun w' => Try.idxT1 g 2 cap w' (by omega)
  have HB : Hid _ := hb
  have HR : Hid _ := hr
  clear hn hn' hu hu' hc hd hb hr hf hT
  go_enter Try.func32, Try.ntmps32
  go_wp2_with fail
  generalize w.alloc (.cells #[.int .u8 11, .int .u8 0, .slice (some ⟨g, 0, none⟩) 2 cap] 54) = w0 at *
  refine hcc.mono ?_
  rintro e w1 ⟨m1, m2, rfl, e1, e2, e3, hb1⟩
  have hr1 := (hb1.block w.heap.size (Array.getElem?_eq_some_iff.1 HR.out).1).trans HR.out
  have HR1 : Hid _ := hr1
  have k0 : w1.cell? ⟨w.heap.size, 0, none⟩ = some (.int .u8 11) := cell_row hr1 0
  have k2 : w1.cell? ⟨w.heap.size, 2, none⟩ = some (.slice (some ⟨g, 0, none⟩) 2 cap) := cell_row hr1 2
  obtain ⟨o0, o1, o2⟩ := HN'.out.up hb1
  have hdd := HDC.out _ _ (TrAt.up hb1 HU'.out)
  unfold treeV at hdd
  generalize rootK d = rd at *
  obtain ⟨so, sp⟩ := rd
  dsimp only at o0 o1 hdd
  simp only [Nat.reduceAdd] at o1 o2
  have HB1 : Hid _ := below_step HB.out hb1
  have E1 : Hid _ := e1
  have E3 : Hid _ := e3
  have hm1 : m1 ≤ 2049 := by omega
  clear hb1 hr1 hcc e1 e3 n0 n1 n2
  go_wp2_with fail
  refine hdd.mono ?_
  rintro e w2 ⟨p1, p2, rfl, f1, f2, f3, hb2⟩
  have hr2 := (hb2.block w.heap.size (Array.getElem?_eq_some_iff.1 HR1.out).1).trans HR1.out
  have k0 : w2.cell? ⟨w.heap.size, 0, none⟩ = some (.int .u8 11) := cell_row hr2 0
  have HB2 : Hid _ := below_step HB1.out hb2
  have F1 : Hid _ := f1
  have F3 : Hid _ := f3
  have hp1 : p1 ≤ 2049 := by omega
  clear hb2 hr2 hdd f1 f3 o0 o1 o2 k2
  have hsA := fun w' => Try.rsum_any m1 p1 0 _ w' (by omega) (by omega) (by omega) rfl
  have hsB := fun w' => Try.rsum_any m2 p2 0 _ w' (by omega) (by omega) (by omega) rfl
  go_wp2_with fail
  refine (hsA _).mono ?_
  rintro e w' ⟨rfl, rfl⟩
  go_wp2_with fail
  refine (hsB _).mono ?_
  rintro e w' ⟨rfl, rfl⟩
  go_wp2
  go_ret2
  have hnn : pathT c = false ∧ pathT d = false := by have := HF.out; simpa [fit2T] using this
  have hn := hnn.2
  have hm2 := E3.out hnn.1
  have hp2 := F3.out hn
  have hm1e := E1.out
  have hp1e := F1.out
  have q1 : s1 (.bin (11, 0) c d) = s1 c + s1 d + 1 := by (try unfold s1); (try unfold s2); simp [kTr, Tr.flat]; try omega
  have q2 : s2 (.bin (11, 0) c d) = s2 c + s2 d + 1 := by (try unfold s1); (try unfold s2); simp [kTr, Tr.flat]; try omega
  exact ⟨_, _, rfl, by omega, by omega, fun _ => by omega, HB2.out⟩
set_option maxRecDepth 100000 in
set_option maxHeartbeats 2000000 in
theorem Try.rsz_bin_12 (c d : Tr) (hc : SzC c) (hd : SzC d) (hT : (Tr.bin (12, 0) c d).WF) : SzC (.bin (12, 0) c d) := by
  intro v w hv
  obtain ⟨g, cap, u, u', rfl, hn, hn', hu, hu'⟩ := hv
  obtain ⟨_, _, _, hf, _⟩ := bin_cases hT
  have HF : Hid (fit2T 12 c d = true) := hf
  obtain ⟨ua, un, uc, rfl⟩ := hu.sl
  obtain ⟨va, vn, vc, rfl⟩ := hu'.sl
  show Calls Try.prog 32 #[.agg #[.int .u8 12, .int .u8 0, .slice (some ⟨g, 0, none⟩) 2 cap]] w (SzR (.bin (12, 0) c d) w)
  have hb := below_new w (.cells #[.int .u8 12, .int .u8 0, .slice (some ⟨g, 0, none⟩) 2 cap] 54)
  have hr := (MapKept.heap_alloc w (.cells #[.int .u8 12, .int .u8 0, .slice (some ⟨g, 0, none⟩) 2 cap] 54)).1
  obtain ⟨n0, n1, n2⟩ := hn.up hb
  have HN' : Hid (NodeAt _ g 3 (rootK d) _) := hn'.up hb
  have hcc := hc _ _ (hu.up hb)
  have HU' : Hid _ := hu'.up hb
  have HDC : Hid (SzC d) := hd
  unfold treeV at hcc
  generalize rootK c = rk at *
  obtain ⟨ro, rp⟩ := rk
  dsimp only at n0 n1 hcc
  have hi0 := fun w' => Try.idxT0 g 2 cap w' (by omega)
  have hi1 := fun w' => Try.idxT1 g 2 cap w' (by omega)
  have HB : Hid _ := hb
  have HR : Hid _ := hr
  clear hn hn' hu hu' hc hd hb hr hf hT
  go_enter Try.func32, Try.ntmps32
  go_wp2_with fail
  generalize w.alloc (.cells #[.int .u8 12, .int .u8 0, .slice (some ⟨g, 0, none⟩) 2 cap] 54) = w0 at *
  refine hcc.mono ?_
  rintro e w1 ⟨m1, m2, rfl, e1, e2, e3, hb1⟩
  have hr1 := (hb1.block w.heap.size (Array.getElem?_eq_some_iff.1 HR.out).1).trans HR.out
  have HR1 : Hid _ := hr1
  have k0 : w1.cell? ⟨w.heap.size, 0, none⟩ = some (.int .u8 12) := cell_row hr1 0
  have k2 : w1.cell? ⟨w.heap.size, 2, none⟩ = some (.slice (some ⟨g, 0, none⟩) 2 cap) := cell_row hr1 2
  obtain ⟨o0, o1, o2⟩ := HN'.out.up hb1
  have hdd := HDC.out _ _ (TrAt.up hb1 HU'.out)
  unfold treeV at hdd
  generalize rootK d = rd at *
  obtain ⟨so, sp⟩ := rd
  dsimp only at o0 o1 hdd
  simp only [Nat.reduceAdd] at o1 o2
  have HB1 : Hid _ := below_step HB.out hb1
  have E1 : Hid _ := e1
  have E3 : Hid _ := e3
  have hm1 : m1 ≤ 2049 := by omega
  clear hb1 hr1 hcc e1 e3 n0 n1 n2
  go_wp2_with fail
  refine hdd.mono ?_
  rintro e w2 ⟨p1, p2, rfl, f1, f2, f3, hb2⟩
  have hr2 := (hb2.block w.heap.size (Array.getElem?_eq_some_iff.1 HR1.out).1).trans HR1.out
  have k0 : w2.cell? ⟨w.heap.size, 0, none⟩ = some (.int .u8 12) := cell_row hr2 0
  have HB2 : Hid _ := below_step HB1.out hb2
  have F1 : Hid _ := f1
  have F3 : Hid _ := f3
  have hp1 : p1 ≤ 2049 := by omega
  clear hb2 hr2 hdd f1 f3 o0 o1 o2 k2
  have hsA := fun w' => Try.rsum_any m1 p1 0 _ w' (by omega) (by omega) (by omega) rfl
  have hsB := fun w' => Try.rsum_any m2 p2 0 _ w' (by omega) (by omega) (by omega) rfl
  go_wp2_with fail
  refine (hsA _).mono ?_
  rintro e w' ⟨rfl, rfl⟩
  go_wp2_with fail
  refine (hsB _).mono ?_
  rintro e w' ⟨rfl, rfl⟩
  go_wp2
  go_ret2
  have hnn : pathT c = false ∧ pathT d = false := by have := HF.out; simpa [fit2T] using this
  have hn := hnn.2
  have hm2 := E3.out hnn.1
  have hp2 := F3.out hn
  have hm1e := E1.out
  have hp1e := F1.out
  have q1 : s1 (.bin (12, 0) c d) = s1 c + s1 d + 1 := by (try unfold s1); (try unfold s2); simp [kTr, Tr.flat]; try omega
  have q2 : s2 (.bin (12, 0) c d) = s2 c + s2 d + 1 := by (try unfold s1); (try unfold s2); simp [kTr, Tr.flat]; try omega
  exact ⟨_, _, rfl, by omega, by omega, fun _ => by omega, HB2.out⟩
set_option maxRecDepth 100000 in
set_option maxHeartbeats 2000000 in
theorem Try.rsz_bin_15 (c d : Tr) (hc : SzC c) (hd : SzC d) (hT : (Tr.bin (15, 0) c d).WF) : SzC (.bin (15, 0) c d) := by
  intro v w hv
  obtain ⟨g, cap, u, u', rfl, hn, hn', hu, hu'⟩ := hv
  obtain ⟨_, _, _, hf, _⟩ := bin_cases hT
  have HF : Hid (fit2T 15 c d = true) := hf
  obtain ⟨ua, un, uc, rfl⟩ := hu.sl
  obtain ⟨va, vn, vc, rfl⟩ := hu'.sl
  show Calls Try.prog 32 #[.agg #[.int .u8 15, .int .u8 0, .slice (some ⟨g, 0, none⟩) 2 cap]] w (SzR (.bin (15, 0) c d) w)
  have hb := below_new w (.cells #[.int .u8 15, .int .u8 0, .slice (some ⟨g, 0, none⟩) 2 cap] 54)
  have hr := (MapKept.heap_alloc w (.cells #[.int .u8 15, .int .u8 0, .slice (some ⟨g, 0, none⟩) 2 cap] 54)).1
  obtain ⟨n0, n1, n2⟩ := hn.up hb
  have HN' : Hid (NodeAt _ g 3 (rootK d) _) := hn'.up hb
  have hcc := hc _ _ (hu.up hb)
  have HU' : Hid _ := hu'.up hb
  have HDC : Hid (SzC d) := hd
  unfold treeV at hcc
  generalize rootK c = rk at *
  obtain ⟨ro, rp⟩ := rk
  dsimp only at n0 n1 hcc
  have hi0 := fun w' => Try.idxT0 g 2 cap w' (by omega)
  have hi1 := fun w' => Try.idxT1 g 2 cap w' (by omega)
  have HB : Hid _ := hb
  have HR : Hid _ := hr
  clear hn hn' hu hu' hc hd hb hr hf hT
  go_enter Try.func32, Try.ntmps32
  go_wp2_with fail
  generalize w.alloc (.cells #[.int .u8 15, .int .u8 0, .slice (some ⟨g, 0, none⟩) 2 cap] 54) = w0 at *
  refine hcc.mono ?_
  rintro e w1 ⟨m1, m2, rfl, e1, e2, e3, hb1⟩
  have hr1 := (hb1.block w.heap.size (Array.getElem?_eq_some_iff.1 HR.out).1).trans HR.out
  have HR1 : Hid _ := hr1
  have k0 : w1.cell? ⟨w.heap.size, 0, none⟩ = some (.int .u8 15) := cell_row hr1 0
  have k2 : w1.cell? ⟨w.heap.size, 2, none⟩ = some (.slice (some ⟨g, 0, none⟩) 2 cap) := cell_row hr1 2
  obtain ⟨o0, o1, o2⟩ := HN'.out.up hb1
  have hdd := HDC.out _ _ (TrAt.up hb1 HU'.out)
  unfold treeV at hdd
  generalize rootK d = rd at *
  obtain ⟨so, sp⟩ := rd
  dsimp only at o0 o1 hdd
  simp only [Nat.reduceAdd] at o1 o2
  have HB1 : Hid _ := below_step HB.out hb1
  have E1 : Hid _ := e1
  have E3 : Hid _ := e3
  have hm1 : m1 ≤ 2049 := by omega
  clear hb1 hr1 hcc e1 e3 n0 n1 n2
  go_wp2_with fail
  refine hdd.mono ?_
  rintro e w2 ⟨p1, p2, rfl, f1, f2, f3, hb2⟩
  have hr2 := (hb2.block w.heap.size (Array.getElem?_eq_some_iff.1 HR1.out).1).trans HR1.out
  have k0 : w2.cell? ⟨w.heap.size, 0, none⟩ = some (.int .u8 15) := cell_row hr2 0
  have HB2 : Hid _ := below_step HB1.out hb2
  have F1 : Hid _ := f1
  have F3 : Hid _ := f3
  have hp1 : p1 ≤ 2049 := by omega
  clear hb2 hr2 hdd f1 f3 o0 o1 o2 k2
  have hsA := fun w' => Try.rsum_any m1 p1 0 _ w' (by omega) (by omega) (by omega) rfl
  have hsB := fun w' => Try.rsum_any m2 p2 0 _ w' (by omega) (by omega) (by omega) rfl
  go_wp2_with fail
  refine (hsA _).mono ?_
  rintro e w' ⟨rfl, rfl⟩
  go_wp2_with fail
  refine (hsB _).mono ?_
  rintro e w' ⟨rfl, rfl⟩
  go_wp2
  go_ret2
  have hnn : pathT c = false ∧ pathT d = false := by have := HF.out; simpa [fit2T] using this
  have hn := hnn.2
  have hm2 := E3.out hnn.1
  have hp2 := F3.out hn
  have hm1e := E1.out
  have hp1e := F1.out
  have q1 : s1 (.bin (15, 0) c d) = s1 c + s1 d + 1 := by (try unfold s1); (try unfold s2); simp [kTr, Tr.flat]; try omega
  have q2 : s2 (.bin (15, 0) c d) = s2 c + s2 d + 1 := by (try unfold s1); (try unfold s2); simp [kTr, Tr.flat]; try omega
  exact ⟨_, _, rfl, by omega, by omega, fun _ => by omega, HB2.out⟩
set_option maxRecDepth 100000 in
set_option maxHeartbeats 2000000 in
theorem Try.rsz_bin_16 (c d : Tr) (hc : SzC c) (hd : SzC d) (hT : (Tr.bin (16, 0) c d).WF) : SzC (.bin (16, 0) c d) := by
  intro v w hv
  obtain ⟨g, cap, u, u', rfl, hn, hn', hu, hu'⟩ := hv
  obtain ⟨_, _, _, hf, _⟩ := bin_cases hT
  have HF : Hid (fit2T 16 c d = true) := hf
  obtain ⟨ua, un, uc, rfl⟩ := hu.sl
  obtain ⟨va, vn, vc, rfl⟩ := hu'.sl
  show Calls Try.prog 32 #[.agg #[.int .u8 16, .int .u8 0, .slice (some ⟨g, 0, none⟩) 2 cap]] w (SzR (.bin (16, 0) c d) w)
  have hb := below_new w (.cells #[.int .u8 16, .int .u8 0, .slice (some ⟨g, 0, none⟩) 2 cap] 54)
  have hr := (MapKept.heap_alloc w (.cells #[.int .u8 16, .int .u8 0, .slice (some ⟨g, 0, none⟩) 2 cap] 54)).1
  obtain ⟨n0, n1, n2⟩ := hn.up hb
  have HN' : Hid (NodeAt _ g 3 (rootK d) _) := hn'.up hb
  have hcc := hc _ _ (hu.up hb)
  have HU' : Hid _ := hu'.up hb
  have HDC : Hid (SzC d) := hd
  unfold treeV at hcc
  generalize rootK c = rk at *
  obtain ⟨ro, rp⟩ := rk
  dsimp only at n0 n1 hcc
  have hi0 := fun w' => Try.idxT0 g 2 cap w' (by omega)
  have hi1 := fun w' => Try.idxT1 g 2 cap w' (by omega)
  have HB : Hid _ := hb
  have HR : Hid _ := hr
  clear hn hn' hu hu' hc hd hb hr hf hT
  go_enter Try.func32, Try.ntmps32
  go_wp2_with fail
  generalize w.alloc (.cells #[.int .u8 16, .int .u8 0, .slice (some ⟨g, 0, none⟩) 2 cap] 54) = w0 at *
  refine hcc.mono ?_
  rintro e w1 ⟨m1, m2, rfl, e1, e2, e3, hb1⟩
  have hr1 := (hb1.block w.heap.size (Array.getElem?_eq_some_iff.1 HR.out).1).trans HR.out
  have HR1 : Hid _ := hr1
  have k0 : w1.cell? ⟨w.heap.size, 0, none⟩ = some (.int .u8 16) := cell_row hr1 0
  have k2 : w1.cell? ⟨w.heap.size, 2, none⟩ = some (.slice (some ⟨g, 0, none⟩) 2 cap) := cell_row hr1 2
  obtain ⟨o0, o1, o2⟩ := HN'.out.up hb1
  have hdd := HDC.out _ _ (TrAt.up hb1 HU'.out)
  unfold treeV at hdd
  generalize rootK d = rd at *
  obtain ⟨so, sp⟩ := rd
  dsimp only at o0 o1 hdd
  simp only [Nat.reduceAdd] at o1 o2
  have HB1 : Hid _ := below_step HB.out hb1
  have E1 : Hid _ := e1
  have E3 : Hid _ := e3
  have hm1 : m1 ≤ 2049 := by omega
  clear hb1 hr1 hcc e1 e3 n0 n1 n2
  go_wp2_with fail
  refine hdd.mono ?_
  rintro e w2 ⟨p1, p2, rfl, f1, f2, f3, hb2⟩
  have hr2 := (hb2.block w.heap.size (Array.getElem?_eq_some_iff.1 HR1.out).1).trans HR1.out
  have k0 : w2.cell? ⟨w.heap.size, 0, none⟩ = some (.int .u8 16) := cell_row hr2 0
  have HB2 : Hid _ := below_step HB1.out hb2
  have F1 : Hid _ := f1
  have F3 : Hid _ := f3
  have hp1 : p1 ≤ 2049 := by omega
  clear hb2 hr2 hdd f1 f3 o0 o1 o2 k2
  have hsA := fun w' => Try.rsum_any m1 p1 0 _ w' (by omega) (by omega) (by omega) rfl
  have hsB := fun w' => Try.rsum_any m2 p2 0 _ w' (by omega) (by omega) (by omega) rfl
  go_wp2_with fail
  refine (hsA _).mono ?_
  rintro e w' ⟨rfl, rfl⟩
  go_wp2_with fail
  refine (hsB _).mono ?_
  rintro e w' ⟨rfl, rfl⟩
  go_wp2
  go_ret2
  have hnn : pathT c = false ∧ pathT d = false := by have := HF.out; simpa [fit2T] using this
  have hn := hnn.2
  have hm2 := E3.out hnn.1
  have hp2 := F3.out hn
  have hm1e := E1.out
  have hp1e := F1.out
  have q1 : s1 (.bin (16, 0) c d) = s1 c + s1 d + 1 := by (try unfold s1); (try unfold s2); simp [kTr, Tr.flat]; try omega
  have q2 : s2 (.bin (16, 0) c d) = s2 c + s2 d + 1 := by (try unfold s1); (try unfold s2); simp [kTr, Tr.flat]; try omega
  exact ⟨_, _, rfl, by omega, by omega, fun _ => by omega, HB2.out⟩
set_option maxRecDepth 100000 in
set_option maxHeartbeats 2000000 in
theorem Try.rsz_bin_13 (c d : Tr) (hc : SzC c) (hd : SzC d) (hT : (Tr.bin (13, 0) c d).WF) : SzC (.bin (13, 0) c d) := by
  intro v w hv
  obtain ⟨g, cap, u, u', rfl, hn, hn', hu, hu'⟩ := hv
  obtain ⟨_, _, _, hf, _⟩ := bin_cases hT
  have HF : Hid (fit2T 13 c d = true) := hf
  obtain ⟨ua, un, uc, rfl⟩ := hu.sl
  obtain ⟨va, vn, vc, rfl⟩ := hu'.sl
  show Calls Try.prog 32 #[.agg #[.int .u8 13, .int .u8 0, .slice (some ⟨g, 0, none⟩) 2 cap]] w (SzR (.bin (13, 0) c d) w)
  have hb := below_new w (.cells #[.int .u8 13, .int .u8 0, .slice (some ⟨g, 0, none⟩) 2 cap] 54)
  have hr := (MapKept.heap_alloc w (.cells #[.int .u8 13, .int .u8 0, .slice (some ⟨g, 0, none⟩) 2 cap] 54)).1
  obtain ⟨n0, n1, n2⟩ := hn.up hb
  have HN' : Hid (NodeAt _ g 3 (rootK d) _) := hn'.up hb
  have hcc := hc _ _ (hu.up hb)
  have HU' : Hid _ := hu'.up hb
  have HDC : Hid (SzC d) := hd
  unfold treeV at hcc
  generalize rootK c = rk at *
  obtain ⟨ro, rp⟩ := rk
  dsimp only at n0 n1 hcc
  have hi0 := fun w' => Try.idxT0 g 2 cap w' (by omega)
  have hi1 := fun w' => Try.idxT1 g 2 cap w' (by omega)
  have HB : Hid _ := hb
  have HR : Hid _ := hr
  clear hn hn' hu hu' hc hd hb hr hf hT
  go_enter Try.func32, Try.ntmps32
  go_wp2_with fail
  generalize w.alloc (.cells #[.int .u8 13, .int .u8 0, .slice (some ⟨g, 0, none⟩) 2 cap] 54) = w0 at *
  refine hcc.mono ?_
  rintro e w1 ⟨m1, m2, rfl, e1, e2, e3, hb1⟩
  have hr1 := (hb1.block w.heap.size (Array.getElem?_eq_some_iff.1 HR.out).1).trans HR.out
  have HR1 : Hid _ := hr1
  have k0 : w1.cell? ⟨w.heap.size, 0, none⟩ = some (.int .u8 13) := cell_row hr1 0
  have k2 : w1.cell? ⟨w.heap.size, 2, none⟩ = some (.slice (some ⟨g, 0, none⟩) 2 cap) := cell_row hr1 2
  obtain ⟨o0, o1, o2⟩ := HN'.out.up hb1
  have hdd := HDC.out _ _ (TrAt.up hb1 HU'.out)
  unfold treeV at hdd
  generalize rootK d = rd at *
  obtain ⟨so, sp⟩ := rd
  dsimp only at o0 o1 hdd
  simp only [Nat.reduceAdd] at o1 o2
  have HB1 : Hid _ := below_step HB.out hb1
  have E1 : Hid _ := e1
  have E3 : Hid _ := e3
  have hm1 : m1 ≤ 2049 := by omega
  clear hb1 hr1 hcc e1 e3 n0 n1 n2
  go_wp2_with fail
  refine hdd.mono ?_
  rintro e w2 ⟨p1, p2, rfl, f1, f2, f3, hb2⟩
  have hr2 := (hb2.block w.heap.size (Array.getElem?_eq_some_iff.1 HR1.out).1).trans HR1.out
  have k0 : w2.cell? ⟨w.heap.size, 0, none⟩ = some (.int .u8 13) := cell_row hr2 0
  have HB2 : Hid _ := below_step HB1.out hb2
  have F1 : Hid _ := f1
  have F3 : Hid _ := f3
  have hp1 : p1 ≤ 2049 := by omega
  clear hb2 hr2 hdd f1 f3 o0 o1 o2 k2
  have hsA := fun w' => Try.rsum_any m2 p1 0 _ w' (by omega) (by omega) (by omega) rfl
  have hsB := fun w' => Try.rsum_any m1 p2 0 _ w' (by omega) (by omega) (by omega) rfl
  go_wp2_with fail
  refine (hsA _).mono ?_
  rintro e w' ⟨rfl, rfl⟩
  go_wp2_with fail
  refine (hsB _).mono ?_
  rintro e w' ⟨rfl, rfl⟩
  go_wp2
  go_ret2
  have hnn : pathT c = false ∧ pathT d = false := by have := HF.out; simpa [fit2T] using this
  have hn := hnn.2
  have hm2 := E3.out hnn.1
  have hp2 := F3.out hn
  have hm1e := E1.out
  have hp1e := F1.out
  have q1 : s1 (.bin (13, 0) c d) = s2 c + s1 d + 1 := by (try unfold s1); (try unfold s2); simp [kTr, Tr.flat]; try omega
  have q2 : s2 (.bin (13, 0) c d) = s1 c + s2 d + 1 := by (try unfold s1); (try unfold s2); simp [kTr, Tr.flat]; try omega
  exact ⟨_, _, rfl, by omega, by omega, fun _ => by omega, HB2.out⟩
set_option maxRecDepth 100000 in
set_option maxHeartbeats 2000000 in
theorem Try.rsz_bin_17 (c d : Tr) (hc : SzC c) (hd : SzC d) (hT : (Tr.bin (17, 0) c d).WF) : SzC (.bin (17, 0) c d) := by
  intro v w hv
  obtain ⟨g, cap, u, u', rfl, hn, hn', hu, hu'⟩ := hv
  obtain ⟨_, _, _, hf, _⟩ := bin_cases hT
  have HF : Hid (fit2T 17 c d = true) := hf
  obtain ⟨ua, un, uc, rfl⟩ := hu.sl
  obtain ⟨va, vn, vc, rfl⟩ := hu'.sl
  show Calls Try.prog 32 #[.agg #[.int .u8 17, .int .u8 0, .slice (some ⟨g, 0, none⟩) 2 cap]] w (SzR (.bin (17, 0) c d) w)
  have hb := below_new w (.cells #[.int .u8 17, .int .u8 0, .slice (some ⟨g, 0, none⟩) 2 cap] 54)
  have hr := (MapKept.heap_alloc w (.cells #[.int .u8 17, .int .u8 0, .slice (some ⟨g, 0, none⟩) 2 cap] 54)).1
  obtain ⟨n0, n1, n2⟩ := hn.up hb
  have HN' : Hid (NodeAt _ g 3 (rootK d) _) := hn'.up hb
  have hcc := hc _ _ (hu.up hb)
  have HU' : Hid _ := hu'.up hb
  have HDC : Hid (SzC d) := hd
  unfold treeV at hcc
  generalize rootK c = rk at *
  obtain ⟨ro, rp⟩ := rk
  dsimp only at n0 n1 hcc
  have hi0 := fun w' => Try.idxT0 g 2 cap w' (by omega)
  have hi1 := fun w' => Try.idxT1 g 2 cap w' (by omega)
  have HB : Hid _ := hb
  have HR : Hid _ := hr
  clear hn hn' hu hu' hc hd hb hr hf hT
  go_enter Try.func32, Try.ntmps32
  go_wp2_with fail
  generalize w.alloc (.cells #[.int .u8 17, .int .u8 0, .slice (some ⟨g, 0, none⟩) 2 cap] 54) = w0 at *
  refine hcc.mono ?_
  rintro e w1 ⟨m1, m2, rfl, e1, e2, e3, hb1⟩
  have hr1 := (hb1.block w.heap.size (Array.getElem?_eq_some_iff.1 HR.out).1).trans HR.out
  have HR1 : Hid _ := hr1
  have k0 : w1.cell? ⟨w.heap.size, 0, none⟩ = some (.int .u8 17) := cell_row hr1 0
  have k2 : w1.cell? ⟨w.heap.size, 2, none⟩ = some (.slice (some ⟨g, 0, none⟩) 2 cap) := cell_row hr1 2
  obtain ⟨o0, o1, o2⟩ := HN'.out.up hb1
  have hdd := HDC.out _ _ (TrAt.up hb1 HU'.out)
  unfold treeV at hdd
  generalize rootK d = rd at *
  obtain ⟨so, sp⟩ := rd
  dsimp only at o0 o1 hdd
  simp only [Nat.reduceAdd] at o1 o2
  have HB1 : Hid _ := below_step HB.out hb1
  have E1 : Hid _ := e1
  have E3 : Hid _ := e3
  have hm1 : m1 ≤ 2049 := by omega
  clear hb1 hr1 hcc e1 e3 n0 n1 n2
  go_wp2_with fail
  refine hdd.mono ?_
  rintro e w2 ⟨p1, p2, rfl, f1, f2, f3, hb2⟩
  have hr2 := (hb2.block w.heap.size (Array.getElem?_eq_some_iff.1 HR1.out).1).trans HR1.out
  have k0 : w2.cell? ⟨w.heap.size, 0, none⟩ = some (.int .u8 17) := cell_row hr2 0
  have HB2 : Hid _ := below_step HB1.out hb2
  have F1 : Hid _ := f1
  have F3 : Hid _ := f3
  have hp1 : p1 ≤ 2049 := by omega
  clear hb2 hr2 hdd f1 f3 o0 o1 o2 k2
  have hsA := fun w' => Try.rsum_any m1 p1 0 _ w' (by omega) (by omega) (by omega) rfl
  have hsB := fun w' => Try.rsum_any m1 p2 0 _ w' (by omega) (by omega) (by omega) rfl
  go_wp2_with fail
  refine (hsA _).mono ?_
  rintro e w' ⟨rfl, rfl⟩
  go_wp2_with fail
  refine (hsB _).mono ?_
  rintro e w' ⟨rfl, rfl⟩
  go_wp2
  go_ret2
  have hn : pathT d = false := by have := HF.out; simp [fit2T] at this; exact this.2
  have hp2 := F3.out hn
  have hm1e := E1.out
  have hp1e := F1.out
  have q1 : s1 (.bin (17, 0) c d) = s1 c + s1 d + 1 := by (try unfold s1); (try unfold s2); simp [kTr, Tr.flat]; try omega
  have q2 : s2 (.bin (17, 0) c d) = s1 c + s2 d + 1 := by (try unfold s1); (try unfold s2); simp [kTr, Tr.flat]; try omega
  exact ⟨_, _, rfl, by omega, by omega, fun _ => by omega, HB2.out⟩
set_option maxRecDepth 100000 in
set_option maxHeartbeats 2000000 in
theorem Try.rsz_bin_18 (c d : Tr) (hc : SzC c) (hd : SzC d) (hT : (Tr.bin (18, 0) c d).WF) : SzC (.bin (18, 0) c d) := by
  intro v w hv
  obtain ⟨g, cap, u, u', rfl, hn, hn', hu, hu'⟩ := hv
  obtain ⟨_, _, _, hf, _⟩ := bin_cases hT
  have HF : Hid (fit2T 18 c d = true) := hf
  obtain ⟨ua, un, uc, rfl⟩ := hu.sl
  obtain ⟨va, vn, vc, rfl⟩ := hu'.sl
  show Calls Try.prog 32 #[.agg #[.int .u8 18, .int .u8 0, .slice (some ⟨g, 0, none⟩) 2 cap]] w (SzR (.bin (18, 0) c d) w)
  have hb := below_new w (.cells #[.int .u8 18, .int .u8 0, .slice (some ⟨g, 0, none⟩) 2 cap] 54)
  have hr := (MapKept.heap_alloc w (.cells #[.int .u8 18, .int .u8 0, .slice (some ⟨g, 0, none⟩) 2 cap] 54)).1
  obtain ⟨n0, n1, n2⟩ := hn.up hb
  have HN' : Hid (NodeAt _ g 3 (rootK d) _) := hn'.up hb
  have hcc := hc _ _ (hu.up hb)
  have HU' : Hid _ := hu'.up hb
  have HDC : Hid (SzC d) := hd
  unfold treeV at hcc
  generalize rootK c = rk at *
  obtain ⟨ro, rp⟩ := rk
  dsimp only at n0 n1 hcc
  have hi0 := fun w' => Try.idxT0 g 2 cap w' (by omega)
  have hi1 := fun w' => Try.idxT1 g 2 cap w' (by omega)
  have HB : Hid _ := hb
  have HR : Hid _ := hr
  clear hn hn' hu hu' hc hd hb hr hf hT
  go_enter Try.func32, Try.ntmps32
  go_wp2_with fail
  generalize w.alloc (.cells #[.int .u8 18, .int .u8 0, .slice (some ⟨g, 0, none⟩) 2 cap] 54) = w0 at *
  refine hcc.mono ?_
  rintro e w1 ⟨m1, m2, rfl, e1, e2, e3, hb1⟩
  have hr1 := (hb1.block w.heap.size (Array.getElem?_eq_some_iff.1 HR.out).1).trans HR.out
  have HR1 : Hid _ := hr1
  have k0 : w1.cell? ⟨w.heap.size, 0, none⟩ = some (.int .u8 18) := cell_row hr1 0
  have k2 : w1.cell? ⟨w.heap.size, 2, none⟩ = some (.slice (some ⟨g, 0, none⟩) 2 cap) := cell_row hr1 2
  obtain ⟨o0, o1, o2⟩ := HN'.out.up hb1
  have hdd := HDC.out _ _ (TrAt.up hb1 HU'.out)
  unfold treeV at hdd
  generalize rootK d = rd at *
  obtain ⟨so, sp⟩ := rd
  dsimp only at o0 o1 hdd
  simp only [Nat.reduceAdd] at o1 o2
  have HB1 : Hid _ := below_step HB.out hb1
  have E1 : Hid _ := e1
  have E3 : Hid _ := e3
  have hm1 : m1 ≤ 2049 := by omega
  clear hb1 hr1 hcc e1 e3 n0 n1 n2
  go_wp2_with fail
  refine hdd.mono ?_
  rintro e w2 ⟨p1, p2, rfl, f1, f2, f3, hb2⟩
  have hr2 := (hb2.block w.heap.size (Array.getElem?_eq_some_iff.1 HR1.out).1).trans HR1.out
  have k0 : w2.cell? ⟨w.heap.size, 0, none⟩ = some (.int .u8 18) := cell_row hr2 0
  have HB2 : Hid _ := below_step HB1.out hb2
  have F1 : Hid _ := f1
  have F3 : Hid _ := f3
  have hp1 : p1 ≤ 2049 := by omega
  clear hb2 hr2 hdd f1 f3 o0 o1 o2 k2
  have hsA := fun w' => Try.rsum_any m1 p1 0 _ w' (by omega) (by omega) (by omega) rfl
  have hsB := fun w' => Try.rsum_any m1 p2 0 _ w' (by omega) (by omega) (by omega) rfl
  go_wp2_with fail
  refine (hsA _).mono ?_
  rintro e w' ⟨rfl, rfl⟩
  go_wp2_with fail
  refine (hsB _).mono ?_
  rintro e w' ⟨rfl, rfl⟩
  go_wp2
  go_ret2
  have hn : pathT d = false := by have := HF.out; simp [fit2T] at this; exact this.2
  have hp2 := F3.out hn
  have hm1e := E1.out
  have hp1e := F1.out
  have q1 : s1 (.bin (18, 0) c d) = s1 c + s1 d + 1 := by (try unfold s1); (try unfold s2); simp [kTr, Tr.flat]; try omega
  have q2 : s2 (.bin (18, 0) c d) = s1 c + s2 d + 1 := by (try unfold s1); (try unfold s2); simp [kTr, Tr.flat]; try omega
  exact ⟨_, _, rfl, by omega, by omega, fun _ => by omega, HB2.out⟩
set_option maxRecDepth 100000 in
set_option maxHeartbeats 2000000 in
theorem Try.rsz_bin_21 (c d : Tr) (hc : SzC c) (hd : SzC d) (hT : (Tr.bin (21, 0) c d).WF) : SzC (.bin (21, 0) c d) := by
  intro v w hv
  obtain ⟨g, cap, u, u', rfl, hn, hn', hu, hu'⟩ := hv
  obtain ⟨_, _, _, hf, _⟩ := bin_cases hT
  have HF : Hid (fit2T 21 c d = true) := hf
  obtain ⟨ua, un, uc, rfl⟩ := hu.sl
  obtain ⟨va, vn, vc, rfl⟩ := hu'.sl
  show Calls Try.prog 32 #[.agg #[.int .u8 21, .int .u8 0, .slice (some ⟨g, 0, none⟩) 2 cap]] w (SzR (.bin (21, 0) c d) w)
  have hb := below_new w (.cells #[.int .u8 21, .int .u8 0, .slice (some ⟨g, 0, none⟩) 2 cap] 54)
  have hr := (MapKept.heap_alloc w (.cells #[.int .u8 21, .int .u8 0, .slice (some ⟨g, 0, none⟩) 2 cap] 54)).1
  obtain ⟨n0, n1, n2⟩ := hn.up hb
  have HN' : Hid (NodeAt _ g 3 (rootK d) _) := hn'.up hb
  have hcc := hc _ _ (hu.up hb)
  have HU' : Hid _ := hu'.up hb
  have HDC : Hid (SzC d) := hd
  unfold treeV at hcc
  generalize rootK c = rk at *
  obtain ⟨ro, rp⟩ := rk
  dsimp only at n0 n1 hcc
  have hi0 := fun w' => Try.idxT0 g 2 cap w' (by omega)
  have hi1 := fun w' => Try.idxT1 g 2 cap w' (by omega)
  have HB : Hid _ := hb
  have HR : Hid _ := hr
  clear hn hn' hu hu' hc hd hb hr hf hT
  go_enter Try.func32, Try.ntmps32
  go_wp2_with fail
  generalize w.alloc (.cells #[.int .u8 21, .int .u8 0, .slice (some ⟨g, 0, none⟩) 2 cap] 54) = w0 at *
  refine hcc.mono ?_
  rintro e w1 ⟨m1, m2, rfl, e1, e2, e3, hb1⟩
  have hr1 := (hb1.block w.heap.size (Array.getElem?_eq_some_iff.1 HR.out).1).trans HR.out
  have HR1 : Hid _ := hr1
  have k0 : w1.cell? ⟨w.heap.size, 0, none⟩ = some (.int .u8 21) := cell_row hr1 0
  have k2 : w1.cell? ⟨w.heap.size, 2, none⟩ = some (.slice (some ⟨g, 0, none⟩) 2 cap) := cell_row hr1 2
  obtain ⟨o0, o1, o2⟩ := HN'.out.up hb1
  have hdd := HDC.out _ _ (TrAt.up hb1 HU'.out)
  unfold treeV at hdd
  generalize rootK d = rd at *
  obtain ⟨so, sp⟩ := rd
  dsimp only at o0 o1 hdd
  simp only [Nat.reduceAdd] at o1 o2
  have HB1 : Hid _ := below_step HB.out hb1
  have E1 : Hid _ := e1
  have E3 : Hid _ := e3
  have hm1 : m1 ≤ 2049 := by omega
  clear hb1 hr1 hcc e1 e3 n0 n1 n2
  go_wp2_with fail
  refine hdd.mono ?_
  rintro e w2 ⟨p1, p2, rfl, f1, f2, f3, hb2⟩
  have hr2 := (hb2.block w.heap.size (Array.getElem?_eq_some_iff.1 HR1.out).1).trans HR1.out
  have k0 : w2.cell? ⟨w.heap.size, 0, none⟩ = some (.int .u8 21) := cell_row hr2 0
  have HB2 : Hid _ := below_step HB1.out hb2
  have F1 : Hid _ := f1
  have F3 : Hid _ := f3
  have hp1 : p1 ≤ 2049 := by omega
  clear hb2 hr2 hdd f1 f3 o0 o1 o2 k2
  have hsA := fun w' => Try.rsum_any m1 p1 0 _ w' (by omega) (by omega) (by omega) rfl
  have hsB := fun w' => Try.rsum_any m2 p2 0 _ w' (by omega) (by omega) (by omega) rfl
  go_wp2_with fail
  refine (hsA _).mono ?_
  rintro e w' ⟨rfl, rfl⟩
  go_wp2_with fail
  refine (hsB _).mono ?_
  rintro e w' ⟨rfl, rfl⟩
  go_wp2
  go_ret2
  have q1 : s1 (.bin (21, 0) c d) = s1 c + s1 d + 1 := by simp [s1, kTr, Tr.flat]; try omega
  exact ⟨_, _, rfl, by rw [E1.out, F1.out, q1]; omega, by omega, fun h => absurd h (by simp [path_bin, isPathB]), HB2.out⟩
set_option maxRecDepth 100000 in
set_option maxHeartbeats 2000000 in
theorem Try.rsz_bin_22 (c d : Tr) (hc : SzC c) (hd : SzC d) (hT : (Tr.bin (22, 0) c d).WF) : SzC (.bin (22, 0) c d) := by
  intro v w hv
  obtain ⟨g, cap, u, u', rfl, hn, hn', hu, hu'⟩ := hv
  obtain ⟨_, _, _, hf, _⟩ := bin_cases hT
  have HF : Hid (fit2T 22 c d = true) := hf
  obtain ⟨ua, un, uc, rfl⟩ := hu.sl
  obtain ⟨va, vn, vc, rfl⟩ := hu'.sl
  show Calls Try.prog 32 #[.agg #[.int .u8 22, .int .u8 0, .slice (some ⟨g, 0, none⟩) 2 cap]] w (SzR (.bin (22, 0) c d) w)
  have hb := below_new w (.cells #[.int .u8 22, .int .u8 0, .slice (some ⟨g, 0, none⟩) 2 cap] 54)
  have hr := (MapKept.heap_alloc w (.cells #[.int .u8 22, .int .u8 0, .slice (some ⟨g, 0, none⟩) 2 cap] 54)).1
  obtain ⟨n0, n1, n2⟩ := hn.up hb
  have HN' : Hid (NodeAt _ g 3 (rootK d) _) := hn'.up hb
  have hcc := hc _ _ (hu.up hb)
  have HU' : Hid _ := hu'.up hb
  have HDC : Hid (SzC d) := hd
  unfold treeV at hcc
  generalize rootK c = rk at *
  obtain ⟨ro, rp⟩ := rk
  dsimp only at n0 n1 hcc
  have hi0 := fun w' => Try.idxT0 g 2 cap w' (by omega)
  have hi1 := fun w' => Try.idxT1 g 2 cap w' (by omega)
  have HB : Hid _ := hb
  have HR : Hid _ := hr
  clear hn hn' hu hu' hc hd hb hr hf hT
  go_enter Try.func32, Try.ntmps32
  go_wp2_with fail
  generalize w.alloc (.cells #[.int .u8 22, .int .u8 0, .slice (some ⟨g, 0, none⟩) 2 cap] 54) = w0 at *
  refine hcc.mono ?_
  rintro e w1 ⟨m1, m2, rfl, e1, e2, e3, hb1⟩
  have hr1 := (hb1.block w.heap.size (Array.getElem?_eq_some_iff.1 HR.out).1).trans HR.out
  have HR1 : Hid _ := hr1
  have k0 : w1.cell? ⟨w.heap.size, 0, none⟩ = some (.int .u8 22) := cell_row hr1 0
  have k2 : w1.cell? ⟨w.heap.size, 2, none⟩ = some (.slice (some ⟨g, 0, none⟩) 2 cap) := cell_row hr1 2
  obtain ⟨o0, o1, o2⟩ := HN'.out.up hb1
  have hdd := HDC.out _ _ (TrAt.up hb1 HU'.out)
  unfold treeV at hdd
  generalize rootK d = rd at *
  obtain ⟨so, sp⟩ := rd
  dsimp only at o0 o1 hdd
  simp only [Nat.reduceAdd] at o1 o2
  have HB1 : Hid _ := below_step HB.out hb1
  have E1 : Hid _ := e1
  have E3 : Hid _ := e3
  have hm1 : m1 ≤ 2049 := by omega
  clear hb1 hr1 hcc e1 e3 n0 n1 n2
  go_wp2_with fail
  refine hdd.mono ?_
  rintro e w2 ⟨p1, p2, rfl, f1, f2, f3, hb2⟩
  have hr2 := (hb2.block w.heap.size (Array.getElem?_eq_some_iff.1 HR1.out).1).trans HR1.out
  have k0 : w2.cell? ⟨w.heap.size, 0, none⟩ = some (.int .u8 22) := cell_row hr2 0
  have HB2 : Hid _ := below_step HB1.out hb2
  have F1 : Hid _ := f1
  have F3 : Hid _ := f3
  have hp1 : p1 ≤ 2049 := by omega
  clear hb2 hr2 hdd f1 f3 o0 o1 o2 k2
  have hsA := fun w' => Try.rsum_any m1 p1 0 _ w' (by omega) (by omega) (by omega) rfl
  have hsB := fun w' => Try.rsum_any m2 p2 0 _ w' (by omega) (by omega) (by omega) rfl
  go_wp2_with fail
  refine (hsA _).mono ?_
  rintro e w' ⟨rfl, rfl⟩
  go_wp2_with fail
  refine (hsB _).mono ?_
  rintro e w' ⟨rfl, rfl⟩
  go_wp2
  go_ret2
  have q1 : s1 (.bin (22, 0) c d) = s1 c + s1 d + 1 := by simp [s1, kTr, Tr.flat]; try omega
  exact ⟨_, _, rfl, by rw [E1.out, F1.out, q1]; omega, by omega, fun h => absurd h (by simp [path_bin, isPathB]), HB2.out⟩
set_option maxRecDepth 100000 in
set_option maxHeartbeats 2000000 in
theorem Try.rsz_bin_14 (c d : Tr) (hc : SzC c) (hd : SzC d) (hT : (Tr.bin (14, 0) c d).WF) : SzC (.bin (14, 0) c d) := by
  intro v w hv
  obtain ⟨g, cap, u, u', rfl, hn, hn', hu, hu'⟩ := hv
  obtain ⟨_, _, _, hf, _⟩ := bin_cases hT
  have HF : Hid (fit2T 14 c d = true) := hf
  obtain ⟨ua, un, uc, rfl⟩ := hu.sl
  obtain ⟨va, vn, vc, rfl⟩ := hu'.sl
  show Calls Try.prog 32 #[.agg #[.int .u8 14, .int .u8 0, .slice (some ⟨g, 0, none⟩) 2 cap]] w (SzR (.bin (14, 0) c d) w)
  have hb := below_new w (.cells #[.int .u8 14, .int .u8 0, .slice (some ⟨g, 0, none⟩) 2 cap] 54)
  have hr := (MapKept.heap_alloc w (.cells #[.int .u8 14, .int .u8 0, .slice (some ⟨g, 0, none⟩) 2 cap] 54)).1
  obtain ⟨n0, n1, n2⟩ := hn.up hb
  have HN' : Hid (NodeAt _ g 3 (rootK d) _) := hn'.up hb
  have hcc := hc _ _ (hu.up hb)
  have HU' : Hid _ := hu'.up hb
  have HDC : Hid (SzC d) := hd
  unfold treeV at hcc
  generalize rootK c = rk at *
  obtain ⟨ro, rp⟩ := rk
  dsimp only at n0 n1 hcc
  have hi0 := fun w' => Try.idxT0 g 2 cap w' (by omega)
  have hi1 := fun w' => Try.idxT1 g 2 cap w' (by omega)
  have HB : Hid _ := hb
  have HR : Hid _ := hr
  clear hn hn' hu hu' hc hd hb hr hf hT
  go_enter Try.func32, Try.ntmps32
  go_wp2_with fail
  generalize w.alloc (.cells #[.int .u8 14, .int .u8 0, .slice (some ⟨g, 0, none⟩) 2 cap] 54) = w0 at *
  refine hcc.mono ?_
  rintro e w1 ⟨m1, m2, rfl, e1, e2, e3, hb1⟩
  have hr1 := (hb1.block w.heap.size (Array.getElem?_eq_some_iff.1 HR.out).1).trans HR.out
  have HR1 : Hid _ := hr1
  have k0 : w1.cell? ⟨w.heap.size, 0, none⟩ = some (.int .u8 14) := cell_row hr1 0
  have k2 : w1.cell? ⟨w.heap.size, 2, none⟩ = some (.slice (some ⟨g, 0, none⟩) 2 cap) := cell_row hr1 2
  obtain ⟨o0, o1, o2⟩ := HN'.out.up hb1
  have hdd := HDC.out _ _ (TrAt.up hb1 HU'.out)
  unfold treeV at hdd
  generalize rootK d = rd at *
  obtain ⟨so, sp⟩ := rd
  dsimp only at o0 o1 hdd
  simp only [Nat.reduceAdd] at o1 o2
  have HB1 : Hid _ := below_step HB.out hb1
  have E1 : Hid _ := e1
  have E3 : Hid _ := e3
  have hm1 : m1 ≤ 2049 := by omega
  clear hb1 hr1 hcc e1 e3 n0 n1 n2
  go_wp2_with fail
  refine hdd.mono ?_
  rintro e w2 ⟨p1, p2, rfl, f1, f2, f3, hb2⟩
  have hr2 := (hb2.block w.heap.size (Array.getElem?_eq_some_iff.1 HR1.out).1).trans HR1.out
  have k0 : w2.cell? ⟨w.heap.size, 0, none⟩ = some (.int .u8 14) := cell_row hr2 0
  have HB2 : Hid _ := below_step HB1.out hb2
  have F1 : Hid _ := f1
  have F3 : Hid _ := f3
  have hp1 : p1 ≤ 2049 := by omega
  clear hb2 hr2 hdd f1 f3 o0 o1 o2 k2
  have h1 := fun w' => Try.rsum_any m1 p1 0 _ w' (by omega) (by omega) (by omega) rfl
  have h2 := fun w' => Try.rsum_any m2 p2 0 _ w' (by omega) (by omega) (by omega) rfl
  have h4 := fun w' => Try.rsum_any m1 p2 0 _ w' (by omega) (by omega) (by omega) rfl
  have h5 := fun w' => Try.rsum_any m2 p1 0 _ w' (by omega) (by omega) (by omega) rfl
  have h3 := fun w' => Try.rsum_any (min (m1 + p1 + 0 + 1) 2049) (min (m2 + p2 + 0 + 1) 2049) 0 _ w' (by omega) (by omega) (by omega) rfl
  have h6 := fun w' => Try.rsum_any (min (m1 + p2 + 0 + 1) 2049) (min (m2 + p1 + 0 + 1) 2049) 0 _ w' (by omega) (by omega) (by omega) rfl
  go_wp2_with fail
  refine (h1 _).mono ?_
  rintro e w' ⟨rfl, rfl⟩
  go_wp2_with fail
  refine (h2 _).mono ?_
  rintro e w' ⟨rfl, rfl⟩
  go_wp2_with fail
  refine (h3 _).mono ?_
  rintro e w' ⟨rfl, rfl⟩
  go_wp2_with fail
  refine (h4 _).mono ?_
  rintro e w' ⟨rfl, rfl⟩
  go_wp2_with fail
  refine (h5 _).mono ?_
  rintro e w' ⟨rfl, rfl⟩
  go_wp2_with fail
  refine (h6 _).mono ?_
  rintro e w' ⟨rfl, rfl⟩
  go_wp2
  go_ret2
  have hnn : pathT c = false ∧ pathT d = false := by have := HF.out; simpa [fit2T] using this
  have hn := hnn.2
  have hm2 := E3.out hnn.1
  have hp2 := F3.out hn
  have hm1e := E1.out
  have hp1e := F1.out
  have q1 : s1 (.bin (14, 0) c d) = (s1 c + s1 d + 1) + (s2 c + s2 d + 1) + 1 := by (try unfold s1); (try unfold s2); simp [kTr, Tr.flat]; try omega
  have q2 : s2 (.bin (14, 0) c d) = (s1 c + s2 d + 1) + (s2 c + s1 d + 1) + 1 := by (try unfold s1); (try unfold s2); simp [kTr, Tr.flat]; try omega
  exact ⟨_, _, rfl, by omega, by omega, fun _ => by omega, HB2.out⟩
theorem Try.rsizes_any : ∀ T : Tr, T.WF → SzC T
  | .leaf (op, p), h => by
    rcases leaf_cases h with ⟨rfl, hp⟩ | ⟨rfl, rfl | rfl | rfl | rfl | rfl⟩
    · exact Try.rsz_leaf_2 p
    · exact Try.rsz_leaf_0
    · exact Try.rsz_leaf_1
    · exact Try.rsz_leaf_3
    · exact Try.rsz_leaf_4
    · exact Try.rsz_leaf_5
  | .un (op, p) c, h => by
    have h' := h
    obtain ⟨rfl, hc, _, ho⟩ := un_cases h'
    have ih := Try.rsizes_any c hc
    rcases ho with rfl | rfl | rfl | rfl | rfl | rfl | rfl | rfl
    · exact Try.rsz_un_6 c ih h
    · exact Try.rsz_un_7 c ih h
    · exact Try.rsz_un_8 c ih h
    · exact Try.rsz_un_9 c ih h
    · exact Try.rsz_un_10 c ih h
    · exact Try.rsz_un_19 c ih h
    · exact Try.rsz_un_20 c ih h
    · exact Try.rsz_un_23 c ih h
  | .bin (op, p) c d, h => by
    have h' := h
    obtain ⟨rfl, hc, hd, _, ho⟩ := bin_cases h'
    have ih := Try.rsizes_any c hc
    have jh := Try.rsizes_any d hd
    rcases ho with rfl | rfl | rfl | rfl | rfl | rfl | rfl | rfl | rfl | rfl
    · exact Try.rsz_bin_11 c d ih jh h
    · exact Try.rsz_bin_12 c d ih jh h
    · exact Try.rsz_bin_13 c d ih jh h
    · exact Try.rsz_bin_14 c d ih jh h
    · exact Try.rsz_bin_15 c d ih jh h
    · exact Try.rsz_bin_16 c d ih jh h
    · exact Try.rsz_bin_17 c d ih jh h
    · exact Try.rsz_bin_18 c d ih jh h
    · exact Try.rsz_bin_21 c d ih jh h
    · exact Try.rsz_bin_22 c d ih jh h
end Go.Proofs.Ytfgaieefejdkbaa
