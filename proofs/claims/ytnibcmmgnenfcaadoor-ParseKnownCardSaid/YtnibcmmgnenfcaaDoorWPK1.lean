/- ParseKnown, over the contracts of parse.Formula and parse.Path. -/
import Derived.Test.YtnibcmmgnenfcaaDoorWPJ7
namespace Go.Proofs.YtnibcmmgnenfcaaDoor
open Go.RowKit Go.Maps

def kt6 : List Bytes := [[112, 32, 85, 32, 113, 32, 38, 32, 112], [112, 32, 45, 62, 32, 113, 32, 45, 62, 32, 112], [112, 32, 60, 45, 62, 32, 113, 32, 60, 45, 62, 32, 112],
  [60, 123, 112, 125, 32, 59, 32, 40, 63, 113, 32, 43, 32, 123, 116, 114, 117, 101, 125, 41, 42, 62, 32, 108, 97, 115, 116], [91, 123, 112, 125, 42, 93, 32, 70, 32, 113], [33, 112, 32, 85, 32, 88, 32, 113]]
def kw6 : List (List Tk5) := [[(2, 0), (2, 1), (15, 0), (2, 0), (11, 0)], [(2, 0), (2, 1), (2, 0), (13, 0), (13, 0)], [(2, 0), (2, 1), (14, 0), (2, 0), (14, 0)],
  [(2, 0), (19, 0), (2, 1), (20, 0), (0, 0), (19, 0), (21, 0), (23, 0), (22, 0), (3, 0), (17, 0)], [(2, 0), (19, 0), (23, 0), (2, 1), (9, 0), (18, 0)], [(2, 0), (6, 0), (2, 1), (7, 0), (15, 0)]]
theorem kn6 : ∀ k, k < 6 → formL [[112], [113]] (kt6.getD k []) = (kw6.getD k [], 0, 0)
  | 0, _ => by kernel_rfl
  | 1, _ => by kernel_rfl
  | 2, _ => by kernel_rfl
  | 3, _ => by kernel_rfl
  | 4, _ => by kernel_rfl
  | 5, _ => by kernel_rfl
def kt7 : List Bytes := [[], [112, 32, 113], [40, 112], [112, 32, 38], [114], [60, 112, 62, 32, 113], [60, 123, 88, 32, 112, 125, 62, 32, 113]]
def kf7 : List (Int × Int) := [(150, 0), (150, 2), (150, 2), (150, 3), (6, 0), (150, 1), (7, -1)]
theorem kn7 : ∀ k, k < 7 → formL [[112], [113]] (kt7.getD k []) = ([], (kf7.getD k (0, 0)).1, (kf7.getD k (0, 0)).2)
  | 0, _ => by kernel_rfl
  | 1, _ => by kernel_rfl
  | 2, _ => by kernel_rfl
  | 3, _ => by kernel_rfl
  | 4, _ => by kernel_rfl
  | 5, _ => by kernel_rfl
  | 6, _ => by kernel_rfl
theorem kp1 : pathL [[112], [113]] [123, 112, 125, 42] = ([(2, 0), (19, 0), (23, 0)], 0, 0) := by kernel_rfl
theorem kp2 : pathL [[112], [113]] [112] = ([], 150, 0) := by kernel_rfl
theorem kp3 : formL [[112], [112]] [112] = ([], 5, -1) := by kernel_rfl
theorem kt6_sz (k : Nat) (h : k < 6) : (kt6.getD k []).length ≤ maxLen := by
  match k, h with
  | 0, _ => exact Nat.le_trans (m := 100) (by decide) (by unfold maxLen; decide)
  | 1, _ => exact Nat.le_trans (m := 100) (by decide) (by unfold maxLen; decide)
  | 2, _ => exact Nat.le_trans (m := 100) (by decide) (by unfold maxLen; decide)
  | 3, _ => exact Nat.le_trans (m := 100) (by decide) (by unfold maxLen; decide)
  | 4, _ => exact Nat.le_trans (m := 100) (by decide) (by unfold maxLen; decide)
  | 5, _ => exact Nat.le_trans (m := 100) (by decide) (by unfold maxLen; decide)
def allocs (w : World) : List Obj → World
  | [] => w
  | o :: os => allocs (w.alloc o) os
theorem allocs_below : ∀ (os : List Obj) (w : World), Below w.heap.size w (allocs w os)
  | [], _ => Below.refl _ _
  | o :: os, w => below_step (below_new w o) (allocs_below os _)
theorem allocs_get : ∀ (os : List Obj) (w : World) (k : Nat) (h : k < os.length), (allocs w os).heap[w.heap.size + k]? = some os[k]
  | o :: os, w, 0, _ => ((allocs_below os (w.alloc o)).block _ (by simp)).trans (MapKept.heap_alloc w o).1
  | o :: os, w, k + 1, h => by
    have h' := allocs_get os (w.alloc o) k (by simpa using h)
    have e : (w.alloc o).heap.size + k = w.heap.size + (k + 1) := by simp; omega
    rw [e] at h'
    exact h'
def kobjs (g : Nat) : List Obj := [(.cells #[.string { data := #[112] }, .string { data := #[113] }] 9),
  (.cells #[.int .u8 2, .int .u8 0] 42),
  (.cells #[.int .u8 2, .int .u8 1] 42),
  (.cells #[.string { data := #[112, 32, 85, 32, 113, 32, 38, 32, 112] }, .string { data := #[112, 32, 45, 62, 32, 113, 32, 45, 62, 32, 112] }, .string { data := #[112, 32, 60, 45, 62, 32, 113, 32, 60, 45, 62, 32, 112] }, .string { data := #[60, 123, 112, 125, 32, 59, 32, 40, 63, 113, 32, 43, 32, 123, 116, 114, 117, 101, 125, 41, 42, 62, 32, 108, 97, 115, 116] }, .string { data := #[91, 123, 112, 125, 42, 93, 32, 70, 32, 113] }, .string { data := #[33, 112, 32, 85, 32, 88, 32, 113] }] 9),
  (.cells #[.int .u8 2, .int .u8 0, .int .u8 2, .int .u8 1, .int .u8 15, .int .u8 0, .int .u8 2, .int .u8 0, .int .u8 11, .int .u8 0] 42),
  (.cells #[.int .u8 2, .int .u8 0, .int .u8 2, .int .u8 1, .int .u8 2, .int .u8 0, .int .u8 13, .int .u8 0, .int .u8 13, .int .u8 0] 42),
  (.cells #[.int .u8 2, .int .u8 0, .int .u8 2, .int .u8 1, .int .u8 14, .int .u8 0, .int .u8 2, .int .u8 0, .int .u8 14, .int .u8 0] 42),
  (.cells #[.int .u8 2, .int .u8 0, .int .u8 19, .int .u8 0, .int .u8 2, .int .u8 1, .int .u8 20, .int .u8 0, .int .u8 0, .int .u8 0, .int .u8 19, .int .u8 0, .int .u8 21, .int .u8 0, .int .u8 23, .int .u8 0, .int .u8 22, .int .u8 0, .int .u8 3, .int .u8 0, .int .u8 17, .int .u8 0] 42),
  (.cells #[.int .u8 2, .int .u8 0, .int .u8 19, .int .u8 0, .int .u8 23, .int .u8 0, .int .u8 2, .int .u8 1, .int .u8 9, .int .u8 0, .int .u8 18, .int .u8 0] 42),
  (.cells #[.int .u8 2, .int .u8 0, .int .u8 6, .int .u8 0, .int .u8 2, .int .u8 1, .int .u8 7, .int .u8 0, .int .u8 15, .int .u8 0] 42),
  (.cells #[.slice (some ⟨g + 4, 0, none⟩) 5 5, .slice (some ⟨g + 5, 0, none⟩) 5 5, .slice (some ⟨g + 6, 0, none⟩) 5 5, .slice (some ⟨g + 7, 0, none⟩) 11 11, .slice (some ⟨g + 8, 0, none⟩) 6 6, .slice (some ⟨g + 9, 0, none⟩) 5 5] 23)]
/-- What ParseKnown lays out first. -/
structure KW (w : World) (g0 g1 g3 gr g10 : Nat) : Prop where
  nm : StAt w g0 [[112], [113]]
  p0 : w.heap[g1]? = some (.cells #[.int .u8 2, .int .u8 0] 42 (0, 0))
  tx : StAt w g3 kt6
  rw : ∀ k, k < 6 → TkSl w (some ⟨gr + k, 0, none⟩) (kw6.getD k []).length (kw6.getD k []).length (kw6.getD k [])
  sl : ∀ k, k < 6 → w.cell? ⟨g10, k, none⟩ = some (.slice (some ⟨gr + k, 0, none⟩) (kw6.getD k []).length (kw6.getD k []).length)
  tb : Tab w
theorem KW.up {w w' : World} {g0 g1 g3 gr g10 : Nat} (h : KW w g0 g1 g3 gr g10) (hb : Below w.heap.size w w') : KW w' g0 g1 g3 gr g10 :=
  ⟨h.nm.up hb, (hb.block _ (Array.getElem?_eq_some_iff.1 h.p0).1).trans h.p0, h.tx.up hb, fun k hk => (h.rw k hk).up hb, fun k hk => kept_cell (h.sl k hk) hb, Tab.up h.tb hb⟩
theorem KW.new (w : World) (hT : Tab w) : KW (allocs w (kobjs w.heap.size)) w.heap.size (w.heap.size + 1) (w.heap.size + 3) (w.heap.size + 4) (w.heap.size + 10) := by
  have hg := fun k h => allocs_get (kobjs w.heap.size) w k h
  refine ⟨hg 0 (show 0 < 11 by decide), hg 1 (show 1 < 11 by decide), hg 3 (show 3 < 11 by decide), fun k hk => ?_, fun k hk => ?_, Tab.up hT (allocs_below _ _)⟩
  · match k, hk with
    | 0, _ => exact row_tk (hg 4 (show 4 < 11 by decide)) (by decide) (by decide)
    | 1, _ => exact row_tk (hg 5 (show 5 < 11 by decide)) (by decide) (by decide)
    | 2, _ => exact row_tk (hg 6 (show 6 < 11 by decide)) (by decide) (by decide)
    | 3, _ => exact row_tk (hg 7 (show 7 < 11 by decide)) (by decide) (by decide)
    | 4, _ => exact row_tk (hg 8 (show 8 < 11 by decide)) (by decide) (by decide)
    | 5, _ => exact row_tk (hg 9 (show 9 < 11 by decide)) (by decide) (by decide)
  · have h10 := hg 10 (show 10 < 11 by decide)
    rw [cell_row h10 k]
    match k, hk with
    | 0, _ => rfl
    | 1, _ => rfl
    | 2, _ => rfl
    | 3, _ => rfl
    | 4, _ => rfl
    | 5, _ => rfl
theorem kt7_sz (k : Nat) (h : k < 7) : (kt7.getD k []).length ≤ maxLen := by
  match k, h with
  | 0, _ => exact Nat.le_trans (m := 100) (by decide) (by unfold maxLen; decide)
  | 1, _ => exact Nat.le_trans (m := 100) (by decide) (by unfold maxLen; decide)
  | 2, _ => exact Nat.le_trans (m := 100) (by decide) (by unfold maxLen; decide)
  | 3, _ => exact Nat.le_trans (m := 100) (by decide) (by unfold maxLen; decide)
  | 4, _ => exact Nat.le_trans (m := 100) (by decide) (by unfold maxLen; decide)
  | 5, _ => exact Nat.le_trans (m := 100) (by decide) (by unfold maxLen; decide)
  | 6, _ => exact Nat.le_trans (m := 100) (by decide) (by unfold maxLen; decide)
def kobj2 : List Obj := [(.cells #[.string { data := #[] }, .string { data := #[112, 32, 113] }, .string { data := #[40, 112] }, .string { data := #[112, 32, 38] }, .string { data := #[114] }, .string { data := #[60, 112, 62, 32, 113] }, .string { data := #[60, 123, 88, 32, 112, 125, 62, 32, 113] }] 9),
  (.cells #[.int .i64 150, .int .i64 0, .int .i64 150, .int .i64 2, .int .i64 150, .int .i64 2, .int .i64 150, .int .i64 3, .int .i64 6, .int .i64 0, .int .i64 150, .int .i64 1, .int .i64 7, .int .i64 (-1)] 26)]
/-- What it lays out between its loops. -/
structure KX (w : World) (gt gf : Nat) : Prop where
  tx : StAt w gt kt7
  f0 : ∀ k, k < 7 → w.cell? ⟨gf, 2 * k, none⟩ = some (.int .i64 (kf7.getD k (0, 0)).1)
  f1 : ∀ k, k < 7 → w.cell? ⟨gf, 2 * k + 1, none⟩ = some (.int .i64 (kf7.getD k (0, 0)).2)
theorem KX.up {w w' : World} {gt gf : Nat} (h : KX w gt gf) (hb : Below w.heap.size w w') : KX w' gt gf :=
  ⟨h.tx.up hb, fun k hk => kept_cell (h.f0 k hk) hb, fun k hk => kept_cell (h.f1 k hk) hb⟩
theorem KX.new (w : World) : KX (allocs w kobj2) w.heap.size (w.heap.size + 1) := by
  have hg := fun k h => allocs_get kobj2 w k h
  refine ⟨hg 0 (show 0 < 2 by decide), fun k hk => ?_, fun k hk => ?_⟩
  · rw [cell_row (hg 1 (show 1 < 2 by decide)) (2 * k)]
    match k, hk with
    | 0, _ => rfl
    | 1, _ => rfl
    | 2, _ => rfl
    | 3, _ => rfl
    | 4, _ => rfl
    | 5, _ => rfl
    | 6, _ => rfl
  · rw [cell_row (hg 1 (show 1 < 2 by decide)) (2 * k + 1)]
    match k, hk with
    | 0, _ => rfl
    | 1, _ => rfl
    | 2, _ => rfl
    | 3, _ => rfl
    | 4, _ => rfl
    | 5, _ => rfl
    | 6, _ => rfl
end Go.Proofs.YtnibcmmgnenfcaaDoor
