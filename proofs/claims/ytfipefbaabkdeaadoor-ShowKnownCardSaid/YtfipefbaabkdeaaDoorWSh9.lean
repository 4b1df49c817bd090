/- ShowKnown: what it lays out. -/
import Derived.Test.YtfipefbaabkdeaaDoorWSh7
namespace Go.Proofs.YtfipefbaabkdeaaDoor
open Go.RowKit Go.Maps

def sw7 : List (List Tk5) := [[(2, 0), (2, 1), (15, 0), (2, 0), (11, 0)], [(2, 0), (2, 1), (11, 0), (2, 0), (15, 0)], [(2, 0), (2, 1), (2, 0), (13, 0), (13, 0)], [(2, 0), (2, 1), (13, 0), (2, 0), (13, 0)], [(2, 0), (19, 0), (2, 1), (20, 0), (0, 0), (19, 0), (21, 0), (23, 0), (22, 0), (3, 0), (17, 0)], [(2, 0), (2, 1), (11, 0), (6, 0)], [(2, 0), (7, 0), (6, 0)]]
def sx7 : List Bytes := [[112, 32, 85, 32, 113, 32, 38, 32, 112], [40, 112, 32, 38, 32, 113, 41, 32, 85, 32, 112], [112, 32, 45, 62, 32, 113, 32, 45, 62, 32, 112], [40, 112, 32, 45, 62, 32, 113, 41, 32, 45, 62, 32, 112], [60, 123, 112, 125, 32, 59, 32, 40, 63, 113, 32, 43, 32, 123, 116, 114, 117, 101, 125, 41, 42, 62, 32, 108, 97, 115, 116], [33, 40, 112, 32, 38, 32, 113, 41], [33, 88, 32, 112]]
theorem sn7 : ∀ k, k < 7 → tellL [[112], [113]] (sw7.getD k []) 1 = (sx7.getD k [], 0)
  | 0, _ => by kernel_rfl
  | 1, _ => by kernel_rfl
  | 2, _ => by kernel_rfl
  | 3, _ => by kernel_rfl
  | 4, _ => by kernel_rfl
  | 5, _ => by kernel_rfl
  | 6, _ => by kernel_rfl
theorem sn8 : tellL [[112], [113]] [(5, 0)] 1 = ([], 160) := by kernel_rfl
theorem sn9 : tellL [[112], [113]] [(2, 2)] 1 = ([], 2) := by kernel_rfl
theorem sn10 : tellL [[112], [113]] [(2, 0), (11, 0)] 1 = ([], 7) := by kernel_rfl
theorem sn11 : tellL [[112], [113]] [(2, 0), (19, 0), (23, 0), (23, 0)] 3 = ([123, 112, 125, 42, 42], 0) := by kernel_rfl
def sAllocs (w : World) : List Obj → World
  | [] => w
  | o :: os => sAllocs (w.alloc o) os
theorem sAllocs_below : ∀ (os : List Obj) (w : World), Below w.heap.size w (sAllocs w os)
  | [], _ => Below.refl _ _
  | o :: os, w => below_step (below_new w o) (sAllocs_below os _)
theorem sAllocs_get : ∀ (os : List Obj) (w : World) (k : Nat) (h : k < os.length), (sAllocs w os).heap[w.heap.size + k]? = some os[k]
  | o :: os, w, 0, _ => ((sAllocs_below os (w.alloc o)).block _ (by simp)).trans (MapKept.heap_alloc w o).1
  | o :: os, w, k + 1, h => by
    have h' := sAllocs_get os (w.alloc o) k (by simpa using h)
    have e : (w.alloc o).heap.size + k = w.heap.size + (k + 1) := by simp; omega
    rw [e] at h'
    exact h'
def sobjs (g : Nat) : List Obj := [(.cells #[.string { data := #[112] }, .string { data := #[113] }] 9),
  (.cells #[.int .u8 2, .int .u8 0] 39),
  (.cells #[.int .u8 2, .int .u8 1] 39),
  (.cells #[.int .u8 2, .int .u8 0, .int .u8 2, .int .u8 1, .int .u8 15, .int .u8 0, .int .u8 2, .int .u8 0, .int .u8 11, .int .u8 0] 39),
  (.cells #[.int .u8 2, .int .u8 0, .int .u8 2, .int .u8 1, .int .u8 11, .int .u8 0, .int .u8 2, .int .u8 0, .int .u8 15, .int .u8 0] 39),
  (.cells #[.int .u8 2, .int .u8 0, .int .u8 2, .int .u8 1, .int .u8 2, .int .u8 0, .int .u8 13, .int .u8 0, .int .u8 13, .int .u8 0] 39),
  (.cells #[.int .u8 2, .int .u8 0, .int .u8 2, .int .u8 1, .int .u8 13, .int .u8 0, .int .u8 2, .int .u8 0, .int .u8 13, .int .u8 0] 39),
  (.cells #[.int .u8 2, .int .u8 0, .int .u8 19, .int .u8 0, .int .u8 2, .int .u8 1, .int .u8 20, .int .u8 0, .int .u8 0, .int .u8 0, .int .u8 19, .int .u8 0, .int .u8 21, .int .u8 0, .int .u8 23, .int .u8 0, .int .u8 22, .int .u8 0, .int .u8 3, .int .u8 0, .int .u8 17, .int .u8 0] 39),
  (.cells #[.int .u8 2, .int .u8 0, .int .u8 2, .int .u8 1, .int .u8 11, .int .u8 0, .int .u8 6, .int .u8 0] 39),
  (.cells #[.int .u8 2, .int .u8 0, .int .u8 7, .int .u8 0, .int .u8 6, .int .u8 0] 39),
  (.cells #[.slice (some ⟨g + 3, 0, none⟩) 5 5, .slice (some ⟨g + 4, 0, none⟩) 5 5, .slice (some ⟨g + 5, 0, none⟩) 5 5, .slice (some ⟨g + 6, 0, none⟩) 5 5, .slice (some ⟨g + 7, 0, none⟩) 11 11, .slice (some ⟨g + 8, 0, none⟩) 4 4, .slice (some ⟨g + 9, 0, none⟩) 3 3] 23),
  (.cells #[.string { data := #[112, 32, 85, 32, 113, 32, 38, 32, 112] }, .string { data := #[40, 112, 32, 38, 32, 113, 41, 32, 85, 32, 112] }, .string { data := #[112, 32, 45, 62, 32, 113, 32, 45, 62, 32, 112] }, .string { data := #[40, 112, 32, 45, 62, 32, 113, 41, 32, 45, 62, 32, 112] }, .string { data := #[60, 123, 112, 125, 32, 59, 32, 40, 63, 113, 32, 43, 32, 123, 116, 114, 117, 101, 125, 41, 42, 62, 32, 108, 97, 115, 116] }, .string { data := #[33, 40, 112, 32, 38, 32, 113, 41] }, .string { data := #[33, 88, 32, 112] }] 9)]
/-- What ShowKnown lays out first. -/
structure SW (w : World) (g0 g1 gr g10 g11 : Nat) : Prop where
  nm : StAt w g0 [[112], [113]]
  p0 : w.heap[g1]? = some (.cells #[.int .u8 2, .int .u8 0] 39 (0, 0))
  tx : StAt w g11 sx7
  rw : ∀ k, k < 7 → TkSl w (some ⟨gr + k, 0, none⟩) (sw7.getD k []).length (sw7.getD k []).length (sw7.getD k [])
  sl : ∀ k, k < 7 → w.cell? ⟨g10, k, none⟩ = some (.slice (some ⟨gr + k, 0, none⟩) (sw7.getD k []).length (sw7.getD k []).length)
  tb : Tab w
  ot : OpT w
theorem SW.up {w w' : World} {g0 g1 gr g10 g11 : Nat} (h : SW w g0 g1 gr g10 g11) (hb : Below w.heap.size w w') : SW w' g0 g1 gr g10 g11 :=
  ⟨h.nm.up hb, (hb.block _ (Array.getElem?_eq_some_iff.1 h.p0).1).trans h.p0, h.tx.up hb, fun k hk => (h.rw k hk).up hb, fun k hk => kept_cell (h.sl k hk) hb, Tab.up h.tb hb, OpT.up h.ot hb⟩
theorem SW.new (w : World) (hT : Tab w) (hO : OpT w) : SW (sAllocs w (sobjs w.heap.size)) w.heap.size (w.heap.size + 1) (w.heap.size + 3) (w.heap.size + 10) (w.heap.size + 11) := by
  have hg := fun k h => sAllocs_get (sobjs w.heap.size) w k h
  refine ⟨hg 0 (show 0 < 12 by decide), hg 1 (show 1 < 12 by decide), hg 11 (show 11 < 12 by decide), fun k hk => ?_, fun k hk => ?_, Tab.up hT (sAllocs_below _ _), OpT.up hO (sAllocs_below _ _)⟩
  · match k, hk with
    | 0, _ => exact row_tk (hg 3 (show 3 < 12 by decide)) (by decide) (by decide)
    | 1, _ => exact row_tk (hg 4 (show 4 < 12 by decide)) (by decide) (by decide)
    | 2, _ => exact row_tk (hg 5 (show 5 < 12 by decide)) (by decide) (by decide)
    | 3, _ => exact row_tk (hg 6 (show 6 < 12 by decide)) (by decide) (by decide)
    | 4, _ => exact row_tk (hg 7 (show 7 < 12 by decide)) (by decide) (by decide)
    | 5, _ => exact row_tk (hg 8 (show 8 < 12 by decide)) (by decide) (by decide)
    | 6, _ => exact row_tk (hg 9 (show 9 < 12 by decide)) (by decide) (by decide)
  · have h10 := hg 10 (show 10 < 12 by decide)
    rw [cell_row h10 k]
    match k, hk with
    | 0, _ => rfl
    | 1, _ => rfl
    | 2, _ => rfl
    | 3, _ => rfl
    | 4, _ => rfl
    | 5, _ => rfl
    | 6, _ => rfl
end Go.Proofs.YtfipefbaabkdeaaDoor
