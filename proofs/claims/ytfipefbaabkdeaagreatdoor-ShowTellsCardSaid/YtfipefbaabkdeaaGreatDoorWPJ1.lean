/- Stage 5's laws over the contracts of parse.Formula and parse.Path (handed in): what they share; awake. -/
import Derived.Test.YtfipefbaabkdeaaGreatDoorWCheck
import Derived.Test.YtfipefbaabkdeaaGreatDoorWLx7
import Derived.Test.YtfipefbaabkdeaaGreatDoorWFl
import Derived.Test.YtfipefbaabkdeaaGreatDoorWTs5
import Derived.Test.YtfipefbaabkdeaaGreatDoorPaM
import Derived.KernelRfl
namespace Go.Proofs.YtfipefbaabkdeaaGreatDoor
open Go.RowKit Go.Maps

/-- What a reading call answers. -/
def ReadC (F : FuncId) (L : List Bytes → Bytes → List Tk5 × Int × Int) : Prop :=
  ∀ (a : Option Addr) (len cap : Nat) (ad : Nat → Addr) (ss : List ByteArray) (s : ByteArray) (w : World), StrSl Tryz.prog 22 w a len cap ad ss → s.size ≤ maxLen → Tab w →
    Calls Tryz.prog F #[.slice a len cap, .string s] w fun e w' => ∃ v, e = .returned (.tuple #[v, .agg #[.int .i64 (L (nms ss) s.toList).2.1, .int .i64 (L (nms ss) s.toList).2.2]]) ∧
      w'.ownsRow w.heap.size 41 2 v (L (nms ss) s.toList).1.length (encT (L (nms ss) s.toList).1) ∧ Below w.heap.size w w' ∧ (L (nms ss) s.toList).1.length ≤ 512 ∧ ∀ z ∈ (L (nms ss) s.toList).1, z.1 < 256 ∧ z.2 < 256
theorem stAt_str {w : World} {g : Nat} {ss : List Bytes} (h : StAt w g ss) (hn : ss.length ≤ 1000) (hb : ∀ x ∈ ss, x.length ≤ 1000) : StrSl Tryz.prog 22 w (some ⟨g, 0, none⟩) ss.length ss.length (fun k => ⟨g, k, none⟩) (ss.map mkB) := by
  have hg : ∀ k, (ss.map mkB).getD k ByteArray.empty = mkB (ss.getD k []) := fun k => by
    by_cases hk : k < ss.length
    · simp [List.getD_eq_getElem?_getD, List.getElem?_eq_getElem hk]
    · simp [List.getD_eq_getElem?_getD, List.getElem?_eq_none (by omega : ss.length ≤ k)]; rfl
  refine ⟨by simp, Nat.le_refl _, by unfold maxLen; omega, fun n k w hk hn => ?_, fun k hk => by rw [hg]; exact h.cell hk, fun k _ => h.lt, fun k => ?_, fun e => by cases e⟩
  · have := idx_of Tryz.underlying22 Tryz.sizeStr (a := some ⟨g, 0, none⟩) (cap := ss.length) (n := n) (fun h => by cases h) k w hk
    rw [this]; simp [adOf, Addr.add]; omega
  · rw [hg, mkB_size]
    by_cases hk : k < ss.length
    · have := hb (ss.getD k []) (List.mem_of_getElem? (getD_get hk)); unfold maxLen; omega
    · simp [List.getD_eq_getElem?_getD, List.getElem?_eq_none (by omega : ss.length ≤ k)]
theorem nms_mkB (ss : List Bytes) : nms (ss.map mkB) = ss := by
  unfold nms; rw [List.map_map]
  conv => rhs; rw [← List.map_id ss]
  exact List.map_congr_left fun x _ => mkB_toList x
theorem ex5 : formL [[112], [113]] [112, 32, 85, 32, 113, 32, 38, 32, 112] = ([(2, 0), (2, 1), (15, 0), (2, 0), (11, 0)], 0, 0) := by kernel_rfl

theorem own_tks {w : World} {base n : Nat} {v : Value} {ts : List Tk5} (h : w.ownsRow base 41 2 v n (encT ts)) (hok : ∀ t ∈ ts, t.1 < 256 ∧ t.2 < 256) : ∃ a cap, v = .slice a n cap ∧ TkSl w a n cap ts := by
  obtain ⟨a, cap, h1, h2, _⟩ := own_tk h hok; exact ⟨a, cap, h1, h2⟩
/-- A block of tokens as a list. -/
theorem row_tk {w : World} {g : Nat} {ts : List Tk5} (h : w.heap[g]? = some (.cells (encT ts).toArray 41 (0, 0))) (hn : ts.length ≤ 1000) (hok : ∀ t ∈ ts, t.1 < 256 ∧ t.2 < 256) : TkSl w (some ⟨g, 0, none⟩) ts.length ts.length ts := by
  refine ⟨rfl, Nat.le_refl _, by unfold maxLen; omega, fun h => (nomatch h), ?_, ?_, hok⟩
  · intro x hx k hk
    injection hx with hx; subst hx
    rw [add_plain, Nat.zero_add, cell_row h]
    simpa using (encT_get ts k hk).1
  · intro x hx k hk
    injection hx with hx; subst hx
    rw [add_plain, Nat.zero_add, cell_row h]
    simpa using (encT_get ts k hk).2
theorem one_tk (w : World) {op : Nat} (h : op < 256) : TkSl (w.alloc (.cells #[.int .u8 (op : Int), .int .u8 0] 41)) (some ⟨w.heap.size, 0, none⟩) 1 1 [(op, 0)] := by
  have hc : ∀ j, (w.alloc (.cells #[.int .u8 (op : Int), .int .u8 0] 41)).cell? ⟨w.heap.size, j, none⟩ = #[Value.int .u8 (op : Int), .int .u8 0][j]? := fun j => cell_row (MapKept.heap_alloc w _).1 j
  refine ⟨rfl, Nat.le_refl _, by unfold maxLen; omega, fun h => (nomatch h), ?_, ?_, fun u hu => by simp at hu; subst hu; exact ⟨h, Nat.zero_lt_succ _⟩⟩
  all_goals
    intro x hx k hk
    injection hx with hx; subst hx
    simp at hk; subst hk
    rw [add_plain, hc]; rfl
/-- CopyToks: new memory. -/
theorem own_emptyT (w : World) (e : TypeId) : (w.alloc (.cells #[] e)).ownsRow w.heap.size e 2 (.slice (some ⟨w.heap.size, 0, none⟩) 0 0) 0 (encT []) :=
  ⟨rfl, Or.inr ⟨w.heap.size, 0, #[], rfl, Nat.le_refl _, (MapKept.heap_alloc w _).1, Nat.le_refl _, Nat.zero_le _, by simp, by simp [encT]⟩⟩
end Go.Proofs.YtfipefbaabkdeaaGreatDoor
