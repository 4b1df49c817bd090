/- The words of a text: the document's Words. -/
import Derived.Test.YtfipefbaabkdeaaDoorWWd
import Derived.OwnWalk
namespace Go.Proofs.YtfipefbaabkdeaaDoor
open Go.RowKit Go.Maps

theorem sortL_le (s : Bytes) : (sortL s).1 ≤ 2 := by
  unfold sortL
  repeat' split
  all_goals simp
theorem extE (s : ByteArray) (k : Nat) : (s.extract k s.size).toList = s.toList.drop k := by
  rw [ext_list, List.take_of_length_le]; rw [List.length_drop, tl_len]; exact Nat.le_refl _
theorem ext_size (s : ByteArray) (k : Nat) : (s.extract k s.size).size = s.size - k := by rw [← tl_len, extE, List.length_drop, tl_len]
theorem fst_len {s : ByteArray} {k : Nat} (h : k ≤ s.size) : k + (mkB (firstL (s.toList.drop k))).size ≤ s.size := by
  have := first_le (s.toList.drop k)
  rw [List.length_drop, tl_len] at this
  rw [mkB_size]; omega
/-- A word at place k. -/
def wdAt (s : Bytes) (k : Nat) : Wd := ⟨(sortL (firstL (s.drop k))).1, mkB (firstL (s.drop k)), k⟩
theorem wdAt_ok {s : ByteArray} {k : Nat} (h : k ≤ s.size) (h4 : s.size ≤ 4096) : (wdAt s.toList k).Ok := by
  have h1 := fst_len h
  have h2 := sortL_le (firstL (s.toList.drop k))
  refine ⟨?_, ?_, ?_⟩
  · show (sortL _).1 < 256; omega
  · show (mkB _).size ≤ _; unfold maxLen; omega
  · show _ ≤ (k : Int) ∧ (k : Int) < _; omega
theorem byte32 {b : UInt8} (h : ((b.toNat : Int) == 32) = true) : b = 32 := by
  have : b.toNat = 32 := by simp at h; omega
  exact UInt8.toNat_inj.1 this
theorem byteNe {b : UInt8} (h : ((b.toNat : Int) == 32) = false) : b ≠ 32 := by
  intro e; subst e; simp at h
theorem wordsL_long {s : Bytes} (h : 4096 < s.length) : wordsL s = ([], 3, -1) := by unfold wordsL; rw [if_pos h]
theorem wordsL_ok {s : Bytes} {l : List Wd} (h : ¬ 4096 < s.length) (hw : wat s 0 = .ok l) : wordsL s = (l, 0, 0) := by unfold wordsL; rw [if_neg h, hw]
theorem wordsL_bad {s : Bytes} {p : Nat} (h : ¬ 4096 < s.length) (hw : wat s 0 = .error p) : wordsL s = ([], 140, (p : Int)) := by unfold wordsL; rw [if_neg h, hw]
theorem own_nil (w : World) (e : TypeId) : w.ownsRow w.heap.size e 3 (.slice none 0 0) 0 (encW []) := ⟨rfl, Or.inl ⟨rfl, rfl⟩⟩
theorem own_nil' (w : World) (b : Nat) (e : TypeId) : w.ownsRow b e 3 (.slice none 0 0) 0 (encW []) := ⟨rfl, Or.inl ⟨rfl, rfl⟩⟩

end Go.Proofs.YtfipefbaabkdeaaDoor
