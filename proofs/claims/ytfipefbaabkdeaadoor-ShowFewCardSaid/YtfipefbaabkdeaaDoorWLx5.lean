/- The document's first word. -/
import Derived.Test.YtfipefbaabkdeaaDoorWLx4
namespace Go.Proofs.YtfipefbaabkdeaaDoor
open Go.RowKit Go.Maps

theorem ext_list (s : ByteArray) (f i : Nat) : (s.extract f i).toList = (s.toList.drop f).take (i - f) := by
  rw [ByteArray.toList_eq, ByteArray.toList_eq, Lib.extract_data]
theorem ext0 (s : ByteArray) (k : Nat) : (s.extract 0 k).toList = s.toList.take k := by rw [ext_list, List.drop_zero, Nat.sub_zero]
theorem sgR_len : ∀ x ∈ sgR, x.length ≤ 1000 := by decide
theorem pre_of_ext {x s : ByteArray} (h : ((s.extract 0 x.size).toList == x.toList) = true) : pre x.toList s.toList = true := by
  rw [ext0] at h; unfold pre; rw [tl_len]; simp at h ⊢; exact h.symm
theorem pre_not_ext {x s : ByteArray} (h : ((s.extract 0 x.size).toList == x.toList) = false) : pre x.toList s.toList = false := by
  rw [ext0] at h; unfold pre; rw [tl_len]; simp at h ⊢; exact fun e => h e.symm
theorem hit_here {s : Bytes} {ss : List Bytes} {k : Nat} {a : Bytes} (h : ss[k]? = some a) (hp : pre a s = true) : hitGo s (ss.drop k) = a := by
  obtain ⟨hk, e⟩ := List.getElem?_eq_some_iff.1 h
  rw [List.drop_eq_getElem_cons hk, e]; unfold hitGo; rw [if_pos hp]
theorem hit_next {s : Bytes} {ss : List Bytes} {k : Nat} {a : Bytes} (h : ss[k]? = some a) (hp : pre a s = false) : hitGo s (ss.drop k) = hitGo s (ss.drop (k + 1)) := by
  obtain ⟨hk, e⟩ := List.getElem?_eq_some_iff.1 h
  rw [List.drop_eq_getElem_cons hk, e]
  conv => lhs; unfold hitGo
  rw [if_neg (by rw [hp]; simp)]

end Go.Proofs.YtfipefbaabkdeaaDoor
