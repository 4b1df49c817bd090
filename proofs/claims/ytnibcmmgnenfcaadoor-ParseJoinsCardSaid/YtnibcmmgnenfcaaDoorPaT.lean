/- Plain: what Check tells of tokens put together. -/
import Derived.Test.YtnibcmmgnenfcaaDoorTermK
namespace Go.Proofs.YtnibcmmgnenfcaaDoor

theorem look_tree {t : Tr} (hw : t.WF) {want : Nat} (hk : isK (kindOf (t.part 0)) want = true) : lookE t.flat want = 0 ∨ lookE t.flat want = 3 ∨ lookE t.flat want = 8 := by
  unfold lookE
  split
  · exact Or.inr (Or.inl rfl)
  · rw [read_one.2 ⟨t, hw, rfl, rfl, rfl⟩]
    unfold lookOf
    simp only
    rw [if_pos hk]
    split
    · exact Or.inr (Or.inr rfl)
    · exact Or.inl rfl
/-- Two formulas and an operator of two formulas. -/
theorem look_two {a b : List Tk} (ha : lookE a 1 = 0) (hb : lookE b 1 = 0) {op : Nat} (h1 : 11 ≤ op) (h2 : op ≤ 16) : lookE (a ++ b ++ [(op, 0)]) 1 = 0 ∨ lookE (a ++ b ++ [(op, 0)]) 1 = 3 ∨ lookE (a ++ b ++ [(op, 0)]) 1 = 8 := by
  obtain ⟨_, c, hc, rfl, kc, _⟩ := lookE_zero.1 ha
  obtain ⟨_, d, hd, rfl, kd, _⟩ := lookE_zero.1 hb
  rw [kind_formula] at kc kd
  have hw : (Tr.bin (op, 0) c d).WF := by
    refine ⟨?_, ?_, hc, hd⟩
    · unfold takesN; rw [if_neg (by simp; omega), if_neg (by simp; omega), if_neg (by simp; omega)]
    · unfold fitsP
      rw [if_neg (by simp; omega), if_neg (by simp; omega), if_neg (by simp; omega), if_neg (by simp; omega)]
      simp at kc kd ⊢; exact ⟨kc, kd⟩
  refine look_tree hw ?_
  rw [kind_formula]
  show (!isPathB op) = true
  unfold isPathB; simp; omega
/-- A path, a formula, and the token that puts them together. -/
theorem look_modal {a b : List Tk} (ha : lookE a 3 = 0) (hb : lookE b 1 = 0) {op : Nat} (h : op = 17 ∨ op = 18) : lookE (a ++ b ++ [(op, 0)]) 1 = 0 ∨ lookE (a ++ b ++ [(op, 0)]) 1 = 3 ∨ lookE (a ++ b ++ [(op, 0)]) 1 = 8 := by
  obtain ⟨_, c, hc, rfl, kc, _⟩ := lookE_zero.1 ha
  obtain ⟨_, d, hd, rfl, kd, _⟩ := lookE_zero.1 hb
  rw [kind_formula] at kd
  rw [kind_path] at kc
  have hw : (Tr.bin (op, 0) c d).WF := by
    refine ⟨?_, ?_, hc, hd⟩
    · unfold takesN; rw [if_neg (by simp; omega), if_neg (by simp; omega), if_neg (by simp; omega)]
    · unfold fitsP
      rw [if_pos (by simpa using h)]
      simp at kd ⊢; exact ⟨kc, kd⟩
  refine look_tree hw ?_
  rw [kind_formula]
  show (!isPathB op) = true
  unfold isPathB; simp; omega
theorem look_true : lookE [(0, 0)] 1 = 0 := by decide
end Go.Proofs.YtnibcmmgnenfcaaDoor
