/- Stage 10's laws: small. -/
import Derived.Test.YtllcjmaecgfijaaDoorWSe2
namespace Go.Proofs.YtllcjmaecgfijaaDoor
open Go.RowKit Go.Maps

abbrev slV (x : Option Addr × Nat × Nat) : Value := .slice x.1 x.2.1 x.2.2
def smB (ls : List (Option Addr × Nat × Nat)) : Bool := ls.all fun x => decide (x.2.1 ≤ 9)
theorem smB_no {ls : List (Option Addr × Nat × Nat)} {k : Nat} (hk : k < ls.length) (h : ¬ (ls[k]'hk).2.1 ≤ 9) : smB ls = false := by
  unfold smB
  rw [List.all_eq_false]
  exact ⟨ls[k], List.getElem_mem hk, by simpa using h⟩
theorem smB_yes {ls : List (Option Addr × Nat × Nat)} (h : ∀ k (hk : k < ls.length), (ls[k]'hk).2.1 ≤ 9) : smB ls = true := by
  unfold smB
  rw [List.all_eq_true]
  intro x hx
  obtain ⟨k, hk, rfl⟩ := List.getElem_of_mem hx
  simpa using h k hk
theorem Tryd.sizeSl : (Tryd.prog.info? 25).map (·.size) = some 1 := by kernel_rfl
end Go.Proofs.YtllcjmaecgfijaaDoor
