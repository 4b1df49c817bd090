/- Plain: the chapter's examples (guard), by the kernel. -/
import Derived.Test.YtmnkkknkmbldhaaGdQ
namespace Go.Proofs.Ytmnkkknkmbldhaa

def gdN1 : List Gd := [(0, -1, -2)]
def gdN2 : List Gd := [(0, -1, -2), (1, -1, -2)]
def gdN4 : List Gd := [(0, -1, -2), (1, -1, -2), (1, -2, -1), (0, 1, 2)]
theorem gk1 : addG 2 [] [5, 5, 5, 5] = ((-6, 0), []) := by decide
theorem gk2 : addG 2 [] [0, 1, 0, 1] = ((0, 0), gdN1) := by decide
theorem gk3 : addG 2 gdN1 [0, 0, 1, 1] = ((1, 0), gdN2) := by decide
theorem gk4 : addG 2 gdN2 [0, 1, 1, 0] = ((3, 0), gdN4) := by decide
theorem gk5 : addG 2 gdN4 [0, 0, 0] = ((0, 2), gdN4) := by decide
theorem gk6 : addG 2 gdN4 [0, 0, 0, -1] = ((0, 2), gdN4) := by decide
theorem gk7 : goG gdN4 3 8 3 = some 0 := by decide
theorem gk8 : goG gdN4 1 8 3 = some 1 := by decide
theorem gk9 : goG gdN4 0 8 9 = none := by decide
theorem gkA : tabT gdN4 1 (2 ^ 2) = some [0, 0, 1, 1] := by decide
theorem gkB : MayG 0 1 [] [-1] := ⟨by omega, by omega, by omega, by omega, rfl, by simp, fun i P lo hi e => by simp at e, by simp, fun g hg => by simp at hg; subst hg; exact .inl ⟨by omega, by omega⟩⟩
theorem gkC : ¬ MayG 0 1 [] [0] := fun h => by
  rcases h.gd 0 (by simp) with ⟨h1, _⟩ | ⟨i, _, hi, _⟩
  · omega
  · simp at hi
end Go.Proofs.Ytmnkkknkmbldhaa
