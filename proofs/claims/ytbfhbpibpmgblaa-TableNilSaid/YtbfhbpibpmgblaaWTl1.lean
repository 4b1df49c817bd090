/- The law's own helpers: T, Op, awake. -/
import Derived.Test.YtbfhbpibpmgblaaWTe9
import Derived.Test.YtbfhbpibpmgblaaWTs
namespace Go.Proofs.Ytbfhbpibpmgblaa
open Go.RowKit Go.Maps

def tokOf (z : Int) : Tk := if z < 100 then (2, z.toNat) else ((z - 100).toNat, 0)
theorem tokOf_ok {z : Int} (h0 : 0 ≤ z) (h1 : z < 356) : (tokOf z).1 < 256 ∧ (tokOf z).2 < 256 := by
  unfold tokOf; split
  · exact ⟨by dsimp only; omega, by dsimp only; omega⟩
  · exact ⟨by dsimp only; omega, by dsimp only; omega⟩
def awTs : List Tk := [(2, 0), (19, 0), (23, 0), (2, 1), (17, 0)]
theorem aw_look : lookE awTs 4 = 0 ∧ lookE awTs 1 = 0 ∧ (allP awTs).map (fun p => (p.frm : Int)) = [0, 0, 0, 3, 0] ∧ (allP awTs).map (fun p => (p.dep : Int)) = [1, 2, 3, 1, 4] := by decide
end Go.Proofs.Ytbfhbpibpmgblaa
