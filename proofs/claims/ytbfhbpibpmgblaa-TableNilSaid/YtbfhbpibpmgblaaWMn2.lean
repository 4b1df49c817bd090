/- Stage 7's laws over the contracts of package mean (handed in): un, bin, alike, small, path. -/
import Derived.Test.YtbfhbpibpmgblaaWMn1
import Derived.Test.YtbfhbpibpmgblaaWTe8
import Derived.Test.YtbfhbpibpmgblaaWTc
namespace Go.Proofs.Ytbfhbpibpmgblaa
open Go.RowKit Go.Maps

def zN (zs : List Int) : List Nat := zs.map Int.toNat
theorem zN_len (zs : List Int) : (zN zs).length = zs.length := by simp [zN]
/-- letter.Trace's error, of 8 propositions. -/
def trE (zs : List Int) : Int := if 1024 < zs.length then 3 else 0
/-- What mean.All answers. -/
def AllR (ts : List Tk) (zs : List Int) (w : World) (e : Ending) (w' : World) : Prop :=
  ∃ v E, e = .returned (.tuple #[v, .int .i64 E]) ∧ Below w.heap.size w w' ∧
    ((E ≠ 0 ∧ (lookE ts 1 ≠ 0 ∧ E = (lookE ts 1 : Int) ∨ lookE ts 1 = 0 ∧ E = trE zs) ∧ v = .slice none 0 0) ∨ (E = 0 ∧ lookE ts 1 = 0 ∧ trE zs = 0 ∧ ∃ bs, w'.ownsRow w.heap.size 4 1 v bs.length (bs.map Value.bool) ∧ ValB (zN zs) ts bs))
/-- What un and bin answer. -/
def BuiltR (ts : List Tk) (w : World) (e : Ending) (w' : World) : Prop := ∃ a cap, e = .returned (.slice a ts.length cap) ∧ TkSl w' a ts.length cap ts ∧ Below w.heap.size w w'
end Go.Proofs.Ytbfhbpibpmgblaa
