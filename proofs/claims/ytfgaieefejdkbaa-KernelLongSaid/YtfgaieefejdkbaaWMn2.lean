/- Stage 7's laws over the contracts of package mean (handed in): un, bin, alike, small, path. -/
import Derived.Test.YtfgaieefejdkbaaWMn1
import Derived.Test.YtfgaieefejdkbaaWTe8
import Derived.Test.YtfgaieefejdkbaaWTc
namespace Go.Proofs.Ytfgaieefejdkbaa
open Go.RowKit Go.Maps

/-- A list of letters, wherever it lies. -/
structure LtSl (w : World) (a : Option Addr) (len cap : Nat) (zs : List Int) : Prop where
  sl : IntSl Try.prog 39 .u8 w a len cap zs
  ok : ∀ z ∈ zs, 0 ≤ z ∧ z < 256
theorem LtSl.up {w w' : World} {a : Option Addr} {len cap : Nat} {zs : List Int} (h : LtSl w a len cap zs) (hb : Below w.heap.size w w') : LtSl w' a len cap zs := ⟨h.sl.up hb, h.ok⟩
def zN (zs : List Int) : List Nat := zs.map Int.toNat
theorem zN_len (zs : List Int) : (zN zs).length = zs.length := by simp [zN]
/-- letter.Trace's error, of 8 propositions. -/
def trE (zs : List Int) : Int := if 1024 < zs.length then 3 else 0
/-- What mean.All answers. -/
def AllR (ts : List Tk) (zs : List Int) (w : World) (e : Ending) (w' : World) : Prop :=
  ∃ v E, e = .returned (.tuple #[v, .int .i64 E]) ∧ Below w.heap.size w w' ∧
    ((E ≠ 0 ∧ (lookE ts 1 ≠ 0 ∧ E = (lookE ts 1 : Int) ∨ lookE ts 1 = 0 ∧ E = trE zs) ∧ v = .slice none 0 0) ∨ (E = 0 ∧ lookE ts 1 = 0 ∧ trE zs = 0 ∧ ∃ bs, w'.ownsRow w.heap.size 4 1 v bs.length (bs.map Value.bool) ∧ ValB (zN zs) ts bs))
def AllC (F : FuncId) : Prop :=
  ∀ (a : Option Addr) (len cap : Nat) (ts : List Tk) (b : Option Addr) (m c : Nat) (zs : List Int) (w : World), TkSl w a len cap ts → LtSl w b m c zs → Calls Try.prog F #[.slice a len cap, .slice b m c] w (AllR ts zs w)
/-- What un and bin answer. -/
def BuiltR (ts : List Tk) (w : World) (e : Ending) (w' : World) : Prop := ∃ a cap, e = .returned (.slice a ts.length cap) ∧ TkSl w' a ts.length cap ts ∧ Below w.heap.size w w'
end Go.Proofs.Ytfgaieefejdkbaa
