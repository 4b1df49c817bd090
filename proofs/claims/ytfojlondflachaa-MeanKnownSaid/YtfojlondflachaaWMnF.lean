/- Stage 7's laws over the landed package mean. -/
import Derived.Test.YtfojlondflachaaWMmM
import Derived.Test.YtfojlondflachaaWMn4
import Derived.Test.YtfojlondflachaaWMn5
import Derived.Test.YtfojlondflachaaWMn6
namespace Go.Proofs.Ytfojlondflachaa
open Go.RowKit Go.Maps

theorem Try.aw_fin (w : World) : Calls Try.prog 24 #[] w fun e w' => e = .returned (.bool true) ∧ Below w.heap.size w w' := Try.mawake_any Try.mAll_any Try.mEnds_any w
theorem Try.duals_fin (a : Option Addr) (la ca : Nat) (xa : List Tk) (b : Option Addr) (lb cb : Nat) (xb : List Tk) (d : Option Addr) (m c : Nat) (zs : List Int) (w : World) (hA : TkSl w a la ca xa) (hB : TkSl w b lb cb xb) (hL : IntSl Try.prog 23 .u8 w d m c zs) (hz : ∀ z ∈ zs, 0 ≤ z ∧ z < 256) (_ : c ≤ 140737488351232) :
    Calls Try.prog 4 #[.slice a la ca, .slice b lb cb, .slice d m c] w fun e w' => e = .returned (.bool true) ∧ Below w.heap.size w w' :=
  Try.duals_any Try.mAll_any Try.aw_fin a la ca xa b lb cb xb d m c zs w hA hB ⟨hL, hz⟩
theorem Try.cut_fin (a : Option Addr) (la ca : Nat) (xa : List Tk) (d : Option Addr) (m c : Nat) (zs : List Int) (i : Int) (w : World) (hA : TkSl w a la ca xa) (hL : IntSl Try.prog 23 .u8 w d m c zs) (hz : ∀ z ∈ zs, 0 ≤ z ∧ z < 256) (_ : c ≤ 140737488351232) :
    Calls Try.prog 6 #[.slice a la ca, .slice d m c, .int .i64 i] w fun e w' => e = .returned (.bool true) ∧ Below w.heap.size w w' :=
  Try.mcut_any Try.mAll_any Try.aw_fin a la ca xa d m c zs i w hA ⟨hL, hz⟩
end Go.Proofs.Ytfojlondflachaa
