/- Stage 8's laws over the landed packages kernel and mean. -/
import Derived.Test.YtfgaieefejdkbaaKcM
import Derived.Test.YtfgaieefejdkbaaWMmL
import Derived.Test.YtfgaieefejdkbaaWKl3
import Derived.Test.YtfgaieefejdkbaaWKl4
namespace Go.Proofs.Ytfgaieefejdkbaa
open Go.RowKit Go.Maps

theorem Try.kmeans_fin (a : Option Addr) (la ca : Nat) (xs : List Tk) (d : Option Addr) (m c : Nat) (zs : List Int) (w : World) (hA : TkSl w a la ca xs) (hL : IntSl Try.prog 39 .u8 w d m c zs) (hz : ∀ z ∈ zs, 0 ≤ z ∧ z < 256) (_ : c ≤ 140737488351232) :
    Calls Try.prog 5 #[.slice a la ca, .slice d m c] w fun e w' => e = .returned (.bool true) ∧ Below w.heap.size w w' :=
  Try.kmeans_any Try.kof_any Try.kneg_any Try.kchk_any Try.mAll_any a la ca xs d m c zs w hA ⟨hL, hz⟩
theorem Try.kagain_fin (a : Option Addr) (la ca : Nat) (xs : List Tk) (w : World) (hA : TkSl w a la ca xs) :
    Calls Try.prog 6 #[.slice a la ca] w fun e w' => e = .returned (.bool true) ∧ Below w.heap.size w w' :=
  Try.kagain_any Try.kof_any Try.kneg_any Try.ksize_any a la ca xs w hA
end Go.Proofs.Ytfgaieefejdkbaa
