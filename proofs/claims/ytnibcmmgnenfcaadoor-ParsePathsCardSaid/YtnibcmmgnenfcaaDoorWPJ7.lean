/- ParsePaths, over the contracts of parse.Formula and parse.Path. -/
import Derived.Test.YtnibcmmgnenfcaaDoorWPJ6
namespace Go.Proofs.YtnibcmmgnenfcaaDoor
open Go.RowKit Go.Maps

theorem Tryd.ppaths_any (hFm : ReadC 7 formL) (hPa : ReadC 9 pathL) (a : Option Addr) (len cap : Nat) (ad : Nat → Addr) (ss : List ByteArray) (r : ByteArray) (w : World) (hT : Tab w) (hN : StrSl Tryd.prog 22 w a len cap ad ss) :
    Calls Tryd.prog 5 #[.slice a len cap, .string r] w fun e w' => e = .returned (.bool true) ∧ Below w.heap.size w w' := by
  by_cases h1 : 300 < r.size
  · exact Tryd.ppaths_out hFm a len cap r w hT h1
  by_cases h3 : ((pathL (nms ss) r.toList).2.1, (pathL (nms ss) r.toList).2.2) = ((0 : Int), (0 : Int))
  · injection h3 with a1 a2
    exact Tryd.ppaths_ok hFm hPa a len cap ad ss r w hT hN (by omega) _ (Prod.ext rfl (Prod.ext a1 a2))
  · exact Tryd.ppaths_bad hFm hPa a len cap ad ss r w hT hN (by omega) h3
end Go.Proofs.YtnibcmmgnenfcaaDoor
