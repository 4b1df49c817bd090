/- ParseJoins, over the contract of parse.Formula. -/
import Derived.Test.YtnibcmmgnenfcaaDoorWPJ3
namespace Go.Proofs.YtnibcmmgnenfcaaDoor
open Go.RowKit Go.Maps

theorem Tryd.pjoins_any (hFm : ReadC 7 formL) (a : Option Addr) (len cap : Nat) (ad : Nat → Addr) (ss : List ByteArray) (sa sb : ByteArray) (k : Int) (w : World) (hT : Tab w) (hN : StrSl Tryd.prog 22 w a len cap ad ss) :
    Calls Tryd.prog 4 #[.slice a len cap, .string sa, .string sb, .int .i64 k] w fun e w' => e = .returned (.bool true) ∧ Below w.heap.size w w' := by
  by_cases h1 : 300 < sa.size
  · exact Tryd.pjoins_out hFm a len cap sa sb k w hT (Or.inl h1)
  by_cases h2 : 300 < sb.size
  · exact Tryd.pjoins_out hFm a len cap sa sb k w hT (Or.inr h2)
  by_cases h3 : ((formL (nms ss) sa.toList).2.1, (formL (nms ss) sa.toList).2.2) = ((0 : Int), (0 : Int))
  · by_cases h4 : ((formL (nms ss) sb.toList).2.1, (formL (nms ss) sb.toList).2.2) = ((0 : Int), (0 : Int))
    · injection h3 with a1 a2
      injection h4 with b1 b2
      exact Tryd.pjoins_ok hFm a len cap ad ss sa sb k w hT hN (by omega) (by omega) _ _ (Prod.ext rfl (Prod.ext a1 a2)) (Prod.ext rfl (Prod.ext b1 b2))
    · exact Tryd.pjoins_bad hFm a len cap ad ss sa sb k w hT hN (by omega) (by omega) (Or.inr h4)
  · exact Tryd.pjoins_bad hFm a len cap ad ss sa sb k w hT hN (by omega) (by omega) (Or.inl h3)
end Go.Proofs.YtnibcmmgnenfcaaDoor
