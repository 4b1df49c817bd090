/- Package term's Check and Path, for seats of later stages. -/
import Derived.Test.YtfgaieefejdkbaaWTe4
namespace Go.Proofs.Ytfgaieefejdkbaa
open Go.RowKit Go.Maps

theorem Try.tcheck_any (a : Option Addr) (len cap : Nat) (ts : List Tk) (w : World) (hT : TkSl w a len cap ts) :
    Calls Try.prog 23 #[.slice a len cap] w fun e w' => e = .returned (.int .i64 (lookE ts 1 : Int)) ∧ Below w.heap.size w w' := by
  have hl := fun w' (h : TkSl w' a len cap ts) => Try.look_any a len cap 1 ts w' h
  generalize lookE ts 1 = E at *
  go_enter Try.func23, Try.ntmps23
  go_wp2_with fail
  refine (hl _ hT).mono ?_
  rintro e w1 ⟨⟨v, rfl, _, _⟩, hw1⟩
  go_wp2
  go_ret
  exact ⟨rfl, hw1⟩
end Go.Proofs.Ytfgaieefejdkbaa
