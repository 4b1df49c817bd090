/- Package term's Check and Path, for seats of later stages. -/
import Derived.Test.YtfojlondflachaaWTe4
namespace Go.Proofs.Ytfojlondflachaa
open Go.RowKit Go.Maps

theorem Try.tcheck_any (a : Option Addr) (len cap : Nat) (ts : List Tk) (w : World) (hT : TkSl w a len cap ts) :
    Calls Try.prog 34 #[.slice a len cap] w fun e w' => e = .returned (.int .i64 (lookE ts 1 : Int)) ∧ Below w.heap.size w w' := by
  have hl := fun w' (h : TkSl w' a len cap ts) => Try.look_any a len cap 1 ts w' h
  generalize lookE ts 1 = E at *
  go_enter Try.func34, Try.ntmps34
  go_wp2_with fail
  refine (hl _ hT).mono ?_
  rintro e w1 ⟨⟨v, rfl, _, _⟩, hw1⟩
  go_wp2
  go_ret
  exact ⟨rfl, hw1⟩
theorem Try.tpath_any (a : Option Addr) (len cap : Nat) (ts : List Tk) (w : World) (hT : TkSl w a len cap ts) :
    Calls Try.prog 40 #[.slice a len cap] w fun e w' => e = .returned (.int .i64 (lookE ts 3 : Int)) ∧ Below w.heap.size w w' := by
  have hl := fun w' (h : TkSl w' a len cap ts) => Try.look_any a len cap 3 ts w' h
  generalize lookE ts 3 = E at *
  go_enter Try.func40, Try.ntmps40
  go_wp2_with fail
  refine (hl _ hT).mono ?_
  rintro e w1 ⟨⟨v, rfl, _, _⟩, hw1⟩
  go_wp2
  go_ret
  exact ⟨rfl, hw1⟩
end Go.Proofs.Ytfojlondflachaa
