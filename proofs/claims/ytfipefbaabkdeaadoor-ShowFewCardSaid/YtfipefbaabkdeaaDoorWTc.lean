/- Package term's Check and Path, for seats of later stages. -/
import Derived.Test.YtfipefbaabkdeaaDoorWTe4
namespace Go.Proofs.YtfipefbaabkdeaaDoor
open Go.RowKit Go.Maps

theorem Tryd.tcheck_any (a : Option Addr) (len cap : Nat) (ts : List Tk) (w : World) (hT : TkSl w a len cap ts) :
    Calls Tryd.prog 15 #[.slice a len cap] w fun e w' => e = .returned (.int .i64 (lookE ts 1 : Int)) ∧ Below w.heap.size w w' := by
  have hl := fun w' (h : TkSl w' a len cap ts) => Tryd.look_any a len cap 1 ts w' h
  generalize lookE ts 1 = E at *
  go_enter Tryd.func15, Tryd.ntmps15
  go_wp2_with fail
  refine (hl _ hT).mono ?_
  rintro e w1 ⟨⟨v, rfl, _, _⟩, hw1⟩
  go_wp2
  go_ret
  exact ⟨rfl, hw1⟩
theorem Tryd.tpath_any (a : Option Addr) (len cap : Nat) (ts : List Tk) (w : World) (hT : TkSl w a len cap ts) :
    Calls Tryd.prog 19 #[.slice a len cap] w fun e w' => e = .returned (.int .i64 (lookE ts 3 : Int)) ∧ Below w.heap.size w w' := by
  have hl := fun w' (h : TkSl w' a len cap ts) => Tryd.look_any a len cap 3 ts w' h
  generalize lookE ts 3 = E at *
  go_enter Tryd.func19, Tryd.ntmps19
  go_wp2_with fail
  refine (hl _ hT).mono ?_
  rintro e w1 ⟨⟨v, rfl, _, _⟩, hw1⟩
  go_wp2
  go_ret
  exact ⟨rfl, hw1⟩
end Go.Proofs.YtfipefbaabkdeaaDoor
