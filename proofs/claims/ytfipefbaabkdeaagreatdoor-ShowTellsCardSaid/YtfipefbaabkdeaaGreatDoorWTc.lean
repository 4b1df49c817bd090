/- Package term's Check and Path, for seats of later stages. -/
import Derived.Test.YtfipefbaabkdeaaGreatDoorWTe4
namespace Go.Proofs.YtfipefbaabkdeaaGreatDoor
open Go.RowKit Go.Maps

theorem Tryz.tcheck_any (a : Option Addr) (len cap : Nat) (ts : List Tk) (w : World) (hT : TkSl w a len cap ts) :
    Calls Tryz.prog 14 #[.slice a len cap] w fun e w' => e = .returned (.int .i64 (lookE ts 1 : Int)) ∧ Below w.heap.size w w' := by
  have hl := fun w' (h : TkSl w' a len cap ts) => Tryz.look_any a len cap 1 ts w' h
  generalize lookE ts 1 = E at *
  go_enter Tryz.func14, Tryz.ntmps14
  go_wp2_with fail
  refine (hl _ hT).mono ?_
  rintro e w1 ⟨⟨v, rfl, _, _⟩, hw1⟩
  go_wp2
  go_ret
  exact ⟨rfl, hw1⟩
theorem Tryz.tpath_any (a : Option Addr) (len cap : Nat) (ts : List Tk) (w : World) (hT : TkSl w a len cap ts) :
    Calls Tryz.prog 18 #[.slice a len cap] w fun e w' => e = .returned (.int .i64 (lookE ts 3 : Int)) ∧ Below w.heap.size w w' := by
  have hl := fun w' (h : TkSl w' a len cap ts) => Tryz.look_any a len cap 3 ts w' h
  generalize lookE ts 3 = E at *
  go_enter Tryz.func18, Tryz.ntmps18
  go_wp2_with fail
  refine (hl _ hT).mono ?_
  rintro e w1 ⟨⟨v, rfl, _, _⟩, hw1⟩
  go_wp2
  go_ret
  exact ⟨rfl, hw1⟩
end Go.Proofs.YtfipefbaabkdeaaGreatDoor
