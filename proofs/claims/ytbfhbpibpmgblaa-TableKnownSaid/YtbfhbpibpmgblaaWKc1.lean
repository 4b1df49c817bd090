/- Package kernel: takes, is, said, the rules. -/
import Derived.Test.YtbfhbpibpmgblaaKnM
import Derived.Test.YtbfhbpibpmgblaaWTk
namespace Go.Proofs.Ytbfhbpibpmgblaa
open Go.RowKit Go.Maps

set_option maxHeartbeats 4000000 in
theorem Try.ktakes_any (op : Nat) (w : World) (hop : op ≤ 23) : Calls Try.prog 51 #[.int .u8 (op : Int)] w fun e w' => e = .returned (.int .i64 (takO op : Int)) ∧ w' = w := by
  rcases op_cases hop with rfl | rfl | rfl | rfl | rfl | rfl | rfl | rfl | rfl | rfl | rfl | rfl | rfl | rfl | rfl | rfl | rfl | rfl | rfl | rfl | rfl | rfl | rfl | rfl <;>
  · go_enter Try.func51, Try.ntmps51
    go_wp2
    go_ret
    exact ⟨rfl, rfl⟩
theorem Try.kis_any (k : Nat) (w : World) (hk : k ≤ 2) : Calls Try.prog 53 #[.int .u8 (k : Int), .int .u8 0] w fun e w' => e = .returned (.bool (isN k 0)) ∧ w' = w := by
  have : k = 0 ∨ k = 1 ∨ k = 2 := by omega
  rcases this with rfl | rfl | rfl <;>
  · go_enter Try.func53, Try.ntmps53
    go_wp2
    go_ret
    exact ⟨rfl, rfl⟩
theorem Try.sizeOpU : (Try.prog.info? 47).map (·.size) = some 1 := by kernel_rfl
end Go.Proofs.Ytbfhbpibpmgblaa
