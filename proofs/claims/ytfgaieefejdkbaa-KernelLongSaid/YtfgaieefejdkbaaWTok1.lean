/- The document's tokens: how many parts a token takes; which put a path; which are of letters alone. -/
import Derived.Test.YtfgaieefejdkbaaKGen
import Derived.Test.YtfgaieefejdkbaaTermM
namespace Go.Proofs.Ytfgaieefejdkbaa
open Go.RowKit Go.Maps

def takesI (t : Tk) : Int := match takesN t with | none => -1 | some n => (n : Int)

theorem Try.isPath_any (op : Nat) (w : World) :
    Calls Try.prog 67 #[.int .u8 (op : Int)] w fun e w' => e = .returned (.bool (isPathB op)) ∧ w' = w := by
  by_cases h : 19 ≤ op
  · have HX : Hid (isPathB op = true) := decide_eq_true h
    have h1 : (19 : Int) ≤ (op : Int) := by omega
    go_enter Try.func67, Try.ntmps67
    go_wp2
    go_ret
    exact ⟨by rw [HX.out]; rfl, rfl⟩
  · have HX : Hid (isPathB op = false) := decide_eq_false h
    have h1 : decide ((19 : Int) ≤ (op : Int)) = false := decide_eq_false (by omega)
    go_enter Try.func67, Try.ntmps67
    go_wp2
    go_ret
    exact ⟨by rw [HX.out]; rfl, rfl⟩
set_option maxHeartbeats 1000000 in
theorem Try.plainOp_any (op : Nat) (w : World) (hop : op ≤ 23) :
    Calls Try.prog 68 #[.int .u8 (op : Int)] w fun e w' => e = .returned (.bool (plainB op)) ∧ w' = w := by
  rcases op_cases hop with rfl | rfl | rfl | rfl | rfl | rfl | rfl | rfl | rfl | rfl | rfl | rfl | rfl | rfl | rfl | rfl | rfl | rfl | rfl | rfl | rfl | rfl | rfl | rfl <;>
  · go_enter Try.func68, Try.ntmps68
    go_wp2
    go_ret
    exact ⟨rfl, rfl⟩
set_option maxHeartbeats 4000000 in
theorem Try.takes_small (op p : Nat) (w : World) (hop : op ≤ 23) (hp : p < 256) :
    Calls Try.prog 53 #[.agg #[.int .u8 (op : Int), .int .u8 (p : Int)]] w fun e w' => e = .returned (.int .i64 (takesI (op, p))) ∧ Below w.heap.size w w' := by
  by_cases h2 : op = 2
  · subst h2
    by_cases hp7 : 7 < p
    · have HX : Hid (takesI (2, p) = -1) := by show _ = _; simp [takesI, takesN, hp7]
      have h7 : (7 : Int) < (p : Int) := by omega
      go_enter Try.func53, Try.ntmps53
      go_wp2
      go_ret
      exact ⟨by rw [HX.out]; rfl, below_new _ _⟩
    · have HX : Hid (takesI (2, p) = 0) := by show _ = _; simp [takesI, takesN, hp7]
      have h7 : decide ((7 : Int) < (p : Int)) = false := decide_eq_false (by omega)
      go_enter Try.func53, Try.ntmps53
      go_wp2
      go_ret
      exact ⟨by rw [HX.out]; rfl, below_new _ _⟩
  · by_cases hp0 : p = 0
    · subst hp0
      rcases op_cases hop with rfl | rfl | rfl | rfl | rfl | rfl | rfl | rfl | rfl | rfl | rfl | rfl | rfl | rfl | rfl | rfl | rfl | rfl | rfl | rfl | rfl | rfl | rfl | rfl <;>
      first
      | exact absurd rfl h2
      | (go_enter Try.func53, Try.ntmps53
         go_wp2
         go_ret
         exact ⟨rfl, below_new _ _⟩)
    · have HX : Hid (takesI (op, p) = -1) := by show _ = _; simp [takesI, takesN, h2, hp0]
      have h3 : ((op : Int) != 2) = true := by simp; omega
      have h4 : ((p : Int) != 0) = true := by simp; omega
      have h5 : decide ((23 : Int) < (op : Int)) = false := decide_eq_false (by omega)
      go_enter Try.func53, Try.ntmps53
      go_wp2
      go_ret
      exact ⟨by rw [HX.out]; rfl, below_new _ _⟩
theorem Try.takes_any (op p : Nat) (w : World) (hp : p < 256) :
    Calls Try.prog 53 #[.agg #[.int .u8 (op : Int), .int .u8 (p : Int)]] w fun e w' => e = .returned (.int .i64 (takesI (op, p))) ∧ Below w.heap.size w w' := by
  by_cases hop : op ≤ 23
  · exact Try.takes_small op p w hop hp
  · have HX : Hid (takesI (op, p) = -1) := by show _ = _; unfold takesI takesN; rw [if_pos (Or.inl (by omega))]
    have h5 : (23 : Int) < (op : Int) := by omega
    go_enter Try.func53, Try.ntmps53
    go_wp2
    go_ret
    exact ⟨by rw [HX.out]; rfl, below_new _ _⟩
end Go.Proofs.Ytfgaieefejdkbaa
