/- Package term's Bin and Put; cuts of lists of tokens. -/
import Derived.Test.YtbfhbpibpmgblaaWTe7
namespace Go.Proofs.Ytbfhbpibpmgblaa
open Go.RowKit Go.Maps

theorem Try.cut_to (x : Addr) (len cap hi : Nat) (h : hi ≤ cap) (w : World) : (Instr.sliceAt 29 (.slice (some x) len cap) none (some (.int .i64 (hi : Int))) none).run Try.prog w = .ok (.slice (some x) hi cap) w := by
  simp [Instr.sliceAt, Instr.slice, run_underlying Try.underlying29, sizeOf_run2 Try.sizeTok, go_sem, h]
theorem Try.cut_from (x : Addr) (len cap lo : Nat) (h : lo ≤ len) (w : World) : (Instr.sliceAt 29 (.slice (some x) len cap) (some (.int .i64 (lo : Int))) none none).run Try.prog w = .ok (.slice (some (if cap = lo then x else x.add (lo * 2))) (len - lo) (cap - lo)) w := by
  simp [Instr.sliceAt, Instr.slice, run_underlying Try.underlying29, sizeOf_run2 Try.sizeTok, go_sem, h]
  split <;> rfl
theorem Try.cut_lr (x : Addr) (len cap lo hi : Nat) (h : lo ≤ hi) (hc : hi ≤ cap) (w : World) : (Instr.sliceAt 29 (.slice (some x) len cap) (some (.int .i64 (lo : Int))) (some (.int .i64 (hi : Int))) none).run Try.prog w = .ok (.slice (some (if cap = lo then x else x.add (lo * 2))) (hi - lo) (cap - lo)) w := by
  simp [Instr.sliceAt, Instr.slice, run_underlying Try.underlying29, sizeOf_run2 Try.sizeTok, go_sem, h, hc]
  split <;> rfl
end Go.Proofs.Ytbfhbpibpmgblaa
