/- Texts of the proof, put together: what it uses. -/
import Derived.Test.YtohbphocfkgdcaaZ11
set_option maxRecDepth 100000
set_option maxHeartbeats 16000000
namespace Go.Proofs.Ytohbphocfkgdcaa
open Go.RowKit Go.Maps Go.Sort
theorem q16 (m v : Nat) (w : World) (hm : m < 256) (hv : v < 256) : Calls Try.prog 4 #[.int .u8 (m : Int),.int .u8 (v : Int)] w fun e w' => e = .returned (.bool true) ∧ Below w.heap.size w w' :=
 q1h q10 m v w hm hv
theorem q1e (p : Int) (aA : Option Addr) (nA cA : Nat) (aG : Option Addr) (nG cG : Nat) (aN : Option Addr) (nN cN : Nat) (bs : List Bool) (gs : List Int) (N : List Gd) (x : Nat) (q : Int) (w : World) (hB : BoSl w aA nA cA bs) (hG : ZSl w aG nG cG gs) (hN : NdSl w aN nN cN N) (hok : ∀ z ∈ gs,I64 z) (hx : x < 256) :
  Calls Try.prog 5 #[.agg #[.int .i64 p,.slice aA nA cA,.slice aG nG cG,.slice aN nN cN],.int .u8 (x : Int),.int .i64 q] w fun e w' => e = .returned (.bool true) ∧ Below w.heap.size w w' :=
 q1z q10 p aA nA cA aG nG cG aN nN cN bs gs N x q w hB hG hN hok hx
theorem q15 (w : World) : Calls Try.prog 6 #[] w fun e w' => e = .returned (.bool true) ∧ Below w.heap.size w w' :=
 q1g q10 q2V w
end Go.Proofs.Ytohbphocfkgdcaa
