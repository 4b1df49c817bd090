/- Texts of the proof, put together: what it uses. -/
import Derived.Deep.DeepCutAuto
import Derived.Deep.RegionHeld3
import Derived.BigQuiet
import Derived.Test.YthhbhadcjofelaaZ02
import Derived.Test.YthhbhadcjofelaaZ04
set_option maxRecDepth 100000
set_option maxHeartbeats 16000000
namespace Go.Proofs.Ythhbhadcjofelaa
open Go.RowKit Go.Maps
def isB (m : Nat) (r : Int) : Bool := decide (r < 0) && decide (-1 - r < (m : Int))
theorem qQ (p0 : Int) (aA : Option Addr) (nA cA : Nat) (aG : Option Addr) (nG cG : Nat) (aN : Option Addr) (nN cN : Nat) (r : Int) (w : World) (hr : I64 r) :
  Calls Try.prog 99 #[.agg #[.int .i64 p0,.slice aA nA cA,.slice aG nG cG,.slice aN nN cN],.int .i64 r] w fun e w' => e = .returned (.bool (isB nA r)) ∧ Below w.heap.size w w' := by
 have HB0 : Hid _ := qb w (.cells #[.int .i64 p0,.slice aA nA cA,.slice aG nG cG,.slice aN nN cN] 26 (0,0))
 obtain ⟨c0,c1,c2,c3⟩ := qj w p0 aA nA cA aG nG cG aN nN cN
 have HE : Hid (∀ nq,Below w.heap.size w ((w.alloc (.cells #[.int .i64 p0,.slice aA nA cA,.slice aG nG cG,.slice aN nN cN] 26 (0,0))).drewN nq)) := fun nq => below_drewN HB0.out nq
 obtain ⟨b,hb⟩ : ∃ b,b = isB nA r := ⟨_,rfl⟩
 rw [← hb]
 have jq := fun w => (q1m r w hr).mono (fun e w' h => (⟨h.1,0,h.2⟩ : e = .returned (.int .i64 (-1 - r)) ∧ ∃ n,w' = w.drewN n))
 have h0 := hr.1
 have h1 := hr.2
 clear hr
 by_cases hn : r < 0
 ·have d0 : decide (r < 0) = true := by simpa using hn
  have HX : Hid (b = decide (-1 - r < (nA : Int))) := by show _ = _; rw [hb]; simp [isB,hn]
  clear hb hn
  go_enter Try.func99,Try.ntmps99
  go_upto_region 15 with fail
  go_quiet ((go_at_call 106; exact Calls.quiet_of (jq _)))
  go_wp2
  go_ret
  exact ⟨by rw [HX.out]; rfl,HE.out _⟩
 ·have d0 : decide (r < 0) = false := by simpa using hn
  have HX : Hid (b = false) := by show _ = _; rw [hb]; simp [isB,hn]
  clear hb hn
  go_enter Try.func99,Try.ntmps99
  go_upto_region 15 with fail
  go_quiet (fail)
  go_wp2
  go_ret
  exact ⟨by rw [HX.out]; rfl,HE.out _⟩
end Go.Proofs.Ythhbhadcjofelaa
