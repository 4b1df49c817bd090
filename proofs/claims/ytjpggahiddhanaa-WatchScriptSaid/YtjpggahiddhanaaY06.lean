/- Texts of the proof, put together: what it uses. -/
import Derived.Deep.DeepCutAuto
import Derived.Deep.RegionHeld3
import Derived.BigQuiet
import Derived.Deep.RegionLaw
import Derived.Test.YtjpggahiddhanaaY04
import Derived.Test.YtjpggahiddhanaaY05
set_option maxRecDepth 100000
set_option maxHeartbeats 16000000
namespace Go.Proofs.Ytjpggahiddhanaa
open Go.RowKit Go.Maps
def isB (m : Nat) (r : Int) : Bool := decide (r < 0) && decide (-1 - r < (m : Int))
theorem qN (p0 : Int) (aA : Option Addr) (nA cA : Nat) (aG : Option Addr) (nG cG : Nat) (aN : Option Addr) (nN cN : Nat) (r : Int) (w : World) (hr : I64 r) :
  Calls Try.prog 78 #[.agg #[.int .i64 p0,.slice aA nA cA,.slice aG nG cG,.slice aN nN cN],.int .i64 r] w fun e w' => e = .returned (.bool (isB nA r)) ∧ Below w.heap.size w w' := by
 have HB0 : Hid _ := q7 w (.cells #[.int .i64 p0,.slice aA nA cA,.slice aG nG cG,.slice aN nN cN] 26 (0,0))
 obtain ⟨c0,c1,c2,c3⟩ := qe w p0 aA nA cA aG nG cG aN nN cN
 have HE : Hid (∀ nq,Below w.heap.size w ((w.alloc (.cells #[.int .i64 p0,.slice aA nA cA,.slice aG nG cG,.slice aN nN cN] 26 (0,0))).drewN nq)) := fun nq => below_drewN HB0.out nq
 obtain ⟨b,hb⟩ : ∃ b,b = isB nA r := ⟨_,rfl⟩
 rw [← hb]
 have jq := fun w => (q1n r w hr).mono (fun e w' h => (⟨h.1,0,h.2⟩ : e = .returned (.int .i64 (-1 - r)) ∧ ∃ n,w' = w.drewN n))
 have h0 := hr.1
 have h1 := hr.2
 clear hr
 by_cases hn : r < 0
 ·have d0 : decide (r < 0) = true := by simpa using hn
  have HX : Hid (b = decide (-1 - r < (nA : Int))) := by show _ = _; rw [hb]; simp [isB,hn]
  clear hb hn
  go_enter Try.func78,Try.ntmps78
  go_upto_region 15 with fail
  go_quiet ((go_at_call 75; exact Calls.quiet_of (jq _)))
  go_wp2
  go_ret
  exact ⟨by rw [HX.out]; rfl,HE.out _⟩
 ·have d0 : decide (r < 0) = false := by simpa using hn
  have HX : Hid (b = false) := by show _ = _; rw [hb]; simp [isB,hn]
  clear hb hn
  go_enter Try.func78,Try.ntmps78
  go_upto_region 15 with fail
  go_quiet (fail)
  go_wp2
  go_ret
  exact ⟨by rw [HX.out]; rfl,HE.out _⟩
theorem q1R {w : World} {base e size n m : Nat} {v : Value} {xs : List Value} (h : w.ownsRow base e size v n xs) (hm : m ≤ n) :
  ∃ a cap,v = .slice a n cap ∧ n ≤ cap ∧ cap ≤ maxLen ∧ (a = none → cap = 0) ∧ w.ownsRow base e size (.slice a m cap) m (xs.take (m * size)) ∧ (Value.slice a m cap).ownBlock = v.ownBlock := by
 obtain ⟨hl,h⟩ := h
 have hms : m * size ≤ n * size := Nat.mul_le_mul_right _ hm
 rcases h with ⟨rfl,rfl⟩ | ⟨g,cap,cur,rfl,hg,hcell,hnc,hcm,hsz,htk⟩
 ·obtain rfl : m = 0 := by omega
  exact ⟨none,0,rfl,Nat.le_refl _,Nat.zero_le _,fun _ => rfl,⟨by simp,Or.inl ⟨rfl,rfl⟩⟩,rfl⟩
 ·refine ⟨some ⟨g,0,none⟩,cap,rfl,hnc,hcm,fun h => (by cases h),⟨by simp; omega,Or.inr ⟨g,cap,cur,rfl,hg,hcell,by omega,hcm,hsz,?_⟩⟩,rfl⟩
  rw [← htk,List.take_take,Nat.min_eq_left hms]
end Go.Proofs.Ytjpggahiddhanaa
