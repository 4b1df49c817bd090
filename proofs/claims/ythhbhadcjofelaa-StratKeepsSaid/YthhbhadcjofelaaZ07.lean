/- Texts of the proof, put together: what it uses. -/
import Derived.Lib.QuietBelow
import Derived.BigQuiet
import Derived.OwnWalk
import Derived.Deep.RegionLaw
import Derived.BigRegion
import Derived.Deep.WholeRow
import Derived.Laws.BitsAllLaws
import Derived.Maps.OwnSet
import Derived.Laws.Externs
import Derived.Test.YthhbhadcjofelaaZ00
import Derived.Test.YthhbhadcjofelaaZ01
import Derived.Test.YthhbhadcjofelaaZ02
import Derived.Test.YthhbhadcjofelaaZ04
import Derived.Test.YthhbhadcjofelaaZ05
import Derived.Test.YthhbhadcjofelaaZ06
set_option maxRecDepth 100000
set_option maxHeartbeats 16000000
namespace Go.Proofs.Ythhbhadcjofelaa
open Go.RowKit Go.Maps Go.Sort
theorem q2w {m : Nat} {N : List Gd} {a i : Nat} {p : Int} : fitB m N a p (i : Int) = (decide ((i : Int) < (a : Int)) && decide (p < (N.getD i (0,0,0)).1)) := by
 have h : ¬ (i : Int) < 0 := by omega
 unfold fitB; rw [if_neg h,Int.toNat_natCast]
theorem q4o {m : Nat} {N : List Gd} {a : Nat} {p r : Int} (h : r < 0) : fitB m N a p r = isB m r := by
 unfold fitB isB; rw [if_pos h,decide_eq_true h,Bool.true_and]
 by_cases h1 : -(m : Int) ≤ r
 ·rw [decide_eq_true h1,decide_eq_true (by omega)]
 ·rw [decide_eq_false h1,decide_eq_false (by omega)]
theorem q4s (m i : Nat) : isB m (i : Int) = false := by
 have h : ¬ (i : Int) < 0 := by omega
 unfold isB; rw [decide_eq_false h,Bool.false_and]
theorem q2g (p0 : Int) (aA : Option Addr) (nA cA : Nat) (aG : Option Addr) (nG cG : Nat) (aN : Option Addr) (nN cN : Nat) (N : List Gd) (at_ : Nat) (r : Int) (w : World) (hN : NdSl w aN nN cN N) (ha : at_ < nN) (hr : I64 r) :
  Calls Try.prog 107 #[.agg #[.int .i64 p0,.slice aA nA cA,.slice aG nG cG,.slice aN nN cN],.int .i64 (at_ : Int),.int .i64 r] w fun e w' => e = .returned (.bool (fitB nA N at_ (N.getD at_ (0,0,0)).1 r)) ∧ Below w.heap.size w w' := by
 have hcN := Nat.le_trans hN.hcap hN.bd
 unfold maxLen at hcN
 have HB0 : Hid _ := qb w (.cells #[.int .i64 p0,.slice aA nA cA,.slice aG nG cG,.slice aN nN cN] 26 (0,0))
 obtain ⟨c0,c1,c2,c3⟩ := qj w p0 aA nA cA aG nG cG aN nN cN
 have js := fun w => qQ p0 aA nA cA aG nG cG aN nN cN r w hr
 by_cases hn : r < 0
 ·rw [q4o hn]
  have d1 : decide (0 ≤ r) = false := by simpa using hn
  generalize isB nA r = b at *
  cases b with
  | true =>
   have k0 := cell_regrown c0
   have k1 := cell_regrown c1
   have k2 := cell_regrown c2
   have k3 := cell_regrown c3
   have cS : ∀ d os,Calls Try.prog 99 #[.agg #[.int .i64 p0,.slice aA nA cA,.slice aG nG cG,.slice aN nN cN],.int .i64 r] (grow (redrawn (w.alloc (.cells #[.int .i64 p0,.slice aA nA cA,.slice aG nG cG,.slice aN nN cN] 26 (0,0))) d) os) fun e w'' => e = .returned (.bool true) ∧ ∃ p : Regrown,w'' = grow (redrawn (w.alloc (.cells #[.int .i64 p0,.slice aA nA cA,.slice aG nG cG,.slice aN nN cN] 26 (0,0))) p.d) p.os := fun d os => Calls.regrown_of (js _)
   have HE : Hid (∀ d os,Below w.heap.size w (grow (redrawn (w.alloc (.cells #[.int .i64 p0,.slice aA nA cA,.slice aG nG cG,.slice aN nN cN] 26 (0,0))) d) os)) := fun d os => q9 HB0.out (below_regrown _ d os)
   go_enter Try.func107,Try.ntmps107
   go_wp2_with fail
   refine wp_region_quiet_below (by kernel_rfl) (by kernel_rfl) ?_
   repeat (go_big_quiet_step (exact cS _ _))
   refine wpQuiet_nil ?_
   intro _ hw'
   obtain ⟨⟨dq,osq⟩,hw''⟩ := hw'
   subst hw''
   go_wp2
   go_ret
   exact ⟨rfl,HE.out _ _⟩
  | false =>
   have k0 := cell_regrown c0
   have k1 := cell_regrown c1
   have k2 := cell_regrown c2
   have k3 := cell_regrown c3
   have cS : ∀ d os,Calls Try.prog 99 #[.agg #[.int .i64 p0,.slice aA nA cA,.slice aG nG cG,.slice aN nN cN],.int .i64 r] (grow (redrawn (w.alloc (.cells #[.int .i64 p0,.slice aA nA cA,.slice aG nG cG,.slice aN nN cN] 26 (0,0))) d) os) fun e w'' => e = .returned (.bool false) ∧ ∃ p : Regrown,w'' = grow (redrawn (w.alloc (.cells #[.int .i64 p0,.slice aA nA cA,.slice aG nG cG,.slice aN nN cN] 26 (0,0))) p.d) p.os := fun d os => Calls.regrown_of (js _)
   have HE : Hid (∀ d os,Below w.heap.size w (grow (redrawn (w.alloc (.cells #[.int .i64 p0,.slice aA nA cA,.slice aG nG cG,.slice aN nN cN] 26 (0,0))) d) os)) := fun d os => q9 HB0.out (below_regrown _ d os)
   go_enter Try.func107,Try.ntmps107
   go_wp2_with fail
   refine wp_region_quiet_below (by kernel_rfl) (by kernel_rfl) ?_
   repeat (go_big_quiet_step (exact cS _ _))
   refine wpQuiet_nil ?_
   intro _ hw'
   obtain ⟨⟨dq,osq⟩,hw''⟩ := hw'
   subst hw''
   go_wp2
   go_ret
   exact ⟨rfl,HE.out _ _⟩
 ·obtain ⟨i,rfl⟩ : ∃ i : Nat,r = (i : Int) := ⟨r.toNat,by omega⟩
  rw [q4s] at js
  have d1 : decide ((0 : Int) ≤ (i : Int)) = true := by simp
  by_cases hi : i < at_
  ·have hil : i < nN := by omega
   have hN1 := hN.up HB0.out
   obtain ⟨g1,o1,s1,hix1,x1,_,_,_,_,_⟩ := hN1.at Try.underlying24 qt i hil
   obtain ⟨g2,o2,s2,hix2,x2,_,_,_,_,_⟩ := hN1.at Try.underlying24 qt at_ ha
   have HX : Hid (fitB nA N at_ (N.getD at_ (0,0,0)).1 (i : Int) = decide ((N.getD at_ (0,0,0)).1 < (N.getD i (0,0,0)).1)) := by show _ = _; rw [q2w,decide_eq_true (by omega),Bool.true_and]
   have d2 : decide ((i : Int) < (at_ : Int)) = true := by simpa using hi
   generalize fitB nA N at_ (N.getD at_ (0,0,0)).1 (i : Int) = b at *
   generalize (N.getD at_ (0,0,0)).1 = P2 at *
   generalize (N.getD i (0,0,0)).1 = P1 at *
   have k0 := cell_regrown c0
   have k1 := cell_regrown c1
   have k2 := cell_regrown c2
   have k3 := cell_regrown c3
   have k4 := cell_regrown x1
   have k5 := cell_regrown x2
   have cS : ∀ d os,Calls Try.prog 99 #[.agg #[.int .i64 p0,.slice aA nA cA,.slice aG nG cG,.slice aN nN cN],.int .i64 (i : Int)] (grow (redrawn (w.alloc (.cells #[.int .i64 p0,.slice aA nA cA,.slice aG nG cG,.slice aN nN cN] 26 (0,0))) d) os) fun e w'' => e = .returned (.bool false) ∧ ∃ p : Regrown,w'' = grow (redrawn (w.alloc (.cells #[.int .i64 p0,.slice aA nA cA,.slice aG nG cG,.slice aN nN cN] 26 (0,0))) p.d) p.os := fun d os => Calls.regrown_of (js _)
   have HE : Hid (∀ d os,Below w.heap.size w (grow (redrawn (w.alloc (.cells #[.int .i64 p0,.slice aA nA cA,.slice aG nG cG,.slice aN nN cN] 26 (0,0))) d) os)) := fun d os => q9 HB0.out (below_regrown _ d os)
   go_enter Try.func107,Try.ntmps107
   go_wp2_with fail
   refine wp_region_quiet_below (by kernel_rfl) (by kernel_rfl) ?_
   repeat (go_big_quiet_step (exact cS _ _))
   refine wpQuiet_nil ?_
   intro _ hw'
   obtain ⟨⟨dq,osq⟩,hw''⟩ := hw'
   subst hw''
   go_wp2
   go_ret
   exact ⟨by rw [HX.out]; rfl,HE.out _ _⟩
  ·have HX : Hid (fitB nA N at_ (N.getD at_ (0,0,0)).1 (i : Int) = false) := by show _ = _; rw [q2w,decide_eq_false (by omega),Bool.false_and]
   have d2 : decide ((i : Int) < (at_ : Int)) = false := by simpa using hi
   generalize fitB nA N at_ (N.getD at_ (0,0,0)).1 (i : Int) = b at *
   have k0 := cell_regrown c0
   have k1 := cell_regrown c1
   have k2 := cell_regrown c2
   have k3 := cell_regrown c3
   have cS : ∀ d os,Calls Try.prog 99 #[.agg #[.int .i64 p0,.slice aA nA cA,.slice aG nG cG,.slice aN nN cN],.int .i64 (i : Int)] (grow (redrawn (w.alloc (.cells #[.int .i64 p0,.slice aA nA cA,.slice aG nG cG,.slice aN nN cN] 26 (0,0))) d) os) fun e w'' => e = .returned (.bool false) ∧ ∃ p : Regrown,w'' = grow (redrawn (w.alloc (.cells #[.int .i64 p0,.slice aA nA cA,.slice aG nG cG,.slice aN nN cN] 26 (0,0))) p.d) p.os := fun d os => Calls.regrown_of (js _)
   have HE : Hid (∀ d os,Below w.heap.size w (grow (redrawn (w.alloc (.cells #[.int .i64 p0,.slice aA nA cA,.slice aG nG cG,.slice aN nN cN] 26 (0,0))) d) os)) := fun d os => q9 HB0.out (below_regrown _ d os)
   go_enter Try.func107,Try.ntmps107
   go_wp2_with fail
   refine wp_region_quiet_below (by kernel_rfl) (by kernel_rfl) ?_
   repeat (go_big_quiet_step (exact cS _ _))
   refine wpQuiet_nil ?_
   intro _ hw'
   obtain ⟨⟨dq,osq⟩,hw''⟩ := hw'
   subst hw''
   go_wp2
   go_ret
   exact ⟨by rw [HX.out]; rfl,HE.out _ _⟩
end Go.Proofs.Ythhbhadcjofelaa
namespace Go.Proofs.Ythhbhadcjofelaa
open Go.RowKit Go.Maps
def ndMB (p0 : Int) (m : Nat) (N : List Gd) (k : Nat) : Bool := decide (0 ≤ (N.getD k (0,0,0)).1) && (decide ((N.getD k (0,0,0)).1 < p0) && (decide ((N.getD k (0,0,0)).2.1 ≠ (N.getD k (0,0,0)).2.2) && (fitB m N k (N.getD k (0,0,0)).1 (N.getD k (0,0,0)).2.1 && fitB m N k (N.getD k (0,0,0)).1 (N.getD k (0,0,0)).2.2)))
theorem q3l {p0 : Int} {m : Nat} {N : List Gd} {k : Nat} (hk : k ≤ N.length) : ndMB p0 m N k = true ↔ NdMay p0 m N k := by
 unfold ndMB NdMay
 simp only [Bool.and_eq_true,decide_eq_true_eq,q4n hk]
theorem q2K (p0 : Int) (aA : Option Addr) (nA cA : Nat) (aG : Option Addr) (nG cG : Nat) (aN : Option Addr) (nN cN : Nat) (N : List Gd) (k : Nat) (w : World) (hN : NdSl w aN nN cN N) (hk : k < nN) :
  Calls Try.prog 98 #[.agg #[.int .i64 p0,.slice aA nA cA,.slice aG nG cG,.slice aN nN cN],.int .i64 (k : Int)] w fun e w' => e = .returned (.bool (ndMB p0 nA N k)) ∧ Below w.heap.size w w' := by
 have hb1 := qb w (.cells #[.int .i64 p0,.slice aA nA cA,.slice aG nG cG,.slice aN nN cN] 26 (0,0))
 have HA1 := qj w p0 aA nA cA aG nG cG aN nN cN
 have hN1 := hN.up hb1
 obtain ⟨g1,o1,s1,hix1,x0,x1,x2,_,_,hok⟩ := hN1.at Try.underlying24 qt k hk
 have js := fun (r : Int) (hr : I64 r) (w' : World) (hb : Below w.heap.size w w') => q2g p0 aA nA cA aG nG cG aN nN cN N k r w' (hN.up hb) hk hr
 have HX : Hid (ndMB p0 nA N k = (decide (0 ≤ (N.getD k (0,0,0)).1) && (decide ((N.getD k (0,0,0)).1 < p0) && (decide ((N.getD k (0,0,0)).2.1 ≠ (N.getD k (0,0,0)).2.2) && (fitB nA N k (N.getD k (0,0,0)).1 (N.getD k (0,0,0)).2.1 && fitB nA N k (N.getD k (0,0,0)).1 (N.getD k (0,0,0)).2.2))))) := rfl
 generalize ndMB p0 nA N k = b at *
 generalize N.getD k (0,0,0) = nd at *
 obtain ⟨P,lo,hi⟩ := nd
 dsimp only at x0 x1 x2 HX js
 have jl := js lo hok.2.1
 have jh := js hi hok.2.2
 have c3 := HA1.c3
 obtain ⟨w1,hw1⟩ : ∃ w1,w1 = w.alloc (.cells #[.int .i64 p0,.slice aA nA cA,.slice aG nG cG,.slice aN nN cN] 26 (0,0)) := ⟨_,rfl⟩
 have hb2 := qb w1 (.cells #[.int .i64 P,.int .i64 lo,.int .i64 hi] 77 (0,0))
 have HBB : Hid (Below w.heap.size w (w1.alloc (.cells #[.int .i64 P,.int .i64 lo,.int .i64 hi] 77 (0,0)))) := by rw [hw1] at hb2 ⊢; exact q9 hb1 hb2
 have HA2 : AuB (w1.alloc (.cells #[.int .i64 P,.int .i64 lo,.int .i64 hi] 77 (0,0))) w.heap.size p0 aA nA cA aG nG cG aN nN cN := by rw [hw1] at hb2 ⊢; exact HA1.up hb2
 have HN2 := q55 w1 P lo hi
 have hs1 : w1.heap.size = w.heap.size + 1 := by rw [hw1]; simp
 rw [hs1] at HN2
 rw [hw1] at HA2 HN2 HBB
 obtain ⟨a0,a1,a2,a3⟩ := HA2
 obtain ⟨n0,n1,n2⟩ := HN2
 have HK : Hid (∀ w3,Below ((w.alloc (.cells #[.int .i64 p0,.slice aA nA cA,.slice aG nG cG,.slice aN nN cN] 26 (0,0))).alloc (.cells #[.int .i64 P,.int .i64 lo,.int .i64 hi] 77 (0,0))).heap.size ((w.alloc (.cells #[.int .i64 p0,.slice aA nA cA,.slice aG nG cG,.slice aN nN cN] 26 (0,0))).alloc (.cells #[.int .i64 P,.int .i64 lo,.int .i64 hi] 77 (0,0))) w3 → Below w.heap.size w w3 ∧ AuB w3 w.heap.size p0 aA nA cA aG nG cG aN nN cN ∧ NdB w3 (w.heap.size + 1) P lo hi) := fun w3 hb => ⟨q9 HBB.out hb,⟨qd a0 hb,qd a1 hb,qd a2 hb,qd a3 hb⟩,⟨qd n0 hb,qd n1 hb,qd n2 hb⟩⟩
 have jl := jl _ HBB.out
 by_cases h0 : 0 ≤ P
 ·have d0 : decide (0 ≤ P) = true := by simpa using h0
  rw [d0,Bool.true_and] at HX
  by_cases h1 : P < p0
  ·have d1 : decide (P < p0) = true := by simpa using h1
   rw [d1,Bool.true_and] at HX
   by_cases h2 : lo = hi
   ·have d2 : (lo != hi) = false := by simpa using h2
    rw [decide_eq_false (by simpa using h2),Bool.false_and] at HX
    clear jl jh HK h0 h1 h2
    go_enter Try.func98,Try.ntmps98
    go_wp2
    go_ret
    exact ⟨by rw [HX.out]; rfl,HBB.out⟩
   ·have d2 : (lo != hi) = true := by simpa using h2
    rw [decide_eq_true (by simpa using h2),Bool.true_and] at HX
    generalize fitB nA N k P lo = bl at *
    generalize fitB nA N k P hi = bh at *
    cases bl with
    | false =>
     rw [Bool.false_and] at HX
     go_enter Try.func98,Try.ntmps98
     go_wp2_with (go_at_call 107; (with_reducible refine jl.mono ?_); rintro e w3 ⟨rfl,hb3⟩; have HB3 : Hid _ := (HK.out w3 hb3).1; clear hb3)
     go_ret
     exact ⟨by rw [HX.out]; rfl,HB3.out⟩
    | true =>
     rw [Bool.true_and] at HX
     go_enter Try.func98,Try.ntmps98
     go_wp2_with (first
      | (go_at_call 107; (with_reducible refine jl.mono ?_); rintro e w3 ⟨rfl,hb3⟩; obtain ⟨hb4,⟨e0,e1,e2,e3⟩,⟨f0,f1,f2⟩⟩ := HK.out w3 hb3; have j4 := jh w3 hb4; have HB4 : Hid _ := hb4; clear hb3 hb4 jh jl HK a0 a1 a2 a3 n0 n1 n2)
      | (revert j4; intro j4; go_at_call 107; (with_reducible refine j4.mono ?_); rintro e w5 ⟨rfl,hb5⟩; have HB5 : Hid _ := q9 HB4.out hb5; clear hb5)
      | fail)
     go_ret
     exact ⟨by rw [HX.out]; rfl,HB5.out⟩
  ·have d1 : decide (P < p0) = false := by simpa using h1
   rw [d1,Bool.false_and] at HX
   go_enter Try.func98,Try.ntmps98
   go_wp2
   go_ret
   exact ⟨by rw [HX.out]; rfl,HBB.out⟩
 ·have d0 : decide (0 ≤ P) = false := by simpa using h0
  rw [d0,Bool.false_and] at HX
  go_enter Try.func98,Try.ntmps98
  go_wp2
  go_ret
  exact ⟨by rw [HX.out]; rfl,HBB.out⟩
def szMB (p0 : Int) (nA nG nN : Nat) : Bool := decide (0 ≤ p0 ∧ p0 ≤ 8) && (decide (1 ≤ nA) && (decide (nA ≤ 256) && (decide (nG = nA) && decide (nN ≤ 4096))))
theorem q2h (p0 : Int) (aA : Option Addr) (nA cA : Nat) (aG : Option Addr) (nG cG : Nat) (aN : Option Addr) (nN cN : Nat) (w : World) :
  Calls Try.prog 76 #[.agg #[.int .i64 p0,.slice aA nA cA,.slice aG nG cG,.slice aN nN cN]] w fun e w' => e = .returned (.bool (szMB p0 nA nG nN)) ∧ Below w.heap.size w w' := by
 have HB0 : Hid _ := qb w (.cells #[.int .i64 p0,.slice aA nA cA,.slice aG nG cG,.slice aN nN cN] 26 (0,0))
 obtain ⟨c0,c1,c2,c3⟩ := qj w p0 aA nA cA aG nG cG aN nN cN
 have jc := fun w => q2a p0 w
 have HX : Hid (szMB p0 nA nG nN = (decide (0 ≤ p0 ∧ p0 ≤ 8) && (decide (1 ≤ nA) && (decide (nA ≤ 256) && (decide (nG = nA) && decide (nN ≤ 4096)))))) := rfl
 generalize szMB p0 nA nG nN = b at *
 generalize decide (0 ≤ p0 ∧ p0 ≤ 8) = bc at *
 cases bc with
 | false =>
  rw [Bool.false_and] at HX
  go_enter Try.func76,Try.ntmps76
  go_wp2_with (go_at_call 97; (with_reducible refine (jc _).mono ?_); rintro e w' ⟨rfl,hw1⟩; obtain rfl := hw1.symm)
  go_ret
  exact ⟨by rw [HX.out]; rfl,HB0.out⟩
 | true =>
  rw [Bool.true_and] at HX
  by_cases h1 : 1 ≤ nA
  ·rw [decide_eq_true h1,Bool.true_and] at HX
   have d1 : decide ((1 : Int) ≤ (nA : Int)) = true := by simp; omega
   by_cases h2 : nA ≤ 256
   ·rw [decide_eq_true h2,Bool.true_and] at HX
    have d2 : decide ((nA : Int) ≤ 256) = true := by simp; omega
    by_cases h3 : nG = nA
    ·rw [decide_eq_true h3,Bool.true_and] at HX
     subst h3
     have d3 : ((nG : Int) == (nG : Int)) = true := by simp
     have HY : Hid (decide ((nN : Int) ≤ 4096) = decide (nN ≤ 4096)) := by
      show _ = _
      by_cases h4 : nN ≤ 4096
      ·rw [decide_eq_true h4,decide_eq_true (by omega)]
      ·rw [decide_eq_false h4,decide_eq_false (by omega)]
     go_enter Try.func76,Try.ntmps76
     go_wp2_with (go_at_call 97; (with_reducible refine (jc _).mono ?_); rintro e w' ⟨rfl,hw1⟩; obtain rfl := hw1.symm)
     go_ret
     exact ⟨by rw [HX.out,← HY.out]; rfl,HB0.out⟩
    ·rw [decide_eq_false h3,Bool.false_and] at HX
     have d3 : ((nG : Int) == (nA : Int)) = false := by simp; omega
     go_enter Try.func76,Try.ntmps76
     go_wp2_with (go_at_call 97; (with_reducible refine (jc _).mono ?_); rintro e w' ⟨rfl,hw1⟩; obtain rfl := hw1.symm)
     go_ret
     exact ⟨by rw [HX.out]; rfl,HB0.out⟩
   ·rw [decide_eq_false h2,Bool.false_and] at HX
    have d2 : decide ((nA : Int) ≤ 256) = false := by simp; omega
    go_enter Try.func76,Try.ntmps76
    go_wp2_with (go_at_call 97; (with_reducible refine (jc _).mono ?_); rintro e w' ⟨rfl,hw1⟩; obtain rfl := hw1.symm)
    go_ret
    exact ⟨by rw [HX.out]; rfl,HB0.out⟩
  ·rw [decide_eq_false h1,Bool.false_and] at HX
   have d1 : decide ((1 : Int) ≤ (nA : Int)) = false := by simp; omega
   go_enter Try.func76,Try.ntmps76
   go_wp2_with (go_at_call 97; (with_reducible refine (jc _).mono ?_); rintro e w' ⟨rfl,hw1⟩; obtain rfl := hw1.symm)
   go_ret
   exact ⟨by rw [HX.out]; rfl,HB0.out⟩
theorem q1y {P : Program} (t k e : TypeId) (q : IntKind) (n : Int) (w : World) (h : P.underlying t = some (.map k e)) : (Instr.makeMap t (some (.int q n))).run P w = .ok (.map (some w.heap.size)) (w.alloc (.map #[] 0)) := by
 simp [Instr.makeMap,run_underlying h,asInt,asIntOf,go_sem,newObj,Result.andThen]
 rfl
structure NdsL (w wr : World) (p0 : Int) (aA : Option Addr) (nA cA : Nat) (aG : Option Addr) (nG cG : Nat) (aN : Option Addr) (nN cN : Nat) (N : List Gd) (mb k : Nat) : Prop where
 au : AuB wr w.heap.size p0 aA nA cA aG nG cG aN nN cN
 num : NumG wr mb k (posG (N.take k))
 nod : (N.take k).Nodup
 may : ∀ j,j < k → ndMB p0 nA N j = true
 bel : Below w.heap.size w wr
theorem NumG.mapNe {w : World} {b n : Nat} {f : Gd → Option Nat} {p : Addr} {v : Value} (h : NumG w b n f) (hc : w.cell? p = some v) : p.block ≠ b := by
 intro e
 obtain ⟨es,c,hm⟩ := h.isMap
 unfold World.cell? at hc
 rw [e,hm] at hc
 cases hc
theorem AuB.grown {w w' : World} {g : Nat} {p : Int} {aA : Option Addr} {nA cA : Nat} {aG : Option Addr} {nG cG : Nat} {aN : Option Addr} {nN cN : Nat} {b n : Nat} {f : Gd → Option Nat} (h : AuB w g p aA nA cA aG nG cG aN nN cN) (hn : NumG w b n f) (hg : w.grownBy w' (some b)) : AuB w' g p aA nA cA aG nG cG aN nN cN := by
 have k : ∀ {q : Addr} {v : Value},w.cell? q = some v → w'.cell? q = some v := fun hc => q3W hc hg (fun e => hn.mapNe hc (by injection e))
 exact ⟨k h.c0,k h.c1,k h.c2,k h.c3⟩
def NdsQ (p0 : Int) (nA : Nat) (N : List Gd) (w : World) (e : Ending) (w' : World) : Prop := Below w.heap.size w w' ∧ ∃ b,e = .returned (.bool b) ∧ (b = true ↔ ((∀ k,k < N.length → NdMay p0 nA N k) ∧ N.Nodup))
theorem q2f (p0 : Int) (aA : Option Addr) (nA cA : Nat) (aG : Option Addr) (nG cG : Nat) (aN : Option Addr) (nN cN : Nat) (N : List Gd) (w : World) (hN : NdSl w aN nN cN N) (hNN : nN ≤ 1000000) :
  Calls Try.prog 77 #[.agg #[.int .i64 p0,.slice aA nA cA,.slice aG nG cG,.slice aN nN cN]] w (NdsQ p0 nA N w) := by
 obtain ⟨Q,eQ⟩ : ∃ Q,Q = NdsQ p0 nA N w := ⟨_,rfl⟩
 have hl := hN.hlen
 have HT : Hid (∀ w',Below w.heap.size w w' → (∀ k,k < nN → ndMB p0 nA N k = true) → N.Nodup → Q (.returned (.bool true)) w') := fun w' hb h1 h2 => by
  rw [eQ]; exact ⟨hb,true,rfl,by simp only [true_iff]; exact ⟨fun k hk => (q3l (by omega)).1 (h1 k (by omega)),h2⟩⟩
 have HF1 : Hid (∀ w' k,Below w.heap.size w w' → k < nN → ndMB p0 nA N k = false → Q (.returned (.bool false)) w') := fun w' k hb hk h1 => by
  rw [eQ]; refine ⟨hb,false,rfl,?_⟩
  simp only [Bool.false_eq_true,false_iff]
  rintro ⟨h2,_⟩
  have := (q3l (p0 := p0) (m := nA) (N := N) (k := k) (by omega)).2 (h2 k (by omega))
  rw [h1] at this; cases this
 have HF2 : Hid (∀ w' k,Below w.heap.size w w' → k < nN → N.getD k (0,0,0) ∈ N.take k → Q (.returned (.bool false)) w') := fun w' k hb hk h1 => by
  rw [eQ]; refine ⟨hb,false,rfl,?_⟩
  simp only [Bool.false_eq_true,false_iff]
  rintro ⟨_,h2⟩
  obtain ⟨j,hj⟩ := List.mem_iff_getElem?.1 h1
  rw [List.getElem?_take] at hj
  by_cases hjk : j < k
  ·rw [if_pos hjk] at hj
   exact q4f (j := j) (k := k) hjk (by omega) (by rw [List.getD_eq_getElem?_getD,hj]; rfl) h2
  ·rw [if_neg hjk] at hj; cases hj
 rw [← eQ]
 have hmk := fun (n : Int) (w : World) => q1y (P := Try.prog) 123 77 3 .i64 n w Try.underlying123
 have hb1 := qb w (.cells #[.int .i64 p0,.slice aA nA cA,.slice aG nG cG,.slice aN nN cN] 26 (0,0))
 have HA1 := qj w p0 aA nA cA aG nG cG aN nN cN
 obtain ⟨w1,hw1⟩ : ∃ w1,w1 = w.alloc (.cells #[.int .i64 p0,.slice aA nA cA,.slice aG nG cG,.slice aN nN cN] 26 (0,0)) := ⟨_,rfl⟩
 have hb2 := qb w1 (.map #[] 0)
 have hs1 : w1.heap.size = w.heap.size + 1 := by rw [hw1]; simp
 have HL0 : Hid (NdsL w (w1.alloc (.map #[] 0)) p0 aA nA cA aG nG cG aN nN cN N (w.heap.size + 1) 0) := by
  rw [← hw1] at HA1 hb1
  refine ⟨HA1.up hb2,?_,by simp,fun j hj => absurd hj (by omega),q9 hb1 hb2⟩
  have := q4g w1
  rw [hs1] at this
  exact this.alike fun x _ => rfl
 rw [hw1] at HL0
 have c3 := HA1.c3
 have HN : Hid _ := hN
 have HLn : Hid _ := hl
 go_enter Try.func77,Try.ntmps77
 go_wp2
 go_loopw [15] (fun i wr => ∃ k : Nat,k ≤ nN ∧ i = .int .i64 (k : Int) ∧ Hid (NdsL w wr p0 aA nA cA aG nG cG aN nN cN N (w.heap.size + 1) k)) (fun i _ => nN - (intOf i).toNat)
 case atStart => exact ⟨0,Nat.zero_le _,rfl,HL0⟩
 case round =>
  obtain ⟨k,hk,rfl,HL⟩ := hrel
  by_cases hlt : k < nN
  ·have hkl : k < N.length := by have := HLn.out; omega
   obtain ⟨g1,o1,s1,hix1,x0,x1,x2,_,_,hok⟩ := (HN.out.up HL.out.bel).at Try.underlying24 qt k hlt
   have HTK : Hid _ := q3Y hkl
   have hlk : (N.take k).length = k := by rw [List.length_take]; omega
   have HLK : Hid _ := hlk
   have hm2 : N.getD k (0,0,0) ∈ N.take k → ∀ w',Below w.heap.size w w' → Q (.returned (.bool false)) w' := fun h w' hb => HF2.out w' k hb hlt h
   have hm1 : ndMB p0 nA N k = false → ∀ w',Below w.heap.size w w' → Q (.returned (.bool false)) w' := fun h w' hb => HF1.out w' k hb hlt h
   have jn := fun w' hb => q2K p0 aA nA cA aG nG cG aN nN cN N k w' (HN.out.up hb) hlt
   generalize N.getD k (0,0,0) = x at *
   obtain ⟨P,lo,hi⟩ := x
   dsimp only at x0 x1 x2
   have hb5 := qb wr (.cells #[.int .i64 P,.int .i64 lo,.int .i64 hi] 77 (0,0))
   have hbx := (MapKept.heap_alloc wr (.cells #[.int .i64 P,.int .i64 lo,.int .i64 hi] 77 (0,0))).1
   have hnum := HL.out.num.far (hb5.block _ HL.out.num.lt)
   have hlook := hnum.look (x := (P,lo,hi)) hok
   unfold ndV at hlook
   dsimp only at hlook
   have HBB : Hid _ := q9 HL.out.bel hb5
   by_cases hmem : (P,lo,hi) ∈ N.take k
   ·rw [q1x hmem] at hlook
    have HE : Hid _ := hm2 hmem _ HBB.out
    dsimp only [Option.getD,Option.isSome] at hlook
    generalize (N.take k).idxOf (P,lo,hi) = jx at *
    go_wp2
    exact HE.out
   ·rw [q1b hmem] at hlook
    dsimp only [Option.getD,Option.isSome] at hlook
    have hA5 := HL.out.au.up hb5
    obtain ⟨a0,a1,a2,a3⟩ := hA5
    have j5 := jn _ HBB.out
    have HMM : Hid _ := hmem
    have HOK : Hid _ := hok
    have HK : Hid (∀ w6,Below (wr.alloc (.cells #[.int .i64 P,.int .i64 lo,.int .i64 hi] 77 (0,0))).heap.size (wr.alloc (.cells #[.int .i64 P,.int .i64 lo,.int .i64 hi] 77 (0,0))) w6 → Below w.heap.size w w6 ∧ AuB w6 w.heap.size p0 aA nA cA aG nG cG aN nN cN ∧ w6.heap[wr.heap.size]? = some (.cells #[.int .i64 P,.int .i64 lo,.int .i64 hi] 77 (0,0)) ∧ NumG w6 (w.heap.size + 1) k (posG (N.take k))) := fun w6 hb =>
     ⟨q9 HBB.out hb,⟨qd a0 hb,qd a1 hb,qd a2 hb,qd a3 hb⟩,(hb.block _ (by simp)).trans hbx,hnum.far (hb.block _ hnum.lt)⟩
    have HND : Hid _ := HL.out.nod
    have HMY : Hid _ := HL.out.may
    cases hbn : ndMB p0 nA N k with
    | false =>
     rw [hbn] at j5
     have HE : Hid _ := hm1 hbn
     go_wp2_with (go_at_call 98; (with_reducible refine j5.mono ?_); rintro e w6 ⟨rfl,hb6⟩; have HE6 : Hid _ := HE.out w6 (HK.out w6 hb6).1; clear hb6 HE HK)
     exact HE6.out
    | true =>
     rw [hbn] at j5
     have HBN : Hid _ := hbn
     go_wp2_with (first
      | (go_at_call 98; (with_reducible refine j5.mono ?_); rintro e w6 ⟨rfl,hb6⟩; obtain ⟨q1,q2,q3,q4⟩ := HK.out w6 hb6; have HB6 : Hid _ := q1; have HA6 : Hid _ := q2; have HN6 : Hid _ := q4; have y0 := q8 q3 0; have y1 := q8 q3 1; have y2 := q8 q3 2; simp only [List.getElem?_toArray,List.getElem?_cons_zero,List.getElem?_cons_succ] at y0 y1 y2; obtain ⟨w7,hrun,hn7,hg7⟩ := q4.put (by omega) (x := (P,lo,hi)) HOK.out (q1b HMM.out) k (by omega); unfold ndV at hrun; dsimp only at hrun; have H7 : Hid _ := hn7; have G7 : Hid _ := hg7; clear hn7 hg7 q1 q2 q3 q4 hb6 a0 a1 a2 a3 hlook HK)
      | fail)
     have HL7 : Hid (NdsL w w7 p0 aA nA cA aG nG cG aN nN cN N (w.heap.size + 1) (k + 1)) := by
      refine ⟨HA6.out.grown HN6.out G7.out,?_,?_,fun j hj => ?_,HB6.out.grown G7.out (Nat.le_trans HB6.out.size (Nat.le_refl _)) (fun q e => by injection e with e; omega)⟩
      ·rw [HTK.out]
       have h7 : NumG w7 (w.heap.size + 1) (k + 1) (fun y => if y = (P,lo,hi) then some k else posG (N.take k) y) := H7.out
       refine h7.alike fun y _ => ?_
       have := q4i (N := N.take k) HMM.out y
       rw [HLK.out] at this
       exact this
      ·rw [HTK.out]
       exact List.nodup_append.2 ⟨HND.out,by simp,fun a ha b hb => by simp at hb; subst hb; exact fun e => HMM.out (e ▸ ha)⟩
      ·by_cases e : j = k
       ·rw [e]; exact HBN.out
       ·exact HMY.out j (by omega)
     go_wp2
     go_roundw
     case rel => exact ⟨k + 1,by omega,by go_num,HL7⟩
     case measure => simp [intOf]; omega
  ·obtain rfl : k = nN := by omega
   have HE : Hid _ := HT.out wr HL.out.bel HL.out.may (by
    have := HL.out.nod
    rwa [List.take_of_length_le (by have := HLn.out; omega)] at this)
   go_wp2
   exact HE.out
def GdsQ (nA nN : Nat) (gs : List Int) (w : World) (e : Ending) (w' : World) : Prop := Below w.heap.size w w' ∧ ∃ b,e = .returned (.bool b) ∧ (b = true ↔ ∀ k,k < gs.length → isB nA (gs.getD k 0) = true ∨ (0 ≤ gs.getD k 0 ∧ gs.getD k 0 < (nN : Int)))
theorem q1P (p0 : Int) (aA : Option Addr) (nA cA : Nat) (aG : Option Addr) (nG cG : Nat) (aN : Option Addr) (nN cN : Nat) (gs : List Int) (w : World) (hG : ZSl w aG nG cG gs) (hok : ∀ z ∈ gs,I64 z) :
  Calls Try.prog 78 #[.agg #[.int .i64 p0,.slice aA nA cA,.slice aG nG cG,.slice aN nN cN]] w (GdsQ nA nN gs w) := by
 obtain ⟨Q,eQ⟩ : ∃ Q,Q = GdsQ nA nN gs w := ⟨_,rfl⟩
 have hl := hG.hlen
 have hbd := Nat.le_trans hG.hcap hG.bd
 unfold maxLen at hbd
 have HT : Hid (∀ w',Below w.heap.size w w' → (∀ k,k < nG → isB nA (gs.getD k 0) = true ∨ (0 ≤ gs.getD k 0 ∧ gs.getD k 0 < (nN : Int))) → Q (.returned (.bool true)) w') := fun w' hb h1 => by
  rw [eQ]; exact ⟨hb,true,rfl,by simp only [true_iff]; exact fun k hk => h1 k (by omega)⟩
 have HF : Hid (∀ w' k,Below w.heap.size w w' → k < nG → ¬ (isB nA (gs.getD k 0) = true ∨ (0 ≤ gs.getD k 0 ∧ gs.getD k 0 < (nN : Int))) → Q (.returned (.bool false)) w') := fun w' k hb hk h1 => by
  rw [eQ]; refine ⟨hb,false,rfl,?_⟩
  simp only [Bool.false_eq_true,false_iff]
  exact fun h => h1 (h k (by omega))
 rw [← eQ]
 have HB0 : Hid _ := qb w (.cells #[.int .i64 p0,.slice aA nA cA,.slice aG nG cG,.slice aN nN cN] 26 (0,0))
 have HA0 : Hid _ := qj w p0 aA nA cA aG nG cG aN nN cN
 have c2 := HA0.out.c2
 have HG : Hid _ := hG
 have HOK : Hid _ := hok
 have HLn : Hid _ := hl
 go_enter Try.func78,Try.ntmps78
 go_wp2
 go_loopw [8] (fun i wr => ∃ k : Nat,k ≤ nG ∧ i = .int .i64 (k : Int) ∧ Hid (∀ j,j < k → isB nA (gs.getD j 0) = true ∨ (0 ≤ gs.getD j 0 ∧ gs.getD j 0 < (nN : Int))) ∧ Hid (AuB wr w.heap.size p0 aA nA cA aG nG cG aN nN cN) ∧ Hid (Below w.heap.size w wr)) (fun i _ => nG - (intOf i).toNat)
 case atStart => exact ⟨0,Nat.zero_le _,rfl,fun j hj => absurd hj (by omega),HA0,HB0⟩
 case round =>
  obtain ⟨k,hk,rfl,HM,HA,HB⟩ := hrel
  by_cases hlt : k < nG
  ·have hkl : k < gs.length := by have := HLn.out; omega
   have hidx := fun w' => HG.out.idx nG k w' hlt (Nat.le_refl _)
   have hce := (HG.out.up HB.out).cell k hlt
   have hz := HOK.out (gs.getD k 0) (by simp [List.getD_eq_getElem?_getD,List.getElem?_eq_getElem hkl])
   have HMN : Hid (isB nA (gs.getD k 0) = true ∨ (0 ≤ gs.getD k 0 ∧ gs.getD k 0 < (nN : Int)) → ∀ j,j < k + 1 → isB nA (gs.getD j 0) = true ∨ (0 ≤ gs.getD j 0 ∧ gs.getD j 0 < (nN : Int))) := fun h j hj => by
    by_cases e : j = k
    ·rw [e]; exact h
    ·exact HM.out j (by omega)
   have HFN : Hid (¬ (isB nA (gs.getD k 0) = true ∨ (0 ≤ gs.getD k 0 ∧ gs.getD k 0 < (nN : Int))) → ∀ w',Below w.heap.size w w' → Q (.returned (.bool false)) w') := fun h w' hb => HF.out w' k hb hlt h
   obtain ⟨a0,a1,a2,a3⟩ := HA.out
   generalize gs.getD k 0 = z at *
   generalize adOf aG k = ad at *
   obtain ⟨ga,oa,sa⟩ := ad
   have js := qQ p0 aA nA cA aG nG cG aN nN cN z wr hz
   have HK : Hid (∀ w6,Below wr.heap.size wr w6 → AuB w6 w.heap.size p0 aA nA cA aG nG cG aN nN cN ∧ Below w.heap.size w w6) := fun w6 hb => ⟨HA.out.up hb,q9 HB.out hb⟩
   cases hb : isB nA z with
   | true =>
    rw [hb] at js
    have HM2 : Hid _ := HMN.out (.inl hb)
    go_wp2_with (go_at_call 99; (with_reducible refine js.mono ?_); rintro e w6 ⟨rfl,hb6⟩; have HK6 : Hid _ := HK.out w6 hb6; clear hb6 HK)
    go_roundw
    case rel => exact ⟨k + 1,by omega,by go_num,HM2,HK6.out.1,HK6.out.2⟩
    case measure => simp [intOf]; omega
   | false =>
    rw [hb] at js
    by_cases hz0 : z < 0
    ·have HE : Hid _ := HFN.out (by rw [hb]; rintro (h | h); exact absurd h (by simp); omega)
     go_wp2_with (go_at_call 99; (with_reducible refine js.mono ?_); rintro e w6 ⟨rfl,hb6⟩; have HE6 : Hid _ := HE.out w6 (HK.out w6 hb6).2; clear hb6 HK HE)
     exact HE6.out
    ·have d0 : decide (z < 0) = false := by simpa using hz0
     by_cases hzn : z < (nN : Int)
     ·have d1 : decide ((nN : Int) ≤ z) = false := by simpa using hzn
      have HM2 : Hid _ := HMN.out (.inr ⟨by omega,hzn⟩)
      go_wp2_with (go_at_call 99; (with_reducible refine js.mono ?_); rintro e w6 ⟨rfl,hb6⟩; have HK6 : Hid _ := HK.out w6 hb6; have y3 := HK6.out.1.c3; clear hb6 HK)
      go_roundw
      case rel => exact ⟨k + 1,by omega,by go_num,HM2,HK6.out.1,HK6.out.2⟩
      case measure => simp [intOf]; omega
     ·have d1 : decide ((nN : Int) ≤ z) = true := by simp; omega
      have HE : Hid _ := HFN.out (by rw [hb]; rintro (h | h); exact absurd h (by simp); omega)
      go_wp2_with (go_at_call 99; (with_reducible refine js.mono ?_); rintro e w6 ⟨rfl,hb6⟩; have HE6 : Hid _ := HE.out w6 (HK.out w6 hb6).2; have y3 := (HK.out w6 hb6).1.c3; clear hb6 HK HE)
      exact HE6.out
  ·obtain rfl : k = nG := by omega
   have HE : Hid _ := HT.out wr HB.out HM.out
   go_wp2
   exact HE.out
theorem q3G {m : Nat} {r : Int} : isB m r = true ↔ r < 0 ∧ -(m : Int) ≤ r := by
 unfold isB
 simp only [Bool.and_eq_true,decide_eq_true_eq]
 omega
theorem q51 {p0 : Int} {nA nG nN : Nat} {N : List Gd} {gs : List Int} (hN : N.length = nN) (hG : gs.length = nG) (h1 : szMB p0 nA nG nN = true) (h2 : (∀ k,k < N.length → NdMay p0 nA N k) ∧ N.Nodup) (h3 : ∀ k,k < gs.length → isB nA (gs.getD k 0) = true ∨ (0 ≤ gs.getD k 0 ∧ gs.getD k 0 < (nN : Int))) : MayG p0 nA N gs := by
 unfold szMB at h1
 simp only [Bool.and_eq_true,decide_eq_true_eq] at h1
 obtain ⟨⟨a1,a2⟩,a3,a4,a5,a6⟩ := h1
 refine q5l a1 a2 a3 a4 (by omega) (by omega) h2.1 h2.2 fun k hk => ?_
 rcases h3 k hk with h | ⟨b1,b2⟩
 ·exact .inl (q3G.1 h)
 ·obtain ⟨i,hi⟩ : ∃ i : Nat,gs.getD k 0 = (i : Int) := ⟨(gs.getD k 0).toNat,by omega⟩
  have hil : i < N.length := by omega
  refine .inr ⟨i,hi,hil,N[i],List.getElem?_eq_getElem hil,?_⟩
  have := (h2.1 i hil).1
  rw [List.getD_eq_getElem?_getD,List.getElem?_eq_getElem hil,Option.getD_some] at this
  omega
theorem q5m {p0 : Int} {nA nG nN : Nat} {N : List Gd} {gs : List Int} (hN : N.length = nN) (hG : gs.length = nG) (h : MayG p0 nA N gs) : szMB p0 nA nG nN = true := by
 unfold szMB
 simp only [Bool.and_eq_true,decide_eq_true_eq]
 exact ⟨⟨h.p0,h.p8⟩,h.s1,h.s2,by have := h.len; omega,by have := h.few; omega⟩
theorem q5k {p0 : Int} {nA nN : Nat} {N : List Gd} {gs : List Int} (hN : N.length = nN) (h : MayG p0 nA N gs) : ∀ k,k < gs.length → isB nA (gs.getD k 0) = true ∨ (0 ≤ gs.getD k 0 ∧ gs.getD k 0 < (nN : Int)) := fun k hk => by
 rcases h.gd (gs.getD k 0) (by simp [List.getD_eq_getElem?_getD,List.getElem?_eq_getElem hk]) with h | ⟨i,e,hi,_⟩
 ·exact .inl (q3G.2 h)
 ·exact .inr ⟨by omega,by omega⟩
theorem q4J {p0 : Int} {nA nG nN : Nat} (h : szMB p0 nA nG nN = true) : nN ≤ 4096 := by
 unfold szMB at h
 simp only [Bool.and_eq_true,decide_eq_true_eq] at h
 exact h.2.2.2.2
theorem q2Y (p0 : Int) (aA : Option Addr) (nA cA : Nat) (aG : Option Addr) (nG cG : Nat) (aN : Option Addr) (nN cN : Nat) (N : List Gd) (gs : List Int) (w : World) (hN : NdSl w aN nN cN N) (hG : ZSl w aG nG cG gs) (hok : ∀ z ∈ gs,I64 z) :
  Calls Try.prog 50 #[.agg #[.int .i64 p0,.slice aA nA cA,.slice aG nG cG,.slice aN nN cN]] w (ChkR p0 nA N gs w) := by
 obtain ⟨Q,eQ⟩ : ∃ Q,Q = ChkR p0 nA N gs w := ⟨_,rfl⟩
 have H0 : Hid (∀ w',Below w.heap.size w w' → MayG p0 nA N gs → Q (.returned (.int .i64 0)) w') := fun w' hb h => by rw [eQ]; exact ⟨hb,0,rfl,.inl ⟨rfl,h⟩⟩
 have H1 : Hid (∀ w',Below w.heap.size w w' → ¬ MayG p0 nA N gs → Q (.returned (.int .i64 12)) w') := fun w' hb h => by rw [eQ]; exact ⟨hb,12,rfl,.inr ⟨rfl,h⟩⟩
 rw [← eQ]
 have hlN := hN.hlen
 have hlG := hG.hlen
 have HB0 : Hid _ := qb w (.cells #[.int .i64 p0,.slice aA nA cA,.slice aG nG cG,.slice aN nN cN] 26 (0,0))
 have HA0 : Hid _ := qj w p0 aA nA cA aG nG cG aN nN cN
 obtain ⟨c0,c1,c2,c3⟩ := HA0.out
 have j1 := q2h p0 aA nA cA aG nG cG aN nN cN (w.alloc (.cells #[.int .i64 p0,.slice aA nA cA,.slice aG nG cG,.slice aN nN cN] 26 (0,0)))
 have J2 : Hid (szMB p0 nA nG nN = true → ∀ w',Below w.heap.size w w' → Calls Try.prog 77 #[.agg #[.int .i64 p0,.slice aA nA cA,.slice aG nG cG,.slice aN nN cN]] w' (NdsQ p0 nA N w')) := fun hs w' hb => q2f p0 aA nA cA aG nG cG aN nN cN N w' (hN.up hb) (by have := q4J hs; omega)
 have J3 : Hid (∀ w',Below w.heap.size w w' → Calls Try.prog 78 #[.agg #[.int .i64 p0,.slice aA nA cA,.slice aG nG cG,.slice aN nN cN]] w' (GdsQ nA nN gs w')) := fun w' hb => q1P p0 aA nA cA aG nG cG aN nN cN gs w' (hG.up hb) hok
 have HS : Hid (szMB p0 nA nG nN = false → ¬ MayG p0 nA N gs) := fun h hm => by rw [q5m hlN hlG hm] at h; cases h
 have HA : Hid (szMB p0 nA nG nN = true → ((∀ k,k < N.length → NdMay p0 nA N k) ∧ N.Nodup) → (∀ k,k < gs.length → isB nA (gs.getD k 0) = true ∨ (0 ≤ gs.getD k 0 ∧ gs.getD k 0 < (nN : Int))) → MayG p0 nA N gs) := fun h1 h2 h3 => q51 hlN hlG h1 h2 h3
 have HND : Hid (MayG p0 nA N gs → ((∀ k,k < N.length → NdMay p0 nA N k) ∧ N.Nodup)) := fun h => ⟨fun k hk => h.nd hk,h.once⟩
 have HGS : Hid (MayG p0 nA N gs → ∀ k,k < gs.length → isB nA (gs.getD k 0) = true ∨ (0 ≤ gs.getD k 0 ∧ gs.getD k 0 < (nN : Int))) := fun h => q5k hlN h
 generalize szMB p0 nA nG nN = b1 at *
 cases b1 with
 | false =>
  have HE : Hid (∀ w',Below w.heap.size w w' → Q (.returned (.int .i64 12)) w') := fun w' hb => H1.out w' hb (HS.out rfl)
  go_enter Try.func50,Try.ntmps50
  go_wp2_with fail
  refine j1.mono ?_
  rintro e w2 ⟨rfl,hb2⟩
  have HE2 : Hid _ := HE.out w2 (q9 HB0.out hb2)
  go_wp2
  exact HE2.out
 | true =>
  go_enter Try.func50,Try.ntmps50
  go_wp2_with fail
  refine j1.mono ?_
  rintro e w2 ⟨rfl,hb2⟩
  have HB2 : Hid _ := q9 HB0.out hb2
  have HA2 : Hid _ := HA0.out.up hb2
  have j2 := J2.out (by simp) w2 HB2.out
  obtain ⟨c0,c1,c2,c3⟩ := HA2.out
  go_wp2_with fail
  refine j2.mono ?_
  rintro e w3 ⟨hb3,b2,rfl,hi2⟩
  have HB3 : Hid _ := q9 HB2.out hb3
  have HA3 : Hid _ := HA2.out.up hb3
  have j3 := J3.out w3 HB3.out
  have HI2 : Hid _ := hi2
  obtain ⟨c0,c1,c2,c3⟩ := HA3.out
  cases b2 with
  | false =>
   have HE : Hid _ := H1.out w3 HB3.out (fun h => absurd (HI2.out.2 (HND.out h)) (by simp))
   go_wp2
   exact HE.out
  | true =>
   go_wp2_with fail
   refine j3.mono ?_
   rintro e w4 ⟨hb4,b3,rfl,hi3⟩
   have HB4 : Hid _ := q9 HB3.out hb4
   cases b3 with
   | false =>
    have HE : Hid _ := H1.out w4 HB4.out (fun h => absurd (hi3.2 (HGS.out h)) (by simp))
    go_wp2
    exact HE.out
   | true =>
    have HE : Hid _ := H0.out w4 HB4.out (HA.out (by simp) (HI2.out.1 (by simp)) (hi3.1 (by simp)))
    go_wp2
    exact HE.out
theorem q32 : (Try.prog.info? 27).map (fun i => (i.zero,i.size,i.bytes)) = some (some (.int .u8 0),1,1) := by kernel_rfl
theorem q1q : (Try.prog.info? 27).map (·.size) = some 1 := by kernel_rfl
abbrev ltV (l : List Nat) : List Value := l.map fun (x : Nat) => Value.int .u8 (x : Int)
theorem q24 {w : World} {ops : Array Oper} {rest : List Oper} {o : Oper} {a : Act} {Q : Exit → Act → World → Prop} (hgd : o.guard = none) (s x : Operand)
  (ho : o.op = .call { callee := .builtin .append,args := #[s,x],argTypes := #[31,31] }) (base : Nat)
  (v : Value) (n : Nat) (l : List Nat) (hs : a.eval s = v) (hown : w.ownsRow base 27 1 v n (ltV l)) (g' z : Nat) (hx : a.eval x = .slice (some ⟨g',0,none⟩) 1 1) (hc : w.cell? ⟨g',0,none⟩ = some (.int .u8 (z : Int)))
  (hn : n + 1 ≤ 140737488355328) (hbase : base ≤ w.heap.size)
  (h : ∀ v' w',w'.ownsRow base 27 1 v' (n + 1) (ltV (l ++ [z])) → w.grownBy w' v.ownBlock → wpList Try.prog ops Q rest (a.put o.dst v') w') : wpList Try.prog ops Q (o :: rest) a w := by
 obtain ⟨i,hi,hz0,hz1,hz2⟩ := info_parts q32
 refine wpList_append_own w hgd s x 31 ho base 27 i _ 1 1 Try.underlying31 hi hz0 hz1 hz2 rfl (by decide) v n _ hs hown ⟨g',0,none⟩ 1 1 [.int .u8 (z : Int)] hx rfl ?_ (fun u hu => by simp at hu; subst hu; rfl) (by unfold maxLen; omega) (by omega) hbase ?_
 ·intro j u hj
  match j with
  | 0 => simp at hj; rw [← hj,qf]; exact hc
  | j + 1 => simp at hj
 ·intro v' w' h1 h2 _
  exact h v' w' (by simp only [ltV,List.map_append]; exact h1) h2
theorem q49 {l : List Nat} {i : Nat} (h : i < l.length) : (ltV l)[i]? = some (.int .u8 ((l.getD i 0 : Nat) : Int)) := by
 simp [ltV,List.getD_eq_getElem?_getD,List.getElem?_eq_getElem h]
theorem BoRow.ltP {w : World} {g : Nat} {bs : List Bool} (h : BoRow w g bs) : g < w.heap.size := (Array.getElem?_eq_some_iff.1 h).1
theorem BoRow.upP {w w' : World} {g : Nat} {bs : List Bool} (h : BoRow w g bs) (hb : Below w.heap.size w w') : BoRow w' g bs := (hb.block g h.ltP).trans h
theorem BoRow.setP {w : World} {g : Nat} {bs : List Bool} (h : BoRow w g bs) (i : Nat) (b : Bool) : BoRow (w.setCell ⟨g,i,none⟩ (.bool b)) g (bs.set i b) := by
 have := heap_setCell_same w g i _ _ (.bool b) h
 unfold BoRow; rw [this]; simp [List.map_set]
theorem BoRow.cellP {w : World} {g : Nat} {bs : List Bool} (h : BoRow w g bs) {i : Nat} (hi : i < bs.length) : w.cell? ⟨g,i,none⟩ = some (.bool (bs.getD i false)) := by
 unfold BoRow at h; simp [World.cell?,h,List.getD_eq_getElem?_getD,List.getElem?_eq_getElem hi]
theorem BoRow.fzP {w : World} {g : Nat} {bs : List Bool} (h : BoRow w g bs) (i : Nat) : w.frozen? ⟨g,i,none⟩ = false := frozen_of_row w g i _ _ h
theorem qh {l : List Nat} {k : Nat} (h : k < l.length) : (l.map Int.ofNat).getD k 0 = ((l.getD k 0 : Nat) : Int) := by
 simp [List.getD_eq_getElem?_getD,List.getElem?_eq_getElem h]
abbrev rwA (p : Int) (N : List Gd) (gs : List Int) : List (List Nat) := rowsG N gs (2 ^ p.toNat)
theorem MayG.k256 {p : Int} {ns : Nat} {N : List Gd} {gs : List Int} (h : MayG p ns N gs) : 2 ^ p.toNat ≤ 256 := by
 have h8 := h.p8
 have : 2 ^ p.toNat ≤ 2 ^ 8 := Nat.pow_le_pow_right (by decide) (by omega)
 omega
end Go.Proofs.Ythhbhadcjofelaa
namespace Go.Proofs.Ythhbhadcjofelaa
open Go.RowKit Go.Maps Go.Sort
theorem q3g {p : Int} {ns : Nat} {N : List Gd} {gs : List Int} (h : MayG p ns N gs) {q : Nat} (hq : q < gs.length) : I64 (gs.getD q 0) := by
 have hg : gs.getD q 0 ∈ gs := by rw [q4S hq]; exact List.getElem_mem hq
 have h1 := h.few
 have h0 := h.s2
 unfold I64
 rcases h.gd _ hg with ⟨h2,h3⟩ | ⟨j,h2,h3,_⟩
 ·constructor <;> omega
 ·rw [h2]; constructor <;> omega
abbrev LtC (w : World) (a : Option Addr) (len cap : Nat) (ts : List Nat) : Prop := IntSl Try.prog 31 .u8 w a len cap (ts.map Int.ofNat)
theorem zlitP (w : World) (zs : List Int) (hl : zs.length ≤ 1000) : ZSl (w.alloc (.cells (zs.map (Value.int .i64)).toArray 3)) (some ⟨w.heap.size,0,none⟩) zs.length zs.length zs := by
 have h : RowI (w.alloc (.cells (zs.map (Value.int .i64)).toArray 3)) 3 w.heap.size zs := (MapKept.heap_alloc w _).1
 have := RowI.zsl (n := zs.length) h Try.underlying23 qn (Nat.le_refl _) (by unfold maxLen; omega)
 rwa [List.take_of_length_le (Nat.le_refl _)] at this
theorem blitP (w : World) (bs : List Bool) (hl : bs.length ≤ 1000) : BoSl (w.alloc (.cells (bs.map Value.bool).toArray 4)) (some ⟨w.heap.size,0,none⟩) bs.length bs.length bs := by
 have hc := (MapKept.heap_alloc w (.cells (bs.map Value.bool).toArray 4)).1
 refine ⟨rfl,Nat.le_refl _,by unfold maxLen; omega,fun e => (by cases e),fun x hx k hk => ?_⟩
 injection hx with hx; subst hx
 rw [qf,Nat.zero_add,q8 hc]
 simp [List.getElem?_eq_getElem hk]
theorem q5p (w : World) (N : List Gd) (hl : N.length ≤ 1000) (hok : ∀ t ∈ N,GdOk t) : NdSl (w.alloc (.cells (encGd N).toArray 77)) (some ⟨w.heap.size,0,none⟩) N.length N.length N := by
 have hc := (MapKept.heap_alloc w (.cells (encGd N).toArray 77)).1
 have hcell : ∀ j u,(encGd N)[j]? = some u → (w.alloc (.cells (encGd N).toArray 77)).cell? ((⟨w.heap.size,0,none⟩ : Addr).add j) = some u := fun j u hj => by
  rw [qf,Nat.zero_add,q8 hc]; simpa using hj
 refine ⟨rfl,Nat.le_refl _,by unfold maxLen; omega,fun e => (by cases e),fun x hx k hk => ?_,fun x hx k hk => ?_,fun x hx k hk => ?_,hok⟩
 ·injection hx with hx; subst hx; exact hcell _ _ (qV N k hk).1
 ·injection hx with hx; subst hx; exact hcell _ _ (qV N k hk).2.1
 ·injection hx with hx; subst hx; exact hcell _ _ (qV N k hk).2.2
structure AuX (w : World) (aA : Option Addr) (nA cA : Nat) (aG : Option Addr) (nG cG : Nat) (aN : Option Addr) (nN cN : Nat) (bs : List Bool) (gs : List Int) (N : List Gd) : Prop where
 bo : BoSl w aA nA cA bs
 zs : ZSl w aG nG cG gs
 nd : NdSl w aN nN cN N
theorem AuX.up {w w' : World} {aA : Option Addr} {nA cA : Nat} {aG : Option Addr} {nG cG : Nat} {aN : Option Addr} {nN cN : Nat} {bs : List Bool} {gs : List Int} {N : List Gd} (h : AuX w aA nA cA aG nG cG aN nN cN bs gs N) (hb : Below w.heap.size w w') : AuX w' aA nA cA aG nG cG aN nN cN bs gs N := ⟨h.bo.up hb,h.zs.up hb,h.nd.up hb⟩
theorem q5i (w : World) (o : Obj) (bs : List Bool) (gs : List Int) (N : List Gd) (h1 : bs.length ≤ 1000) (h2 : gs.length ≤ 1000) (h3 : N.length ≤ 1000) (hok : ∀ t ∈ N,GdOk t) :
  AuX ((((w.alloc o).alloc (.cells (bs.map Value.bool).toArray 4)).alloc (.cells (gs.map (Value.int .i64)).toArray 3)).alloc (.cells (encGd N).toArray 77)) (some ⟨w.heap.size + 1,0,none⟩) bs.length bs.length (some ⟨w.heap.size + 1 + 1,0,none⟩) gs.length gs.length (some ⟨w.heap.size + 1 + 1 + 1,0,none⟩) N.length N.length bs gs N ∧ Below w.heap.size w ((((w.alloc o).alloc (.cells (bs.map Value.bool).toArray 4)).alloc (.cells (gs.map (Value.int .i64)).toArray 3)).alloc (.cells (encGd N).toArray 77)) := by
 have b1 := blitP (w.alloc o) bs h1
 have b2 := zlitP ((w.alloc o).alloc (.cells (bs.map Value.bool).toArray 4)) gs h2
 have b3 := q5p (((w.alloc o).alloc (.cells (bs.map Value.bool).toArray 4)).alloc (.cells (gs.map (Value.int .i64)).toArray 3)) N h3 hok
 have e : ∀ (w : World) (o : Obj),(w.alloc o).heap.size = w.heap.size + 1 := fun w o => by simp
 simp only [e] at b1 b2 b3
 exact ⟨⟨(b1.up (qb _ _)).up (qb _ _),b2.up (qb _ _),b3⟩,q9 (q9 (q9 (qb w _) (qb _ _)) (qb _ _)) (qb _ _)⟩
def lgB (p : Int) (nA nG nN : Nat) : Bool := (decide (3 < p) && decide (p ≤ 8)) || (decide (10 < nA) && decide (nA ≤ 256)) || decide (259 < nA) || decide (40 < nN) || decide (300 < nG)
theorem q3I {p : Int} {nA nG nN : Nat} (h : lgB p nA nG nN = false) : ¬ (3 < p ∧ p ≤ 8) ∧ ¬ (10 < nA ∧ nA ≤ 256) ∧ nA ≤ 259 ∧ nN ≤ 40 ∧ nG ≤ 300 := by
 simp [lgB] at h
 omega
theorem q13 (p : Int) (aA : Option Addr) (nA cA : Nat) (aG : Option Addr) (nG cG : Nat) (aN : Option Addr) (nN cN : Nat) (w : World) :
    Calls Try.prog 7 #[.agg #[.int .i64 p, .slice aA nA cA, .slice aG nG cG, .slice aN nN cN]] w fun e w' => e = .returned (.bool (lgB p nA nG nN)) ∧ Below w.heap.size w w' := by
  have HB0 : Hid _ := qb w (.cells #[.int .i64 p, .slice aA nA cA, .slice aG nG cG, .slice aN nN cN] 26 (0, 0))
  obtain ⟨c0, c1, c2, c3⟩ := qj w p aA nA cA aG nG cG aN nN cN
  have HE : Hid (∀ b, b = lgB p nA nG nN → (Ending.returned (.bool b) = .returned (.bool (lgB p nA nG nN)))) := fun b h => by rw [h]
  by_cases h1 : 3 < p ∧ p ≤ 8
  · obtain ⟨h1, h2⟩ := h1
    have HF : Hid _ := HE.out true (by simp [lgB, h1, h2])
    clear HE
    go_enter Try.func7, Try.ntmps7
    go_wp2
    go_ret
    exact ⟨HF.out, HB0.out⟩
  · have HS : Hid (∀ Q : Prop, (3 < p → ¬ p ≤ 8 → Q) → (¬ 3 < p → Q) → Q) := fun Q k1 k2 => by
      by_cases h : 3 < p
      · exact k1 h (fun h' => h1 ⟨h, h'⟩)
      · exact k2 h
    have hf1 : (decide (3 < p) && decide (p ≤ 8)) = false := by simp; omega
    clear h1
    by_cases h2 : 10 < nA ∧ nA ≤ 256
    · obtain ⟨h2, h3⟩ := h2
      have h2' : 10 < (nA : Int) := by omega
      have h3' : (nA : Int) ≤ 256 := by omega
      have HF : Hid _ := HE.out true (by simp [lgB, h2, h3])
      clear HE hf1
      refine HS.out _ (fun k1 k2 => ?_) (fun k1 => ?_)
      all_goals
        clear HS
        go_enter Try.func7, Try.ntmps7
        go_wp2
        go_ret
        exact ⟨HF.out, HB0.out⟩
    · have HT : Hid (∀ Q : Prop, (10 < (nA : Int) → ¬ (nA : Int) ≤ 256 → Q) → (¬ 10 < (nA : Int) → Q) → Q) := fun Q k1 k2 => by
        by_cases h : 10 < (nA : Int)
        · exact k1 h (fun h' => h2 ⟨by omega, by omega⟩)
        · exact k2 h
      have hf2 : (decide (10 < nA) && decide (nA ≤ 256)) = false := by simp; omega
      clear h2
      have HV : Hid (lgB p nA nG nN = (decide (259 < (nA : Int)) || decide (40 < (nN : Int)) || decide (300 < (nG : Int)))) := by
        show _ = _
        have e1 : decide (259 < nA) = decide (259 < (nA : Int)) := by congr 1; apply propext; omega
        have e2 : decide (40 < nN) = decide (40 < (nN : Int)) := by congr 1; apply propext; omega
        have e3 : decide (300 < nG) = decide (300 < (nG : Int)) := by congr 1; apply propext; omega
        rw [lgB, hf1, hf2, e1, e2, e3]; rfl
      have HK : Hid (∀ Q : Prop, (259 < (nA : Int) → lgB p nA nG nN = true → Q) → (¬ 259 < (nA : Int) → 40 < (nN : Int) → lgB p nA nG nN = true → Q) → (¬ 259 < (nA : Int) → ¬ 40 < (nN : Int) → 300 < (nG : Int) → lgB p nA nG nN = true → Q) → (¬ 259 < (nA : Int) → ¬ 40 < (nN : Int) → ¬ 300 < (nG : Int) → lgB p nA nG nN = false → Q) → Q) := fun Q k1 k2 k3 k4 => by
        have hV := HV.out
        by_cases h : 259 < (nA : Int)
        · exact k1 h (by rw [hV, decide_eq_true h]; rfl)
        · by_cases h' : 40 < (nN : Int)
          · exact k2 h h' (by rw [hV, decide_eq_true h', Bool.or_true]; rfl)
          · by_cases h'' : 300 < (nG : Int)
            · exact k3 h h' h'' (by rw [hV, decide_eq_true h'', Bool.or_true])
            · exact k4 h h' h'' (by rw [hV, decide_eq_false h, decide_eq_false h', decide_eq_false h'']; rfl)
      clear HE hf1 hf2 HV
      refine HS.out _ (fun k1 k2 => ?_) (fun k1 => ?_) <;> refine HT.out _ (fun k3 k4 => ?_) (fun k3 => ?_) <;> refine HK.out _ (fun k5 kE => ?_) (fun k5 k6 kE => ?_) (fun k5 k6 k7 kE => ?_) (fun k5 k6 k7 kE => ?_)
      all_goals first
        | (exfalso; omega)
        | (rw [kE]
           clear HS HT HK kE
           go_enter Try.func7, Try.ntmps7
           go_wp2
           go_ret
           exact ⟨rfl, HB0.out⟩)
theorem q1g (p : Int) (aA : Option Addr) (nA cA : Nat) (aG : Option Addr) (nG cG : Nat) (aN : Option Addr) (nN cN : Nat) (w : World) (h1 : 0 < nA) (h2 : nG = nA) :
  Calls Try.prog 26 #[.agg #[.int .i64 p,.slice aA nA cA,.slice aG nG cG,.slice aN nN cN]] w fun e w' => e = .returned (.bool true) ∧ Below w.heap.size w w' := by
 subst h2
 have HB0 : Hid _ := qb w (.cells #[.int .i64 p,.slice aA nG cA,.slice aG nG cG,.slice aN nN cN] 26 (0,0))
 obtain ⟨c0,c1,c2,c3⟩ := qj w p aA nG cA aG nG cG aN nN cN
 have h1' : 0 < (nG : Int) := by omega
 go_enter Try.func26,Try.ntmps26
 go_wp2
 go_ret
 exact ⟨rfl,HB0.out⟩
end Go.Proofs.Ythhbhadcjofelaa
namespace Go.Proofs.Ythhbhadcjofelaa
open Go.RowKit Go.Maps
theorem q1p : (Try.prog.info? 27).map (·.size) = some 1 := by kernel_rfl
theorem q2l (a : Option Addr) (len cap : Nat) (xs : List Int) (a' : Option Addr) (len' cap' : Nat) (ys : List Int) (w : World)
  (hS : IntSl Try.prog 31 .u8 w a len cap xs) (hO : IntSl Try.prog 31 .u8 w a' len' cap' ys) :
  Calls Try.prog 39 #[.slice a len cap,.slice a' len' cap'] w fun e w' => e = .returned (.bool (decide (xs = ys))) ∧ ∃ n,w' = w.drewN n := by
 have hb0 := hS.bd
 have hb1 := hS.hcap
 have hb2 := hO.bd
 have hb3 := hO.hcap
 unfold maxLen at hb0 hb2
 by_cases hll : len = len'
 ·subst hll
  have hidx := fun (k : Nat) (w : World) (h : k < len) => hS.idx len k w h (Nat.le_refl _)
  have hidx' := fun (k : Nat) (w : World) (h : k < len) => hO.idx len k w h (Nat.le_refl _)
  go_enter Try.func39,Try.ntmps39
  go_wp2
  go_loopw [5] (fun i wr => ∃ k : Nat,k ≤ len ∧ i = .int .i64 k ∧ Hid (xs.take k = ys.take k) ∧ Hid (∃ n,wr = w.drewN n)) (fun i _ => len - (intOf i).toNat)
  case atStart => exact ⟨0,Nat.zero_le _,rfl,by show _ = _; simp,0,rfl⟩
  case round =>
   obtain ⟨k,hk,rfl,HU,hwr⟩ := hrel
   by_cases hlt : k < len
   ·have hS' : IntSl Try.prog 31 .u8 wr a len cap xs := by obtain ⟨n,hn⟩ := hwr.out; rw [hn]; exact hS.drewN n
    have hO' : IntSl Try.prog 31 .u8 wr a' len cap' ys := by obtain ⟨n,hn⟩ := hwr.out; rw [hn]; exact hO.drewN n
    have hck := hS'.cell k hlt
    have hck' := hO'.cell k hlt
    have HN : Hid (xs.getD k 0 = ys.getD k 0 → xs.take (k + 1) = ys.take (k + 1)) := fun h => q1t (by rw [hS.hlen]; exact hlt) (by rw [hO.hlen]; exact hlt) HU.out h
    have HM : Hid (xs.getD k 0 ≠ ys.getD k 0 → decide (xs = ys) = false) := fun h => decide_eq_false (fun e => h (by rw [e]))
    clear hS' hO'
    generalize xs.getD k 0 = x at *
    generalize ys.getD k 0 = y at *
    go_wp2
    go_quiet (fail)
    rcases Bool.eq_false_or_eq_true (x != y) with ht | ht
    ·go_wp2
     go_ret
     obtain ⟨n,hn⟩ := hwr.out
     exact ⟨by rw [HM.out (by simpa using ht)]; rfl,n + nq,by rw [hn,World.drewN_drewN]⟩
    ·have HN2 : Hid _ := HN.out (by simpa using ht)
     go_wp2
     go_roundw
     case rel =>
      obtain ⟨n,hn⟩ := hwr.out
      exact ⟨k + 1,by omega,by go_num,HN2,n + nq,by rw [hn,World.drewN_drewN]⟩
     case measure => simp [intOf]; omega
   ·have hx : Hid (decide (xs = ys) = true) := by
     have := HU.out
     rw [List.take_of_length_le (by rw [hS.hlen]; omega),List.take_of_length_le (by rw [hO.hlen]; omega)] at this
     exact decide_eq_true this
    go_wp2
    go_ret
    exact ⟨by rw [hx.out]; rfl,hwr.out⟩
 ·have hx : Hid (decide (xs = ys) = false) := decide_eq_false (fun e => hll (by rw [← hS.hlen,← hO.hlen,e]))
  have hll' : ((len : Int) != (len' : Int)) = true := by simp; omega
  clear hll
  go_enter Try.func39,Try.ntmps39
  go_wp2
  go_ret
  exact ⟨by rw [hx.out]; rfl,0,rfl⟩
end Go.Proofs.Ythhbhadcjofelaa
