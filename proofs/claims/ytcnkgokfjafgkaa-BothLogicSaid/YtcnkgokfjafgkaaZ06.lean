/- Texts of the proof, put together: what it uses. -/
import Derived.Lib.QuietBelow
import Derived.BigQuiet
import Derived.Test.YtcnkgokfjafgkaaZ00
import Derived.Test.YtcnkgokfjafgkaaZ02
import Derived.Test.YtcnkgokfjafgkaaZ04
import Derived.Test.YtcnkgokfjafgkaaZ05
set_option maxRecDepth 100000
set_option maxHeartbeats 16000000
namespace Go.Proofs.Ytcnkgokfjafgkaa
open Go.RowKit Go.Maps Go.Sort
theorem q4P {m : Nat} {N : List Gd} {a i : Nat} {p : Int} : fitB m N a p (i : Int) = (decide ((i : Int) < (a : Int)) && decide (p < (N.getD i (0,0,0)).1)) := by
 have h : ¬ (i : Int) < 0 := by omega
 unfold fitB; rw [if_neg h,Int.toNat_natCast]
theorem q94 {m : Nat} {N : List Gd} {a : Nat} {p r : Int} (h : r < 0) : fitB m N a p r = isB m r := by
 unfold fitB isB; rw [if_pos h,decide_eq_true h,Bool.true_and]
 by_cases h1 : -(m : Int) ≤ r
 ·rw [decide_eq_true h1,decide_eq_true (by omega)]
 ·rw [decide_eq_false h1,decide_eq_false (by omega)]
theorem q9b (m i : Nat) : isB m (i : Int) = false := by
 have h : ¬ (i : Int) < 0 := by omega
 unfold isB; rw [decide_eq_false h,Bool.false_and]
theorem q4l (p0 : Int) (aA : Option Addr) (nA cA : Nat) (aG : Option Addr) (nG cG : Nat) (aN : Option Addr) (nN cN : Nat) (N : List Gd) (at_ : Nat) (r : Int) (w : World) (hN : NdSl w aN nN cN N) (ha : at_ < nN) (hr : I64 r) :
  Calls Try.prog 81 #[.agg #[.int .i64 p0,.slice aA nA cA,.slice aG nG cG,.slice aN nN cN],.int .i64 (at_ : Int),.int .i64 r] w fun e w' => e = .returned (.bool (fitB nA N at_ (N.getD at_ (0,0,0)).1 r)) ∧ Below w.heap.size w w' := by
 have hcN := Nat.le_trans hN.hcap hN.bd
 unfold maxLen at hcN
 have HB0 : Hid _ := q5 w (.cells #[.int .i64 p0,.slice aA nA cA,.slice aG nG cG,.slice aN nN cN] 26 (0,0))
 obtain ⟨c0,c1,c2,c3⟩ := qj w p0 aA nA cA aG nG cG aN nN cN
 have js := fun w => q1K p0 aA nA cA aG nG cG aN nN cN r w hr
 by_cases hn : r < 0
 ·rw [q94 hn]
  have d1 : decide (0 ≤ r) = false := by simpa using hn
  generalize isB nA r = b at *
  cases b with
  | true =>
   have k0 := cell_regrown c0
   have k1 := cell_regrown c1
   have k2 := cell_regrown c2
   have k3 := cell_regrown c3
   have cS : ∀ d os,Calls Try.prog 66 #[.agg #[.int .i64 p0,.slice aA nA cA,.slice aG nG cG,.slice aN nN cN],.int .i64 r] (grow (redrawn (w.alloc (.cells #[.int .i64 p0,.slice aA nA cA,.slice aG nG cG,.slice aN nN cN] 26 (0,0))) d) os) fun e w'' => e = .returned (.bool true) ∧ ∃ p : Regrown,w'' = grow (redrawn (w.alloc (.cells #[.int .i64 p0,.slice aA nA cA,.slice aG nG cG,.slice aN nN cN] 26 (0,0))) p.d) p.os := fun d os => Calls.regrown_of (js _)
   have HE : Hid (∀ d os,Below w.heap.size w (grow (redrawn (w.alloc (.cells #[.int .i64 p0,.slice aA nA cA,.slice aG nG cG,.slice aN nN cN] 26 (0,0))) d) os)) := fun d os => q7 HB0.out (below_regrown _ d os)
   go_enter Try.func81,Try.ntmps81
   go_wp2_with fail
   refine wp_region_quiet_below (by kernel_rfl) (by kernel_rfl) ?_
   repeat (go_big_quiet_step (exact cS _ _))
   refine wpQuiet_nil ?_
   intro _ hw'
   obtain ⟨⟨dq,osq⟩,hw''⟩ := hw'
   subst hw''
   go_wp2
   go_ret
   exact ⟨rfl,HE.out _ _⟩
  | false =>
   have k0 := cell_regrown c0
   have k1 := cell_regrown c1
   have k2 := cell_regrown c2
   have k3 := cell_regrown c3
   have cS : ∀ d os,Calls Try.prog 66 #[.agg #[.int .i64 p0,.slice aA nA cA,.slice aG nG cG,.slice aN nN cN],.int .i64 r] (grow (redrawn (w.alloc (.cells #[.int .i64 p0,.slice aA nA cA,.slice aG nG cG,.slice aN nN cN] 26 (0,0))) d) os) fun e w'' => e = .returned (.bool false) ∧ ∃ p : Regrown,w'' = grow (redrawn (w.alloc (.cells #[.int .i64 p0,.slice aA nA cA,.slice aG nG cG,.slice aN nN cN] 26 (0,0))) p.d) p.os := fun d os => Calls.regrown_of (js _)
   have HE : Hid (∀ d os,Below w.heap.size w (grow (redrawn (w.alloc (.cells #[.int .i64 p0,.slice aA nA cA,.slice aG nG cG,.slice aN nN cN] 26 (0,0))) d) os)) := fun d os => q7 HB0.out (below_regrown _ d os)
   go_enter Try.func81,Try.ntmps81
   go_wp2_with fail
   refine wp_region_quiet_below (by kernel_rfl) (by kernel_rfl) ?_
   repeat (go_big_quiet_step (exact cS _ _))
   refine wpQuiet_nil ?_
   intro _ hw'
   obtain ⟨⟨dq,osq⟩,hw''⟩ := hw'
   subst hw''
   go_wp2
   go_ret
   exact ⟨rfl,HE.out _ _⟩
 ·obtain ⟨i,rfl⟩ : ∃ i : Nat,r = (i : Int) := ⟨r.toNat,by omega⟩
  rw [q9b] at js
  have d1 : decide ((0 : Int) ≤ (i : Int)) = true := by simp
  by_cases hi : i < at_
  ·have hil : i < nN := by omega
   have hN1 := hN.up HB0.out
   obtain ⟨g1,o1,s1,hix1,x1,_,_,_,_,_⟩ := hN1.at Try.underlying24 qp i hil
   obtain ⟨g2,o2,s2,hix2,x2,_,_,_,_,_⟩ := hN1.at Try.underlying24 qp at_ ha
   have HX : Hid (fitB nA N at_ (N.getD at_ (0,0,0)).1 (i : Int) = decide ((N.getD at_ (0,0,0)).1 < (N.getD i (0,0,0)).1)) := by show _ = _; rw [q4P,decide_eq_true (by omega),Bool.true_and]
   have d2 : decide ((i : Int) < (at_ : Int)) = true := by simpa using hi
   generalize fitB nA N at_ (N.getD at_ (0,0,0)).1 (i : Int) = b at *
   generalize (N.getD at_ (0,0,0)).1 = P2 at *
   generalize (N.getD i (0,0,0)).1 = P1 at *
   have k0 := cell_regrown c0
   have k1 := cell_regrown c1
   have k2 := cell_regrown c2
   have k3 := cell_regrown c3
   have k4 := cell_regrown x1
   have k5 := cell_regrown x2
   have cS : ∀ d os,Calls Try.prog 66 #[.agg #[.int .i64 p0,.slice aA nA cA,.slice aG nG cG,.slice aN nN cN],.int .i64 (i : Int)] (grow (redrawn (w.alloc (.cells #[.int .i64 p0,.slice aA nA cA,.slice aG nG cG,.slice aN nN cN] 26 (0,0))) d) os) fun e w'' => e = .returned (.bool false) ∧ ∃ p : Regrown,w'' = grow (redrawn (w.alloc (.cells #[.int .i64 p0,.slice aA nA cA,.slice aG nG cG,.slice aN nN cN] 26 (0,0))) p.d) p.os := fun d os => Calls.regrown_of (js _)
   have HE : Hid (∀ d os,Below w.heap.size w (grow (redrawn (w.alloc (.cells #[.int .i64 p0,.slice aA nA cA,.slice aG nG cG,.slice aN nN cN] 26 (0,0))) d) os)) := fun d os => q7 HB0.out (below_regrown _ d os)
   go_enter Try.func81,Try.ntmps81
   go_wp2_with fail
   refine wp_region_quiet_below (by kernel_rfl) (by kernel_rfl) ?_
   repeat (go_big_quiet_step (exact cS _ _))
   refine wpQuiet_nil ?_
   intro _ hw'
   obtain ⟨⟨dq,osq⟩,hw''⟩ := hw'
   subst hw''
   go_wp2
   go_ret
   exact ⟨by rw [HX.out]; rfl,HE.out _ _⟩
  ·have HX : Hid (fitB nA N at_ (N.getD at_ (0,0,0)).1 (i : Int) = false) := by show _ = _; rw [q4P,decide_eq_false (by omega),Bool.false_and]
   have d2 : decide ((i : Int) < (at_ : Int)) = false := by simpa using hi
   generalize fitB nA N at_ (N.getD at_ (0,0,0)).1 (i : Int) = b at *
   have k0 := cell_regrown c0
   have k1 := cell_regrown c1
   have k2 := cell_regrown c2
   have k3 := cell_regrown c3
   have cS : ∀ d os,Calls Try.prog 66 #[.agg #[.int .i64 p0,.slice aA nA cA,.slice aG nG cG,.slice aN nN cN],.int .i64 (i : Int)] (grow (redrawn (w.alloc (.cells #[.int .i64 p0,.slice aA nA cA,.slice aG nG cG,.slice aN nN cN] 26 (0,0))) d) os) fun e w'' => e = .returned (.bool false) ∧ ∃ p : Regrown,w'' = grow (redrawn (w.alloc (.cells #[.int .i64 p0,.slice aA nA cA,.slice aG nG cG,.slice aN nN cN] 26 (0,0))) p.d) p.os := fun d os => Calls.regrown_of (js _)
   have HE : Hid (∀ d os,Below w.heap.size w (grow (redrawn (w.alloc (.cells #[.int .i64 p0,.slice aA nA cA,.slice aG nG cG,.slice aN nN cN] 26 (0,0))) d) os)) := fun d os => q7 HB0.out (below_regrown _ d os)
   go_enter Try.func81,Try.ntmps81
   go_wp2_with fail
   refine wp_region_quiet_below (by kernel_rfl) (by kernel_rfl) ?_
   repeat (go_big_quiet_step (exact cS _ _))
   refine wpQuiet_nil ?_
   intro _ hw'
   obtain ⟨⟨dq,osq⟩,hw''⟩ := hw'
   subst hw''
   go_wp2
   go_ret
   exact ⟨by rw [HX.out]; rfl,HE.out _ _⟩
end Go.Proofs.Ytcnkgokfjafgkaa
namespace Go.Proofs.Ytcnkgokfjafgkaa
open Go.RowKit Go.Maps
def ndMB (p0 : Int) (m : Nat) (N : List Gd) (k : Nat) : Bool := decide (0 ≤ (N.getD k (0,0,0)).1) && (decide ((N.getD k (0,0,0)).1 < p0) && (decide ((N.getD k (0,0,0)).2.1 ≠ (N.getD k (0,0,0)).2.2) && (fitB m N k (N.getD k (0,0,0)).1 (N.getD k (0,0,0)).2.1 && fitB m N k (N.getD k (0,0,0)).1 (N.getD k (0,0,0)).2.2)))
theorem q62 {p0 : Int} {m : Nat} {N : List Gd} {k : Nat} (hk : k ≤ N.length) : ndMB p0 m N k = true ↔ NdMay p0 m N k := by
 unfold ndMB NdMay
 simp only [Bool.and_eq_true,decide_eq_true_eq,q93 hk]
theorem q5j (p0 : Int) (aA : Option Addr) (nA cA : Nat) (aG : Option Addr) (nG cG : Nat) (aN : Option Addr) (nN cN : Nat) (N : List Gd) (k : Nat) (w : World) (hN : NdSl w aN nN cN N) (hk : k < nN) :
  Calls Try.prog 65 #[.agg #[.int .i64 p0,.slice aA nA cA,.slice aG nG cG,.slice aN nN cN],.int .i64 (k : Int)] w fun e w' => e = .returned (.bool (ndMB p0 nA N k)) ∧ Below w.heap.size w w' := by
 have hb1 := q5 w (.cells #[.int .i64 p0,.slice aA nA cA,.slice aG nG cG,.slice aN nN cN] 26 (0,0))
 have HA1 := qj w p0 aA nA cA aG nG cG aN nN cN
 have hN1 := hN.up hb1
 obtain ⟨g1,o1,s1,hix1,x0,x1,x2,_,_,hok⟩ := hN1.at Try.underlying24 qp k hk
 have js := fun (r : Int) (hr : I64 r) (w' : World) (hb : Below w.heap.size w w') => q4l p0 aA nA cA aG nG cG aN nN cN N k r w' (hN.up hb) hk hr
 have HX : Hid (ndMB p0 nA N k = (decide (0 ≤ (N.getD k (0,0,0)).1) && (decide ((N.getD k (0,0,0)).1 < p0) && (decide ((N.getD k (0,0,0)).2.1 ≠ (N.getD k (0,0,0)).2.2) && (fitB nA N k (N.getD k (0,0,0)).1 (N.getD k (0,0,0)).2.1 && fitB nA N k (N.getD k (0,0,0)).1 (N.getD k (0,0,0)).2.2))))) := rfl
 generalize ndMB p0 nA N k = b at *
 generalize N.getD k (0,0,0) = nd at *
 obtain ⟨P,lo,hi⟩ := nd
 dsimp only at x0 x1 x2 HX js
 have jl := js lo hok.2.1
 have jh := js hi hok.2.2
 have c3 := HA1.c3
 obtain ⟨w1,hw1⟩ : ∃ w1,w1 = w.alloc (.cells #[.int .i64 p0,.slice aA nA cA,.slice aG nG cG,.slice aN nN cN] 26 (0,0)) := ⟨_,rfl⟩
 have hb2 := q5 w1 (.cells #[.int .i64 P,.int .i64 lo,.int .i64 hi] 45 (0,0))
 have HBB : Hid (Below w.heap.size w (w1.alloc (.cells #[.int .i64 P,.int .i64 lo,.int .i64 hi] 45 (0,0)))) := by rw [hw1] at hb2 ⊢; exact q7 hb1 hb2
 have HA2 : AuB (w1.alloc (.cells #[.int .i64 P,.int .i64 lo,.int .i64 hi] 45 (0,0))) w.heap.size p0 aA nA cA aG nG cG aN nN cN := by rw [hw1] at hb2 ⊢; exact HA1.up hb2
 have HN2 := qao w1 P lo hi
 have hs1 : w1.heap.size = w.heap.size + 1 := by rw [hw1]; simp
 rw [hs1] at HN2
 rw [hw1] at HA2 HN2 HBB
 obtain ⟨a0,a1,a2,a3⟩ := HA2
 obtain ⟨n0,n1,n2⟩ := HN2
 have HK : Hid (∀ w3,Below ((w.alloc (.cells #[.int .i64 p0,.slice aA nA cA,.slice aG nG cG,.slice aN nN cN] 26 (0,0))).alloc (.cells #[.int .i64 P,.int .i64 lo,.int .i64 hi] 45 (0,0))).heap.size ((w.alloc (.cells #[.int .i64 p0,.slice aA nA cA,.slice aG nG cG,.slice aN nN cN] 26 (0,0))).alloc (.cells #[.int .i64 P,.int .i64 lo,.int .i64 hi] 45 (0,0))) w3 → Below w.heap.size w w3 ∧ AuB w3 w.heap.size p0 aA nA cA aG nG cG aN nN cN ∧ NdB w3 (w.heap.size + 1) P lo hi) := fun w3 hb => ⟨q7 HBB.out hb,⟨q8 a0 hb,q8 a1 hb,q8 a2 hb,q8 a3 hb⟩,⟨q8 n0 hb,q8 n1 hb,q8 n2 hb⟩⟩
 have jl := jl _ HBB.out
 by_cases h0 : 0 ≤ P
 ·have d0 : decide (0 ≤ P) = true := by simpa using h0
  rw [d0,Bool.true_and] at HX
  by_cases h1 : P < p0
  ·have d1 : decide (P < p0) = true := by simpa using h1
   rw [d1,Bool.true_and] at HX
   by_cases h2 : lo = hi
   ·have d2 : (lo != hi) = false := by simpa using h2
    rw [decide_eq_false (by simpa using h2),Bool.false_and] at HX
    clear jl jh HK h0 h1 h2
    go_enter Try.func65,Try.ntmps65
    go_wp2
    go_ret
    exact ⟨by rw [HX.out]; rfl,HBB.out⟩
   ·have d2 : (lo != hi) = true := by simpa using h2
    rw [decide_eq_true (by simpa using h2),Bool.true_and] at HX
    generalize fitB nA N k P lo = bl at *
    generalize fitB nA N k P hi = bh at *
    cases bl with
    | false =>
     rw [Bool.false_and] at HX
     go_enter Try.func65,Try.ntmps65
     go_wp2_with (go_at_call 81; (with_reducible refine jl.mono ?_); rintro e w3 ⟨rfl,hb3⟩; have HB3 : Hid _ := (HK.out w3 hb3).1; clear hb3)
     go_ret
     exact ⟨by rw [HX.out]; rfl,HB3.out⟩
    | true =>
     rw [Bool.true_and] at HX
     go_enter Try.func65,Try.ntmps65
     go_wp2_with (first
      | (go_at_call 81; (with_reducible refine jl.mono ?_); rintro e w3 ⟨rfl,hb3⟩; obtain ⟨hb4,⟨e0,e1,e2,e3⟩,⟨f0,f1,f2⟩⟩ := HK.out w3 hb3; have j4 := jh w3 hb4; have HB4 : Hid _ := hb4; clear hb3 hb4 jh jl HK a0 a1 a2 a3 n0 n1 n2)
      | (revert j4; intro j4; go_at_call 81; (with_reducible refine j4.mono ?_); rintro e w5 ⟨rfl,hb5⟩; have HB5 : Hid _ := q7 HB4.out hb5; clear hb5)
      | fail)
     go_ret
     exact ⟨by rw [HX.out]; rfl,HB5.out⟩
  ·have d1 : decide (P < p0) = false := by simpa using h1
   rw [d1,Bool.false_and] at HX
   go_enter Try.func65,Try.ntmps65
   go_wp2
   go_ret
   exact ⟨by rw [HX.out]; rfl,HBB.out⟩
 ·have d0 : decide (0 ≤ P) = false := by simpa using h0
  rw [d0,Bool.false_and] at HX
  go_enter Try.func65,Try.ntmps65
  go_wp2
  go_ret
  exact ⟨by rw [HX.out]; rfl,HBB.out⟩
def szMB (p0 : Int) (nA nG nN : Nat) : Bool := decide (0 ≤ p0 ∧ p0 ≤ 8) && (decide (1 ≤ nA) && (decide (nA ≤ 256) && (decide (nG = nA) && decide (nN ≤ 4096))))
theorem q4m (p0 : Int) (aA : Option Addr) (nA cA : Nat) (aG : Option Addr) (nG cG : Nat) (aN : Option Addr) (nN cN : Nat) (w : World) :
  Calls Try.prog 47 #[.agg #[.int .i64 p0,.slice aA nA cA,.slice aG nG cG,.slice aN nN cN]] w fun e w' => e = .returned (.bool (szMB p0 nA nG nN)) ∧ Below w.heap.size w w' := by
 have HB0 : Hid _ := q5 w (.cells #[.int .i64 p0,.slice aA nA cA,.slice aG nG cG,.slice aN nN cN] 26 (0,0))
 obtain ⟨c0,c1,c2,c3⟩ := qj w p0 aA nA cA aG nG cG aN nN cN
 have jc := fun w => q1q p0 w
 have HX : Hid (szMB p0 nA nG nN = (decide (0 ≤ p0 ∧ p0 ≤ 8) && (decide (1 ≤ nA) && (decide (nA ≤ 256) && (decide (nG = nA) && decide (nN ≤ 4096)))))) := rfl
 generalize szMB p0 nA nG nN = b at *
 generalize decide (0 ≤ p0 ∧ p0 ≤ 8) = bc at *
 cases bc with
 | false =>
  rw [Bool.false_and] at HX
  go_enter Try.func47,Try.ntmps47
  go_wp2_with (go_at_call 64; (with_reducible refine (jc _).mono ?_); rintro e w' ⟨rfl,hw1⟩; obtain rfl := hw1.symm)
  go_ret
  exact ⟨by rw [HX.out]; rfl,HB0.out⟩
 | true =>
  rw [Bool.true_and] at HX
  by_cases h1 : 1 ≤ nA
  ·rw [decide_eq_true h1,Bool.true_and] at HX
   have d1 : decide ((1 : Int) ≤ (nA : Int)) = true := by simp; omega
   by_cases h2 : nA ≤ 256
   ·rw [decide_eq_true h2,Bool.true_and] at HX
    have d2 : decide ((nA : Int) ≤ 256) = true := by simp; omega
    by_cases h3 : nG = nA
    ·rw [decide_eq_true h3,Bool.true_and] at HX
     subst h3
     have d3 : ((nG : Int) == (nG : Int)) = true := by simp
     have HY : Hid (decide ((nN : Int) ≤ 4096) = decide (nN ≤ 4096)) := by
      show _ = _
      by_cases h4 : nN ≤ 4096
      ·rw [decide_eq_true h4,decide_eq_true (by omega)]
      ·rw [decide_eq_false h4,decide_eq_false (by omega)]
     go_enter Try.func47,Try.ntmps47
     go_wp2_with (go_at_call 64; (with_reducible refine (jc _).mono ?_); rintro e w' ⟨rfl,hw1⟩; obtain rfl := hw1.symm)
     go_ret
     exact ⟨by rw [HX.out,← HY.out]; rfl,HB0.out⟩
    ·rw [decide_eq_false h3,Bool.false_and] at HX
     have d3 : ((nG : Int) == (nA : Int)) = false := by simp; omega
     go_enter Try.func47,Try.ntmps47
     go_wp2_with (go_at_call 64; (with_reducible refine (jc _).mono ?_); rintro e w' ⟨rfl,hw1⟩; obtain rfl := hw1.symm)
     go_ret
     exact ⟨by rw [HX.out]; rfl,HB0.out⟩
   ·rw [decide_eq_false h2,Bool.false_and] at HX
    have d2 : decide ((nA : Int) ≤ 256) = false := by simp; omega
    go_enter Try.func47,Try.ntmps47
    go_wp2_with (go_at_call 64; (with_reducible refine (jc _).mono ?_); rintro e w' ⟨rfl,hw1⟩; obtain rfl := hw1.symm)
    go_ret
    exact ⟨by rw [HX.out]; rfl,HB0.out⟩
  ·rw [decide_eq_false h1,Bool.false_and] at HX
   have d1 : decide ((1 : Int) ≤ (nA : Int)) = false := by simp; omega
   go_enter Try.func47,Try.ntmps47
   go_wp2_with (go_at_call 64; (with_reducible refine (jc _).mono ?_); rintro e w' ⟨rfl,hw1⟩; obtain rfl := hw1.symm)
   go_ret
   exact ⟨by rw [HX.out]; rfl,HB0.out⟩
theorem q3g {P : Program} (t k e : TypeId) (q : IntKind) (n : Int) (w : World) (h : P.underlying t = some (.map k e)) : (Instr.makeMap t (some (.int q n))).run P w = .ok (.map (some w.heap.size)) (w.alloc (.map #[] 0)) := by
 simp [Instr.makeMap,run_underlying h,asInt,asIntOf,go_sem,newObj,Result.andThen]
 rfl
structure NdsL (w wr : World) (p0 : Int) (aA : Option Addr) (nA cA : Nat) (aG : Option Addr) (nG cG : Nat) (aN : Option Addr) (nN cN : Nat) (N : List Gd) (mb k : Nat) : Prop where
 au : AuB wr w.heap.size p0 aA nA cA aG nG cG aN nN cN
 num : NumG wr mb k (posG (N.take k))
 nod : (N.take k).Nodup
 may : ∀ j,j < k → ndMB p0 nA N j = true
 bel : Below w.heap.size w wr
theorem NumG.mapNe {w : World} {b n : Nat} {f : Gd → Option Nat} {p : Addr} {v : Value} (h : NumG w b n f) (hc : w.cell? p = some v) : p.block ≠ b := by
 intro e
 obtain ⟨es,c,hm⟩ := h.isMap
 unfold World.cell? at hc
 rw [e,hm] at hc
 cases hc
theorem AuB.grown {w w' : World} {g : Nat} {p : Int} {aA : Option Addr} {nA cA : Nat} {aG : Option Addr} {nG cG : Nat} {aN : Option Addr} {nN cN : Nat} {b n : Nat} {f : Gd → Option Nat} (h : AuB w g p aA nA cA aG nG cG aN nN cN) (hn : NumG w b n f) (hg : w.grownBy w' (some b)) : AuB w' g p aA nA cA aG nG cG aN nN cN := by
 have k : ∀ {q : Addr} {v : Value},w.cell? q = some v → w'.cell? q = some v := fun hc => qJ hc hg (fun e => hn.mapNe hc (by injection e))
 exact ⟨k h.c0,k h.c1,k h.c2,k h.c3⟩
def NdsQ (p0 : Int) (nA : Nat) (N : List Gd) (w : World) (e : Ending) (w' : World) : Prop := Below w.heap.size w w' ∧ ∃ b,e = .returned (.bool b) ∧ (b = true ↔ ((∀ k,k < N.length → NdMay p0 nA N k) ∧ N.Nodup))
theorem q4j (p0 : Int) (aA : Option Addr) (nA cA : Nat) (aG : Option Addr) (nG cG : Nat) (aN : Option Addr) (nN cN : Nat) (N : List Gd) (w : World) (hN : NdSl w aN nN cN N) (hNN : nN ≤ 1000000) :
  Calls Try.prog 48 #[.agg #[.int .i64 p0,.slice aA nA cA,.slice aG nG cG,.slice aN nN cN]] w (NdsQ p0 nA N w) := by
 obtain ⟨Q,eQ⟩ : ∃ Q,Q = NdsQ p0 nA N w := ⟨_,rfl⟩
 have hl := hN.hlen
 have HT : Hid (∀ w',Below w.heap.size w w' → (∀ k,k < nN → ndMB p0 nA N k = true) → N.Nodup → Q (.returned (.bool true)) w') := fun w' hb h1 h2 => by
  rw [eQ]; exact ⟨hb,true,rfl,by simp only [true_iff]; exact ⟨fun k hk => (q62 (by omega)).1 (h1 k (by omega)),h2⟩⟩
 have HF1 : Hid (∀ w' k,Below w.heap.size w w' → k < nN → ndMB p0 nA N k = false → Q (.returned (.bool false)) w') := fun w' k hb hk h1 => by
  rw [eQ]; refine ⟨hb,false,rfl,?_⟩
  simp only [Bool.false_eq_true,false_iff]
  rintro ⟨h2,_⟩
  have := (q62 (p0 := p0) (m := nA) (N := N) (k := k) (by omega)).2 (h2 k (by omega))
  rw [h1] at this; cases this
 have HF2 : Hid (∀ w' k,Below w.heap.size w w' → k < nN → N.getD k (0,0,0) ∈ N.take k → Q (.returned (.bool false)) w') := fun w' k hb hk h1 => by
  rw [eQ]; refine ⟨hb,false,rfl,?_⟩
  simp only [Bool.false_eq_true,false_iff]
  rintro ⟨_,h2⟩
  obtain ⟨j,hj⟩ := List.mem_iff_getElem?.1 h1
  rw [List.getElem?_take] at hj
  by_cases hjk : j < k
  ·rw [if_pos hjk] at hj
   exact q8f (j := j) (k := k) hjk (by omega) (by rw [List.getD_eq_getElem?_getD,hj]; rfl) h2
  ·rw [if_neg hjk] at hj; cases hj
 rw [← eQ]
 have hmk := fun (n : Int) (w : World) => q3g (P := Try.prog) 105 45 3 .i64 n w Try.underlying105
 have hb1 := q5 w (.cells #[.int .i64 p0,.slice aA nA cA,.slice aG nG cG,.slice aN nN cN] 26 (0,0))
 have HA1 := qj w p0 aA nA cA aG nG cG aN nN cN
 obtain ⟨w1,hw1⟩ : ∃ w1,w1 = w.alloc (.cells #[.int .i64 p0,.slice aA nA cA,.slice aG nG cG,.slice aN nN cN] 26 (0,0)) := ⟨_,rfl⟩
 have hb2 := q5 w1 (.map #[] 0)
 have hs1 : w1.heap.size = w.heap.size + 1 := by rw [hw1]; simp
 have HL0 : Hid (NdsL w (w1.alloc (.map #[] 0)) p0 aA nA cA aG nG cG aN nN cN N (w.heap.size + 1) 0) := by
  rw [← hw1] at HA1 hb1
  refine ⟨HA1.up hb2,?_,by simp,fun j hj => absurd hj (by omega),q7 hb1 hb2⟩
  have := q52 w1
  rw [hs1] at this
  exact this.alike fun x _ => rfl
 rw [hw1] at HL0
 have c3 := HA1.c3
 have HN : Hid _ := hN
 have HLn : Hid _ := hl
 go_enter Try.func48,Try.ntmps48
 go_wp2
 go_loopw [15] (fun i wr => ∃ k : Nat,k ≤ nN ∧ i = .int .i64 (k : Int) ∧ Hid (NdsL w wr p0 aA nA cA aG nG cG aN nN cN N (w.heap.size + 1) k)) (fun i _ => nN - (intOf i).toNat)
 case atStart => exact ⟨0,Nat.zero_le _,rfl,HL0⟩
 case round =>
  obtain ⟨k,hk,rfl,HL⟩ := hrel
  by_cases hlt : k < nN
  ·have hkl : k < N.length := by have := HLn.out; omega
   obtain ⟨g1,o1,s1,hix1,x0,x1,x2,_,_,hok⟩ := (HN.out.up HL.out.bel).at Try.underlying24 qp k hlt
   have HTK : Hid _ := q2C hkl
   have hlk : (N.take k).length = k := by rw [List.length_take]; omega
   have HLK : Hid _ := hlk
   have hm2 : N.getD k (0,0,0) ∈ N.take k → ∀ w',Below w.heap.size w w' → Q (.returned (.bool false)) w' := fun h w' hb => HF2.out w' k hb hlt h
   have hm1 : ndMB p0 nA N k = false → ∀ w',Below w.heap.size w w' → Q (.returned (.bool false)) w' := fun h w' hb => HF1.out w' k hb hlt h
   have jn := fun w' hb => q5j p0 aA nA cA aG nG cG aN nN cN N k w' (HN.out.up hb) hlt
   generalize N.getD k (0,0,0) = x at *
   obtain ⟨P,lo,hi⟩ := x
   dsimp only at x0 x1 x2
   have hb5 := q5 wr (.cells #[.int .i64 P,.int .i64 lo,.int .i64 hi] 45 (0,0))
   have hbx := (MapKept.heap_alloc wr (.cells #[.int .i64 P,.int .i64 lo,.int .i64 hi] 45 (0,0))).1
   have hnum := HL.out.num.far (hb5.block _ HL.out.num.lt)
   have hlook := hnum.look (x := (P,lo,hi)) hok
   unfold ndV at hlook
   dsimp only at hlook
   have HBB : Hid _ := q7 HL.out.bel hb5
   by_cases hmem : (P,lo,hi) ∈ N.take k
   ·rw [qR hmem] at hlook
    have HE : Hid _ := hm2 hmem _ HBB.out
    dsimp only [Option.getD,Option.isSome] at hlook
    generalize (N.take k).idxOf (P,lo,hi) = jx at *
    go_wp2
    exact HE.out
   ·rw [qM hmem] at hlook
    dsimp only [Option.getD,Option.isSome] at hlook
    have hA5 := HL.out.au.up hb5
    obtain ⟨a0,a1,a2,a3⟩ := hA5
    have j5 := jn _ HBB.out
    have HMM : Hid _ := hmem
    have HOK : Hid _ := hok
    have HK : Hid (∀ w6,Below (wr.alloc (.cells #[.int .i64 P,.int .i64 lo,.int .i64 hi] 45 (0,0))).heap.size (wr.alloc (.cells #[.int .i64 P,.int .i64 lo,.int .i64 hi] 45 (0,0))) w6 → Below w.heap.size w w6 ∧ AuB w6 w.heap.size p0 aA nA cA aG nG cG aN nN cN ∧ w6.heap[wr.heap.size]? = some (.cells #[.int .i64 P,.int .i64 lo,.int .i64 hi] 45 (0,0)) ∧ NumG w6 (w.heap.size + 1) k (posG (N.take k))) := fun w6 hb =>
     ⟨q7 HBB.out hb,⟨q8 a0 hb,q8 a1 hb,q8 a2 hb,q8 a3 hb⟩,(hb.block _ (by simp)).trans hbx,hnum.far (hb.block _ hnum.lt)⟩
    have HND : Hid _ := HL.out.nod
    have HMY : Hid _ := HL.out.may
    cases hbn : ndMB p0 nA N k with
    | false =>
     rw [hbn] at j5
     have HE : Hid _ := hm1 hbn
     go_wp2_with (go_at_call 65; (with_reducible refine j5.mono ?_); rintro e w6 ⟨rfl,hb6⟩; have HE6 : Hid _ := HE.out w6 (HK.out w6 hb6).1; clear hb6 HE HK)
     exact HE6.out
    | true =>
     rw [hbn] at j5
     have HBN : Hid _ := hbn
     go_wp2_with (first
      | (go_at_call 65; (with_reducible refine j5.mono ?_); rintro e w6 ⟨rfl,hb6⟩; obtain ⟨q1,q2,q3,q4⟩ := HK.out w6 hb6; have HB6 : Hid _ := q1; have HA6 : Hid _ := q2; have HN6 : Hid _ := q4; have y0 := q6 q3 0; have y1 := q6 q3 1; have y2 := q6 q3 2; simp only [List.getElem?_toArray,List.getElem?_cons_zero,List.getElem?_cons_succ] at y0 y1 y2; obtain ⟨w7,hrun,hn7,hg7⟩ := q4.put (by omega) (x := (P,lo,hi)) HOK.out (qM HMM.out) k (by omega); unfold ndV at hrun; dsimp only at hrun; have H7 : Hid _ := hn7; have G7 : Hid _ := hg7; clear hn7 hg7 q1 q2 q3 q4 hb6 a0 a1 a2 a3 hlook HK)
      | fail)
     have HL7 : Hid (NdsL w w7 p0 aA nA cA aG nG cG aN nN cN N (w.heap.size + 1) (k + 1)) := by
      refine ⟨HA6.out.grown HN6.out G7.out,?_,?_,fun j hj => ?_,HB6.out.grown G7.out (Nat.le_trans HB6.out.size (Nat.le_refl _)) (fun q e => by injection e with e; omega)⟩
      ·rw [HTK.out]
       have h7 : NumG w7 (w.heap.size + 1) (k + 1) (fun y => if y = (P,lo,hi) then some k else posG (N.take k) y) := H7.out
       refine h7.alike fun y _ => ?_
       have := q57 (N := N.take k) HMM.out y
       rw [HLK.out] at this
       exact this
      ·rw [HTK.out]
       exact List.nodup_append.2 ⟨HND.out,by simp,fun a ha b hb => by simp at hb; subst hb; exact fun e => HMM.out (e ▸ ha)⟩
      ·by_cases e : j = k
       ·rw [e]; exact HBN.out
       ·exact HMY.out j (by omega)
     go_wp2
     go_roundw
     case rel => exact ⟨k + 1,by omega,by go_num,HL7⟩
     case measure => simp [intOf]; omega
  ·obtain rfl : k = nN := by omega
   have HE : Hid _ := HT.out wr HL.out.bel HL.out.may (by
    have := HL.out.nod
    rwa [List.take_of_length_le (by have := HLn.out; omega)] at this)
   go_wp2
   exact HE.out
def GdsQ (nA nN : Nat) (gs : List Int) (w : World) (e : Ending) (w' : World) : Prop := Below w.heap.size w w' ∧ ∃ b,e = .returned (.bool b) ∧ (b = true ↔ ∀ k,k < gs.length → isB nA (gs.getD k 0) = true ∨ (0 ≤ gs.getD k 0 ∧ gs.getD k 0 < (nN : Int)))
theorem q3L (p0 : Int) (aA : Option Addr) (nA cA : Nat) (aG : Option Addr) (nG cG : Nat) (aN : Option Addr) (nN cN : Nat) (gs : List Int) (w : World) (hG : ZSl w aG nG cG gs) (hok : ∀ z ∈ gs,I64 z) :
  Calls Try.prog 49 #[.agg #[.int .i64 p0,.slice aA nA cA,.slice aG nG cG,.slice aN nN cN]] w (GdsQ nA nN gs w) := by
 obtain ⟨Q,eQ⟩ : ∃ Q,Q = GdsQ nA nN gs w := ⟨_,rfl⟩
 have hl := hG.hlen
 have hbd := Nat.le_trans hG.hcap hG.bd
 unfold maxLen at hbd
 have HT : Hid (∀ w',Below w.heap.size w w' → (∀ k,k < nG → isB nA (gs.getD k 0) = true ∨ (0 ≤ gs.getD k 0 ∧ gs.getD k 0 < (nN : Int))) → Q (.returned (.bool true)) w') := fun w' hb h1 => by
  rw [eQ]; exact ⟨hb,true,rfl,by simp only [true_iff]; exact fun k hk => h1 k (by omega)⟩
 have HF : Hid (∀ w' k,Below w.heap.size w w' → k < nG → ¬ (isB nA (gs.getD k 0) = true ∨ (0 ≤ gs.getD k 0 ∧ gs.getD k 0 < (nN : Int))) → Q (.returned (.bool false)) w') := fun w' k hb hk h1 => by
  rw [eQ]; refine ⟨hb,false,rfl,?_⟩
  simp only [Bool.false_eq_true,false_iff]
  exact fun h => h1 (h k (by omega))
 rw [← eQ]
 have HB0 : Hid _ := q5 w (.cells #[.int .i64 p0,.slice aA nA cA,.slice aG nG cG,.slice aN nN cN] 26 (0,0))
 have HA0 : Hid _ := qj w p0 aA nA cA aG nG cG aN nN cN
 have c2 := HA0.out.c2
 have HG : Hid _ := hG
 have HOK : Hid _ := hok
 have HLn : Hid _ := hl
 go_enter Try.func49,Try.ntmps49
 go_wp2
 go_loopw [8] (fun i wr => ∃ k : Nat,k ≤ nG ∧ i = .int .i64 (k : Int) ∧ Hid (∀ j,j < k → isB nA (gs.getD j 0) = true ∨ (0 ≤ gs.getD j 0 ∧ gs.getD j 0 < (nN : Int))) ∧ Hid (AuB wr w.heap.size p0 aA nA cA aG nG cG aN nN cN) ∧ Hid (Below w.heap.size w wr)) (fun i _ => nG - (intOf i).toNat)
 case atStart => exact ⟨0,Nat.zero_le _,rfl,fun j hj => absurd hj (by omega),HA0,HB0⟩
 case round =>
  obtain ⟨k,hk,rfl,HM,HA,HB⟩ := hrel
  by_cases hlt : k < nG
  ·have hkl : k < gs.length := by have := HLn.out; omega
   have hidx := fun w' => HG.out.idx nG k w' hlt (Nat.le_refl _)
   have hce := (HG.out.up HB.out).cell k hlt
   have hz := HOK.out (gs.getD k 0) (by simp [List.getD_eq_getElem?_getD,List.getElem?_eq_getElem hkl])
   have HMN : Hid (isB nA (gs.getD k 0) = true ∨ (0 ≤ gs.getD k 0 ∧ gs.getD k 0 < (nN : Int)) → ∀ j,j < k + 1 → isB nA (gs.getD j 0) = true ∨ (0 ≤ gs.getD j 0 ∧ gs.getD j 0 < (nN : Int))) := fun h j hj => by
    by_cases e : j = k
    ·rw [e]; exact h
    ·exact HM.out j (by omega)
   have HFN : Hid (¬ (isB nA (gs.getD k 0) = true ∨ (0 ≤ gs.getD k 0 ∧ gs.getD k 0 < (nN : Int))) → ∀ w',Below w.heap.size w w' → Q (.returned (.bool false)) w') := fun h w' hb => HF.out w' k hb hlt h
   obtain ⟨a0,a1,a2,a3⟩ := HA.out
   generalize gs.getD k 0 = z at *
   generalize adOf aG k = ad at *
   obtain ⟨ga,oa,sa⟩ := ad
   have js := q1K p0 aA nA cA aG nG cG aN nN cN z wr hz
   have HK : Hid (∀ w6,Below wr.heap.size wr w6 → AuB w6 w.heap.size p0 aA nA cA aG nG cG aN nN cN ∧ Below w.heap.size w w6) := fun w6 hb => ⟨HA.out.up hb,q7 HB.out hb⟩
   cases hb : isB nA z with
   | true =>
    rw [hb] at js
    have HM2 : Hid _ := HMN.out (.inl hb)
    go_wp2_with (go_at_call 66; (with_reducible refine js.mono ?_); rintro e w6 ⟨rfl,hb6⟩; have HK6 : Hid _ := HK.out w6 hb6; clear hb6 HK)
    go_roundw
    case rel => exact ⟨k + 1,by omega,by go_num,HM2,HK6.out.1,HK6.out.2⟩
    case measure => simp [intOf]; omega
   | false =>
    rw [hb] at js
    by_cases hz0 : z < 0
    ·have HE : Hid _ := HFN.out (by rw [hb]; rintro (h | h); exact absurd h (by simp); omega)
     go_wp2_with (go_at_call 66; (with_reducible refine js.mono ?_); rintro e w6 ⟨rfl,hb6⟩; have HE6 : Hid _ := HE.out w6 (HK.out w6 hb6).2; clear hb6 HK HE)
     exact HE6.out
    ·have d0 : decide (z < 0) = false := by simpa using hz0
     by_cases hzn : z < (nN : Int)
     ·have d1 : decide ((nN : Int) ≤ z) = false := by simpa using hzn
      have HM2 : Hid _ := HMN.out (.inr ⟨by omega,hzn⟩)
      go_wp2_with (go_at_call 66; (with_reducible refine js.mono ?_); rintro e w6 ⟨rfl,hb6⟩; have HK6 : Hid _ := HK.out w6 hb6; have y3 := HK6.out.1.c3; clear hb6 HK)
      go_roundw
      case rel => exact ⟨k + 1,by omega,by go_num,HM2,HK6.out.1,HK6.out.2⟩
      case measure => simp [intOf]; omega
     ·have d1 : decide ((nN : Int) ≤ z) = true := by simp; omega
      have HE : Hid _ := HFN.out (by rw [hb]; rintro (h | h); exact absurd h (by simp); omega)
      go_wp2_with (go_at_call 66; (with_reducible refine js.mono ?_); rintro e w6 ⟨rfl,hb6⟩; have HE6 : Hid _ := HE.out w6 (HK.out w6 hb6).2; have y3 := (HK.out w6 hb6).1.c3; clear hb6 HK HE)
      exact HE6.out
  ·obtain rfl : k = nG := by omega
   have HE : Hid _ := HT.out wr HB.out HM.out
   go_wp2
   exact HE.out
theorem q6Y {m : Nat} {r : Int} : isB m r = true ↔ r < 0 ∧ -(m : Int) ≤ r := by
 unfold isB
 simp only [Bool.and_eq_true,decide_eq_true_eq]
 omega
theorem qah {p0 : Int} {nA nG nN : Nat} {N : List Gd} {gs : List Int} (hN : N.length = nN) (hG : gs.length = nG) (h1 : szMB p0 nA nG nN = true) (h2 : (∀ k,k < N.length → NdMay p0 nA N k) ∧ N.Nodup) (h3 : ∀ k,k < gs.length → isB nA (gs.getD k 0) = true ∨ (0 ≤ gs.getD k 0 ∧ gs.getD k 0 < (nN : Int))) : MayG p0 nA N gs := by
 unfold szMB at h1
 simp only [Bool.and_eq_true,decide_eq_true_eq] at h1
 obtain ⟨⟨a1,a2⟩,a3,a4,a5,a6⟩ := h1
 refine qaO a1 a2 a3 a4 (by omega) (by omega) h2.1 h2.2 fun k hk => ?_
 rcases h3 k hk with h | ⟨b1,b2⟩
 ·exact .inl (q6Y.1 h)
 ·obtain ⟨i,hi⟩ : ∃ i : Nat,gs.getD k 0 = (i : Int) := ⟨(gs.getD k 0).toNat,by omega⟩
  have hil : i < N.length := by omega
  refine .inr ⟨i,hi,hil,N[i],List.getElem?_eq_getElem hil,?_⟩
  have := (h2.1 i hil).1
  rw [List.getD_eq_getElem?_getD,List.getElem?_eq_getElem hil,Option.getD_some] at this
  omega
theorem qaP {p0 : Int} {nA nG nN : Nat} {N : List Gd} {gs : List Int} (hN : N.length = nN) (hG : gs.length = nG) (h : MayG p0 nA N gs) : szMB p0 nA nG nN = true := by
 unfold szMB
 simp only [Bool.and_eq_true,decide_eq_true_eq]
 exact ⟨⟨h.p0,h.p8⟩,h.s1,h.s2,by have := h.len; omega,by have := h.few; omega⟩
theorem qaN {p0 : Int} {nA nN : Nat} {N : List Gd} {gs : List Int} (hN : N.length = nN) (h : MayG p0 nA N gs) : ∀ k,k < gs.length → isB nA (gs.getD k 0) = true ∨ (0 ≤ gs.getD k 0 ∧ gs.getD k 0 < (nN : Int)) := fun k hk => by
 rcases h.gd (gs.getD k 0) (by simp [List.getD_eq_getElem?_getD,List.getElem?_eq_getElem hk]) with h | ⟨i,e,hi,_⟩
 ·exact .inl (q6Y.2 h)
 ·exact .inr ⟨by omega,by omega⟩
theorem q9P {p0 : Int} {nA nG nN : Nat} (h : szMB p0 nA nG nN = true) : nN ≤ 4096 := by
 unfold szMB at h
 simp only [Bool.and_eq_true,decide_eq_true_eq] at h
 exact h.2.2.2.2
theorem q1J (p0 : Int) (aA : Option Addr) (nA cA : Nat) (aG : Option Addr) (nG cG : Nat) (aN : Option Addr) (nN cN : Nat) (N : List Gd) (gs : List Int) (w : World) (hN : NdSl w aN nN cN N) (hG : ZSl w aG nG cG gs) (hok : ∀ z ∈ gs,I64 z) :
  Calls Try.prog 31 #[.agg #[.int .i64 p0,.slice aA nA cA,.slice aG nG cG,.slice aN nN cN]] w (ChkR p0 nA N gs w) := by
 obtain ⟨Q,eQ⟩ : ∃ Q,Q = ChkR p0 nA N gs w := ⟨_,rfl⟩
 have H0 : Hid (∀ w',Below w.heap.size w w' → MayG p0 nA N gs → Q (.returned (.int .i64 0)) w') := fun w' hb h => by rw [eQ]; exact ⟨hb,0,rfl,.inl ⟨rfl,h⟩⟩
 have H1 : Hid (∀ w',Below w.heap.size w w' → ¬ MayG p0 nA N gs → Q (.returned (.int .i64 12)) w') := fun w' hb h => by rw [eQ]; exact ⟨hb,12,rfl,.inr ⟨rfl,h⟩⟩
 rw [← eQ]
 have hlN := hN.hlen
 have hlG := hG.hlen
 have HB0 : Hid _ := q5 w (.cells #[.int .i64 p0,.slice aA nA cA,.slice aG nG cG,.slice aN nN cN] 26 (0,0))
 have HA0 : Hid _ := qj w p0 aA nA cA aG nG cG aN nN cN
 obtain ⟨c0,c1,c2,c3⟩ := HA0.out
 have j1 := q4m p0 aA nA cA aG nG cG aN nN cN (w.alloc (.cells #[.int .i64 p0,.slice aA nA cA,.slice aG nG cG,.slice aN nN cN] 26 (0,0)))
 have J2 : Hid (szMB p0 nA nG nN = true → ∀ w',Below w.heap.size w w' → Calls Try.prog 48 #[.agg #[.int .i64 p0,.slice aA nA cA,.slice aG nG cG,.slice aN nN cN]] w' (NdsQ p0 nA N w')) := fun hs w' hb => q4j p0 aA nA cA aG nG cG aN nN cN N w' (hN.up hb) (by have := q9P hs; omega)
 have J3 : Hid (∀ w',Below w.heap.size w w' → Calls Try.prog 49 #[.agg #[.int .i64 p0,.slice aA nA cA,.slice aG nG cG,.slice aN nN cN]] w' (GdsQ nA nN gs w')) := fun w' hb => q3L p0 aA nA cA aG nG cG aN nN cN gs w' (hG.up hb) hok
 have HS : Hid (szMB p0 nA nG nN = false → ¬ MayG p0 nA N gs) := fun h hm => by rw [qaP hlN hlG hm] at h; cases h
 have HA : Hid (szMB p0 nA nG nN = true → ((∀ k,k < N.length → NdMay p0 nA N k) ∧ N.Nodup) → (∀ k,k < gs.length → isB nA (gs.getD k 0) = true ∨ (0 ≤ gs.getD k 0 ∧ gs.getD k 0 < (nN : Int))) → MayG p0 nA N gs) := fun h1 h2 h3 => qah hlN hlG h1 h2 h3
 have HND : Hid (MayG p0 nA N gs → ((∀ k,k < N.length → NdMay p0 nA N k) ∧ N.Nodup)) := fun h => ⟨fun k hk => h.nd hk,h.once⟩
 have HGS : Hid (MayG p0 nA N gs → ∀ k,k < gs.length → isB nA (gs.getD k 0) = true ∨ (0 ≤ gs.getD k 0 ∧ gs.getD k 0 < (nN : Int))) := fun h => qaN hlN h
 generalize szMB p0 nA nG nN = b1 at *
 cases b1 with
 | false =>
  have HE : Hid (∀ w',Below w.heap.size w w' → Q (.returned (.int .i64 12)) w') := fun w' hb => H1.out w' hb (HS.out rfl)
  go_enter Try.func31,Try.ntmps31
  go_wp2_with fail
  refine j1.mono ?_
  rintro e w2 ⟨rfl,hb2⟩
  have HE2 : Hid _ := HE.out w2 (q7 HB0.out hb2)
  go_wp2
  exact HE2.out
 | true =>
  go_enter Try.func31,Try.ntmps31
  go_wp2_with fail
  refine j1.mono ?_
  rintro e w2 ⟨rfl,hb2⟩
  have HB2 : Hid _ := q7 HB0.out hb2
  have HA2 : Hid _ := HA0.out.up hb2
  have j2 := J2.out (by simp) w2 HB2.out
  obtain ⟨c0,c1,c2,c3⟩ := HA2.out
  go_wp2_with fail
  refine j2.mono ?_
  rintro e w3 ⟨hb3,b2,rfl,hi2⟩
  have HB3 : Hid _ := q7 HB2.out hb3
  have HA3 : Hid _ := HA2.out.up hb3
  have j3 := J3.out w3 HB3.out
  have HI2 : Hid _ := hi2
  obtain ⟨c0,c1,c2,c3⟩ := HA3.out
  cases b2 with
  | false =>
   have HE : Hid _ := H1.out w3 HB3.out (fun h => absurd (HI2.out.2 (HND.out h)) (by simp))
   go_wp2
   exact HE.out
  | true =>
   go_wp2_with fail
   refine j3.mono ?_
   rintro e w4 ⟨hb4,b3,rfl,hi3⟩
   have HB4 : Hid _ := q7 HB3.out hb4
   cases b3 with
   | false =>
    have HE : Hid _ := H1.out w4 HB4.out (fun h => absurd (hi3.2 (HGS.out h)) (by simp))
    go_wp2
    exact HE.out
   | true =>
    have HE : Hid _ := H0.out w4 HB4.out (HA.out (by simp) (HI2.out.1 (by simp)) (hi3.1 (by simp)))
    go_wp2
    exact HE.out
structure MvS (w : World) (aA : Option Addr) (cA : Nat) (aT : Option Addr) (cT n : Nat) (bs : List Bool) (R : List (List Nat)) : Prop where
 bo : BoSl w aA n cA bs
 ro : ∃ rs,ZzSl w aT n cT rs ∧ rs.map (·.zs) = R.map (·.map Int.ofNat)
theorem MvS.up {w w' : World} {aA : Option Addr} {cA : Nat} {aT : Option Addr} {cT n : Nat} {bs : List Bool} {R : List (List Nat)} (h : MvS w aA cA aT cT n bs R) (hb : Below w.heap.size w w') : MvS w' aA cA aT cT n bs R := by
 obtain ⟨rs,h1,h2⟩ := h.ro
 exact ⟨h.bo.up hb,rs,h1.up hb,h2⟩
theorem MvS.row {w : World} {aA : Option Addr} {cA : Nat} {aT : Option Addr} {cT n : Nat} {bs : List Bool} {R : List (List Nat)} (h : MvS w aA cA aT cT n bs R) {s : Nat} (hs : s < n) :
  ∃ g o st a len cap,(∀ w',(Instr.indexAt 65 (.slice aT n cT) (.int .i64 (s : Int))).run Try.prog w' = .ok (.pointer (some ⟨g,o,st⟩)) w') ∧ w.cell? ⟨g,o,st⟩ = some (.slice a len cap) ∧ ZSl w a len cap ((R.getD s []).map Int.ofNat) := by
 obtain ⟨rs,h1,h2⟩ := h.ro
 obtain ⟨g,o,st,r,e1,e2,e3,e4,_⟩ := h1.at s hs
 refine ⟨g,o,st,r.a,r.len,r.cap,e2,e3,?_⟩
 have e5 := congrArg (fun l => l[s]?) h2
 simp only [List.getElem?_map,e1] at e5
 have hR : s < R.length := by
  have := congrArg List.length h2
  simp only [List.length_map] at this
  have := h1.hlen
  omega
 rw [List.getElem?_eq_getElem hR] at e5
 simp only [Option.map_some,Option.some.injEq] at e5
 rw [List.getD_eq_getElem?_getD,List.getElem?_eq_getElem hR,Option.getD_some,← e5]
 exact e4
def MvB (w : World) (g : Nat) (u v : Value) : Prop := w.heap[g]? = some (.cells #[u,v] 126 (0,0))
theorem MvB.lt {w : World} {g : Nat} {u v : Value} (h : MvB w g u v) : g < w.heap.size := (Array.getElem?_eq_some_iff.1 h).1
theorem MvB.up {w w' : World} {g : Nat} {u v : Value} (h : MvB w g u v) (hb : Below w.heap.size w w') : MvB w' g u v := (hb.block g h.lt).trans h
theorem q11 (w : World) (u v : Value) : MvB (w.alloc (.cells #[u,v] 126 (0,0))) w.heap.size u v := (MapKept.heap_alloc w _).1
theorem MvB.c0 {w : World} {g : Nat} {u v : Value} (h : MvB w g u v) : w.cell? ⟨g,0,none⟩ = some u := q6 h 0
theorem MvB.c1 {w : World} {g : Nat} {u v : Value} (h : MvB w g u v) : w.cell? ⟨g,1,none⟩ = some v := q6 h 1
theorem MvB.fz {w : World} {g : Nat} {u v : Value} (h : MvB w g u v) (i : Nat) : w.frozen? ⟨g,i,none⟩ = false := frozen_of_row w g i _ _ h
abbrev two2 (w : World) (g : Nat) (u v : Value) : World := (w.setCell ⟨g,0,none⟩ u).setCell ⟨g,1,none⟩ v
theorem q2D {B g : Nat} {a w : World} (h : Below B a w) (hg : B ≤ g) (u v : Value) : Below B a (two2 w g u v) := (h.setCell hg _).setCell hg _
theorem q1p {w : World} {ops : Array Oper} {rest : List Oper} {o : Oper} {a : Act} {Q : Exit → Act → World → Prop} (hgd : o.guard = none) (s x : Operand)
  (ho : o.op = .call { callee := .builtin .append,args := #[s,x],argTypes := #[65,65] }) (base : Nat)
  (v : Value) (n : Nat) (vs : List Value) (hs : a.eval s = v) (hown : w.ownsRow base 23 1 v n vs) (g' : Nat) (y : Option Addr) (len cap : Nat) (hx : a.eval x = .slice (some ⟨g',0,none⟩) 1 1) (hc : w.cell? ⟨g',0,none⟩ = some (.slice y len cap))
  (hn : n + 1 ≤ 2000000) (hbase : base ≤ w.heap.size)
  (h : ∀ g c w',w'.ownsRow base 23 1 (.slice (some ⟨g,0,none⟩) (n + 1) c) (n + 1) (vs ++ [.slice y len cap]) → w.grownBy w' v.ownBlock → (v.ownBlock = some g ∨ g = w.heap.size) → wpList Try.prog ops Q rest (a.put o.dst (.slice (some ⟨g,0,none⟩) (n + 1) c)) w') : wpList Try.prog ops Q (o :: rest) a w := by
 have hI : (Try.prog.info? 23).map (fun i => (i.zero,i.size,i.bytes)) = some (some (.slice none 0 0),1,24) := by kernel_rfl
 obtain ⟨i,hi,hz0,hz1,hz2⟩ := info_parts hI
 refine wpList_append_lies w hgd s x 65 ho base 23 i _ 1 24 Try.underlying65 hi hz0 hz1 hz2 rfl (by decide) v n _ hs hown ⟨g',0,none⟩ 1 1 [.slice y len cap] hx rfl ?_ (fun u hu => by simp at hu; subst hu; rfl) (by decide) (by unfold maxLen; omega) (by omega) hbase _ rfl ?_
 ·intro j u hj
  match j with
  | 0 => simp at hj; rw [← hj,q9]; exact hc
  | j + 1 => simp at hj
 ·intro g c w' h1 h2 h3 _
  exact h g c w' h1 h2 h3
def LdR (p : Int) (aA : Option Addr) (nA cA : Nat) (bs : List Bool) (N : List Gd) (gs sts : List Int) (w : World) (e : Ending) (w' : World) : Prop :=
 Below w.heap.size w w' ∧ ((¬ MayG p nA N gs ∧ e = .returned (.tuple #[.agg #[.slice none 0 0,.slice none 0 0],.int .i64 12])) ∨
  (MayG p nA N gs ∧ (¬ ∀ s ∈ sts,0 ≤ s ∧ s < (nA : Int)) ∧ e = .returned (.tuple #[.agg #[.slice none 0 0,.slice none 0 0],.int .i64 2])) ∨
  (MayG p nA N gs ∧ (∀ s ∈ sts,0 ≤ s ∧ s < (nA : Int)) ∧ ∃ aT cT,e = .returned (.tuple #[.agg #[.slice aA nA cA,.slice aT nA cT],.int .i64 0]) ∧ MvS w' aA cA aT cT nA bs (rowsG N gs (2 ^ p.toNat))))
structure LdL (w wr : World) (g : Nat) (p : Int) (aA : Option Addr) (nA cA : Nat) (aG : Option Addr) (nG cG : Nat) (aN : Option Addr) (nN cN : Nat) (N : List Gd) (gs : List Int) (k : Nat) (mv : Value) (rs : List Zc) : Prop where
 au : AuB wr w.heap.size p aA nA cA aG nG cG aN nN cN
 rz : MvB wr (w.heap.size + 1) (.slice none 0 0) (.slice none 0 0)
 mb : MvB wr g (.slice aA nA cA) mv
 gl : w.heap.size + 2 ≤ g
 bel : Below w.heap.size w wr
 hl : rs.length = k
 own : wr.ownsRow (g + 1) 23 1 mv k (rs.map fun r => .slice r.a r.len r.cap)
 zs : rs.map (·.zs) = (rowsG N (gs.take k) (2 ^ p.toNat)).map (·.map Int.ofNat)
 row : ∀ r ∈ rs,ZSl wr r.a r.len r.cap r.zs ∧ ∀ j,j < r.len → g < (adOf r.a j).block ∧ mv.ownBlock ≠ some (adOf r.a j).block
theorem q4D {w w' : World} {a : Option Addr} {len cap : Nat} {l : List Int} (h : ZSl w a len cap l) (hs : w.heap.size ≤ w'.heap.size) (hf : ∀ j,j < len → w'.heap[(adOf a j).block]? = w.heap[(adOf a j).block]?) : ZSl w' a len cap l :=
 ⟨h.hlen,h.hcap,h.bd,h.idx,fun k hk => (World.cell?_of_block (hf k hk)).trans (h.cell k hk),fun k hk => Nat.lt_of_lt_of_le (h.blk k hk) hs,h.nn⟩
theorem LdL.next {w wr w6 w7 : World} {g : Nat} {p : Int} {aA : Option Addr} {nA cA : Nat} {aG : Option Addr} {nG cG : Nat} {aN : Option Addr} {nN cN : Nat} {N : List Gd} {gs : List Int} {k : Nat} {mv : Value} {rs : List Zc}
  (h : LdL w wr g p aA nA cA aG nG cG aN nN cN N gs k mv rs) (hk : k < gs.length) (hb : Below wr.heap.size wr w6) {a : Option Addr} {len c : Nat} (hz : ZSl w6 a len c ((rowG N (2 ^ p.toNat) (gs.getD k 0)).map Int.ofNat)) (hnw : ∀ j,j < len → wr.heap.size ≤ (adOf a j).block)
  {o : Obj} {gv cv : Nat} (hown : w7.ownsRow (g + 1) 23 1 (.slice (some ⟨gv,0,none⟩) (k + 1) cv) (k + 1) (rs.map (fun r => Value.slice r.a r.len r.cap) ++ [.slice a len c])) (hg : (w6.alloc o).grownBy w7 mv.ownBlock) (hl : mv.ownBlock = some gv ∨ gv = (w6.alloc o).heap.size) :
  LdL w (w7.setCell ⟨g,1,none⟩ (.slice (some ⟨gv,0,none⟩) (k + 1) cv)) g p aA nA cA aG nG cG aN nN cN N gs (k + 1) (.slice (some ⟨gv,0,none⟩) (k + 1) cv) (rs ++ [⟨a,len,c,(rowG N (2 ^ p.toNat) (gs.getD k 0)).map Int.ofNat⟩]) := by
 have hvs := h.own
 have h1 := h.hl
 have h3 := h.zs
 have h4 := h.row
 have hb1 := q7 hb (q5 w6 o)
 have hsz : (w6.alloc o).heap.size = w6.heap.size + 1 := by simp
 have hgl := h.gl
 have hgw := h.mb.lt
 have hge := qm hvs
 have hlt : ∀ q,mv.ownBlock = some q → q < wr.heap.size := fun q hq => (hvs.lt q hq).2
 have hgv : g + 1 ≤ gv := by
  rcases hl with e | e
  ·exact hge _ e
  ·have := hb.size; omega
 have keep : ∀ b,b < wr.heap.size → mv.ownBlock ≠ some b → b ≠ g → (w7.setCell ⟨g,1,none⟩ (.slice (some ⟨gv,0,none⟩) (k + 1) cv)).heap[b]? = wr.heap[b]? := fun b hb2 hn hne => by
  rw [Below.heap_setCell _ _ _ _ hne,hg.block b (by have := hb1.size; omega) (fun e => hn e.symm),hb1.block b hb2]
 have keep6 : ∀ b,b < w6.heap.size → mv.ownBlock ≠ some b → b ≠ g → (w7.setCell ⟨g,1,none⟩ (.slice (some ⟨gv,0,none⟩) (k + 1) cv)).heap[b]? = w6.heap[b]? := fun b hb2 hn hne => by
  rw [Below.heap_setCell _ _ _ _ hne,hg.block b (by omega) (fun e => hn e.symm),(q5 w6 o).block b hb2]
 have hs7 : w6.heap.size ≤ (w7.setCell ⟨g,1,none⟩ (.slice (some ⟨gv,0,none⟩) (k + 1) cv)).heap.size := by have := hg.size; simp; omega
 have nlow : ∀ b,b ≤ g → mv.ownBlock ≠ some b := fun b hb e => by have := hge b e; omega
 refine ⟨?_,?_,?_,hgl,?_,by simp [h1],?_,?_,?_⟩
 ·have e := keep w.heap.size (by omega) (nlow _ (by omega)) (by omega)
  have f : ∀ i,(w7.setCell ⟨g,1,none⟩ (.slice (some ⟨gv,0,none⟩) (k + 1) cv)).cell? ⟨w.heap.size,i,none⟩ = wr.cell? ⟨w.heap.size,i,none⟩ := fun i => World.cell?_of_block e
  exact ⟨(f 0).trans h.au.c0,(f 1).trans h.au.c1,(f 2).trans h.au.c2,(f 3).trans h.au.c3⟩
 ·exact (keep _ h.rz.lt (nlow _ (by omega)) (by omega)).trans h.rz
 ·have e : w7.heap[g]? = some (.cells #[.slice aA nA cA,mv] 126 (0,0)) := by
   rw [hg.block g (by have := hb1.size; omega) (fun e => nlow g (Nat.le_refl _) e.symm),hb1.block g hgw]
   exact h.mb
  have := heap_setCell_same w7 g 1 _ _ (.slice (some ⟨gv,0,none⟩) (k + 1) cv) e
  exact this
 ·exact ((q7 h.bel hb1).grown hg (q7 h.bel hb1).size (fun q e => by have := hge q e; omega)).setCell (by dsimp only; omega) _
 ·rw [List.map_append]
  exact q1W hown (by dsimp only; omega) _
 ·have e : gs.take (k + 1) = gs.take k ++ [gs.getD k 0] := q17 hk
  rw [e,rowsG,List.map_append,List.map_append,List.map_append,h3]
  rfl
 ·intro r hr
  rcases List.mem_append.1 hr with hr | hr
  ·obtain ⟨z1,z2⟩ := h4 r hr
   refine ⟨q4D z1 (by have := hb.size; omega) (fun j hj => keep _ (z1.blk j hj) (z2 j hj).2 (by have := (z2 j hj).1; omega)),fun j hj => ⟨(z2 j hj).1,fun e => ?_⟩⟩
   injection e with e
   dsimp only at e
   rcases hl with hl | hl
   ·exact (z2 j hj).2 (by rw [hl,e])
   ·have := z1.blk j hj; have := hb.size; omega
  ·simp only [List.mem_singleton] at hr
   subst hr
   dsimp only
   have nn : ∀ j,j < len → mv.ownBlock ≠ some (adOf a j).block := fun j hj e => by have := hlt _ e; have := hnw j hj; omega
   refine ⟨q4D hz (by omega) (fun j hj => keep6 _ (hz.blk j hj) (nn j hj) (by have := hnw j hj; omega)),fun j hj => ⟨by have := hnw j hj; omega,fun e => ?_⟩⟩
   injection e with e
   dsimp only at e
   rcases hl with hl | hl
   ·exact nn j hj (by rw [hl,e])
   ·have := hz.blk j hj; omega
end Go.Proofs.Ytcnkgokfjafgkaa
