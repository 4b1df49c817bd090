/- Texts of the proof, put together: what it uses. -/
import Derived.BigQuiet
import Derived.Test.YtcnkgokfjafgkaaZ02
import Derived.Test.YtcnkgokfjafgkaaZ07
import Derived.Test.YtcnkgokfjafgkaaZ08
set_option maxRecDepth 100000
set_option maxHeartbeats 16000000
namespace Go.Proofs.Ytcnkgokfjafgkaa
open Go.RowKit Go.Maps
def BoRow (w : World) (g : Nat) (bs : List Bool) : Prop := w.heap[g]? = some (.cells (bs.map Value.bool).toArray 4 (0,0))
def zB (k : Nat) : List Bool := List.replicate k false
theorem madeB (n : Nat) : madeCells #[.bool false] n = ((zB n).map Value.bool).toArray := by
 apply Array.ext_getElem?
 intro i
 by_cases h : i < n
 ·simp [madeCells,zB,h,Nat.mod_one]
 ·simp [madeCells,zB,h]
theorem q6r : (Try.prog.info? 4).map (fun i => (i.zero,i.size,i.bytes)) = some (some (.bool false),1,1) := by kernel_rfl
theorem q3P (l c : Nat) (L C : Int) (hl : L = l) (hc : C = c) (hlc : l ≤ c) (hb : c ≤ 1000000) (w : World) :
  (Instr.makeSlice 22 (.int .i64 L) (.int .i64 C)).run Try.prog w = .ok (.slice (some ⟨w.heap.size,0,none⟩) l c) (w.alloc (.cells ((zB c).map Value.bool).toArray 4)) := by
 obtain ⟨i,hi,hz0,hz1,hz2⟩ := info_parts q6r
 have := run_make (P := Try.prog) w 22 4 i (.bool false) Try.underlying22 hi hz0 .i64 .i64 L C (by omega) (by omega) (by rw [hz2]; omega) (by omega)
 rw [this,hl,hc,hz1,← madeB]
 simp only [Int.toNat_natCast,Nat.mul_one]
 rfl
def countB (n : Int) : Bool := decide (0 ≤ n ∧ n ≤ 8)
theorem q4e (n : Int) (w : World) : Calls Try.prog 59 #[.int .i64 n] w fun e w' => e = .returned (.bool (countB n)) ∧ w = w' := by
 by_cases h0 : 0 ≤ n
 ·go_enter Try.func59,Try.ntmps59
  go_wp2
  go_ret
  exact ⟨by simp [countB,h0],rfl⟩
 ·have HX : Hid (countB n = false) := decide_eq_false (by omega)
  go_enter Try.func59,Try.ntmps59
  go_wp2
  go_ret
  exact ⟨by rw [HX.out]; rfl,rfl⟩
def traceE (n : Int) (zs : List Int) : Int := if 0 ≤ n ∧ n ≤ 8 then (if 1024 < zs.length then 3 else if zs.all (fitsB n) then 0 else 2) else 2
theorem q8U {n : Int} {zs : List Int} {k : Nat} (hk : k < zs.length) (h : (zs.take k).all (fitsB n) = true) (hf : fitsB n (zs.getD k 0) = true) : (zs.take (k + 1)).all (fitsB n) = true := by
 rw [q17 hk,List.all_append,h,List.all_cons,hf]; rfl
theorem q3r (n : Int) (a : Option Addr) (len cap : Nat) (zs : List Int) (w : World) (hS : IntSl Try.prog 27 .u8 w a len cap zs) :
  Calls Try.prog 43 #[.int .i64 n,.slice a len cap] w fun e w' => e = .returned (.int .i64 (traceE n zs)) ∧ w' = w := by
 have hb0 := hS.bd
 have hb1 := hS.hcap
 unfold maxLen at hb0
 have HL : Hid (zs.length = len) := hS.hlen
 by_cases h0 : 0 ≤ n
 ·by_cases h8 : n ≤ 8
  ·have hct : Calls Try.prog 59 #[.int .i64 n] w fun e w' => e = .returned (.bool true) ∧ w = w' := (q4e n w).mono fun e w' ⟨he,hw⟩ => ⟨by rw [he]; unfold countB; rw [decide_eq_true ⟨h0,h8⟩],hw⟩
   by_cases hlong : 1024 < len
   ·have HX : Hid (traceE n zs = 3) := by show _ = _; unfold traceE; rw [if_pos ⟨h0,h8⟩,if_pos (by rw [HL.out]; exact hlong)]
    go_enter Try.func43,Try.ntmps43
    go_wp2_with (go_at_call 59; refine hct.mono ?_; rintro e w1 ⟨rfl,rfl⟩)
    go_ret
    exact ⟨by rw [HX.out]; rfl,rfl⟩
   ·have HX : Hid (traceE n zs = if zs.all (fitsB n) then 0 else 2) := by show _ = _; unfold traceE; rw [if_pos ⟨h0,h8⟩,if_neg (by rw [HL.out]; exact hlong)]
    have hidx := fun (k : Nat) (w : World) (h : k < len) => hS.idx len k w h (Nat.le_refl _)
    go_enter Try.func43,Try.ntmps43
    go_wp2_with (go_at_call 59; refine hct.mono ?_; rintro e w1 ⟨rfl,rfl⟩)
    clear hct
    go_loop [15] (fun i => ∃ k : Nat,k ≤ len ∧ i = .int .i64 k ∧ Hid ((zs.take k).all (fitsB n) = true)) (fun i => len - (intOf i).toNat)
    case atStart => exact ⟨0,Nat.zero_le _,rfl,by show _ = _; simp⟩
    case round =>
     obtain ⟨k,hk,rfl,HU⟩ := hrel
     by_cases hlt : k < len
     ·have hck := hS.cell k hlt
      have HN : fitsB n (zs.getD k 0) = true → Hid ((zs.take (k + 1)).all (fitsB n) = true) := fun h => q8U (by rw [HL.out]; exact hlt) HU.out h
      have HF : fitsB n (zs.getD k 0) = false → Hid (zs.all (fitsB n) = false) := fun h => by
       show _ = _
       rw [List.all_eq_false]
       refine ⟨zs.getD k 0,?_,by rw [h]; decide⟩
       rw [List.getD_eq_getElem?_getD,List.getElem?_eq_getElem (by rw [HL.out]; exact hlt)]; exact List.getElem_mem _
      generalize zs.getD k 0 = x at *
      rcases Bool.eq_false_or_eq_true (fitsB n x) with hf | hf
      ·have HN2 := HN hf
       have hft : ∀ W,Calls Try.prog 60 #[.int .i64 n,.int .u8 x] W fun e w' => e = .returned (.bool true) ∧ W = w' := fun W => (q2P n x W).mono fun e w' ⟨he,hw⟩ => ⟨by rw [he,hf],hw.symm⟩
       clear hf HN HF
       go_wp2_with (go_at_call 60; refine (hft _).mono ?_; rintro e w1' ⟨rfl,rfl⟩)
       go_round
       case rel => exact ⟨k + 1,by omega,by go_num,HN2⟩
       case measure => simp [intOf]; omega
      ·have HF2 := HF hf
       have hft : ∀ W,Calls Try.prog 60 #[.int .i64 n,.int .u8 x] W fun e w' => e = .returned (.bool false) ∧ W = w' := fun W => (q2P n x W).mono fun e w' ⟨he,hw⟩ => ⟨by rw [he,hf],hw.symm⟩
       clear hf HN HF
       go_wp2_with (go_at_call 60; refine (hft _).mono ?_; rintro e w1' ⟨rfl,rfl⟩)
       go_ret
       exact ⟨by rw [HX.out,HF2.out]; rfl,rfl⟩
     ·have HF2 : Hid (zs.all (fitsB n) = true) := by have := HU.out; rw [List.take_of_length_le (by rw [HL.out]; omega)] at this; exact this
      go_wp2
      go_ret
      exact ⟨by rw [HX.out,HF2.out]; rfl,rfl⟩
  ·have HX : Hid (traceE n zs = 2) := by show _ = _; unfold traceE; rw [if_neg (by omega)]
   have h2 : decide (n ≤ 8) = false := decide_eq_false h8
   go_enter Try.func43,Try.ntmps43
   go_wp2
   go_ret
   exact ⟨by rw [HX.out]; rfl,rfl⟩
 ·have HX : Hid (traceE n zs = 2) := by show _ = _; unfold traceE; rw [if_neg (by omega)]
  go_enter Try.func43,Try.ntmps43
  go_wp2
  go_ret
  exact ⟨by rw [HX.out]; rfl,rfl⟩
theorem q6o (a : Option Addr) (len cap : Nat) (xs : List Bool) (a' : Option Addr) (len' cap' : Nat) (ys : List Bool) (w : World) (hS : BoSl w a len cap xs) (hO : BoSl w a' len' cap' ys) :
  Calls Try.prog 27 #[.slice a len cap,.slice a' len' cap'] w fun e w' => e = .returned (.bool (decide (xs = ys))) ∧ Below w.heap.size w w' := by
 have hb0 := hS.bd
 have hb1 := hS.hcap
 have hb2 := hO.bd
 have hb3 := hO.hcap
 unfold maxLen at hb0 hb2
 by_cases hll : len = len'
 ·subst hll
  go_enter Try.func27,Try.ntmps27
  go_wp2
  go_loopw [13] (fun i wr => ∃ k : Nat,k ≤ len ∧ i = .int .i64 k ∧ Hid (xs.take k = ys.take k) ∧ Hid (Below w.heap.size w wr)) (fun i _ => len - (intOf i).toNat)
  case atStart => exact ⟨0,Nat.zero_le _,rfl,by show _ = _; simp,Below.refl _ _⟩
  case round =>
   obtain ⟨k,hk,rfl,HU,hwr⟩ := hrel
   by_cases hlt : k < len
   ·obtain ⟨hi1,hx0⟩ := (hS.up hwr.out).at k hlt
    obtain ⟨hi2,hy0⟩ := (hO.up hwr.out).at k hlt
    have hidx := fun w' => hi1 len w' hlt
    have hidx' := fun w' => hi2 len w' hlt
    clear hi1 hi2
    have hxl : k < xs.length := by rw [hS.hlen]; exact hlt
    have hyl : k < ys.length := by rw [hO.hlen]; exact hlt
    have HN : Hid (xs[k] = ys[k] → xs.take (k + 1) = ys.take (k + 1)) := fun h => by
     rw [List.take_add_one,List.take_add_one,List.getElem?_eq_getElem hxl,List.getElem?_eq_getElem hyl,HU.out,h]
    have HM : Hid (xs[k] ≠ ys[k] → decide (xs = ys) = false) := fun h => decide_eq_false (fun e => h (by subst e; rfl))
    generalize xs[k] = x at *
    generalize ys[k] = y at *
    cases x <;> cases y
    all_goals
     go_wp2_with fail
     go_quiet (fail)
    ·have HN2 : Hid _ := HN.out (by simp)
     go_wp2
     go_roundw
     case rel => exact ⟨k + 1,by omega,by go_num,HN2,below_drewN hwr.out nq⟩
     case measure => simp [intOf]; omega
    ·have HM2 : Hid _ := HM.out (by decide)
     go_wp2
     go_ret
     exact ⟨by rw [HM2.out]; rfl,below_drewN hwr.out nq⟩
    ·have HM2 : Hid _ := HM.out (by decide)
     go_wp2
     go_ret
     exact ⟨by rw [HM2.out]; rfl,below_drewN hwr.out nq⟩
    ·have HN2 : Hid _ := HN.out (by simp)
     go_wp2
     go_roundw
     case rel => exact ⟨k + 1,by omega,by go_num,HN2,below_drewN hwr.out nq⟩
     case measure => simp [intOf]; omega
   ·have hx : Hid (decide (xs = ys) = true) := by
     have := HU.out
     rw [List.take_of_length_le (by rw [hS.hlen]; omega),List.take_of_length_le (by rw [hO.hlen]; omega)] at this
     exact decide_eq_true this
    go_wp2
    go_ret
    exact ⟨by rw [hx.out]; rfl,hwr.out⟩
 ·have hx : Hid (decide (xs = ys) = false) := decide_eq_false (fun e => hll (by rw [← hS.hlen,← hO.hlen,e]))
  have hll' : ((len : Int) != (len' : Int)) = true := by simp; omega
  clear hll
  go_enter Try.func27,Try.ntmps27
  go_wp2
  go_ret
  exact ⟨by rw [hx.out]; rfl,Below.refl _ _⟩
theorem q6p (a : Option Addr) (len cap : Nat) (xs : List Int) (a' : Option Addr) (len' cap' : Nat) (ys : List Int) (w : World)
  (hS : IntSl Try.prog 23 .i64 w a len cap xs) (hO : IntSl Try.prog 23 .i64 w a' len' cap' ys) :
  Calls Try.prog 28 #[.slice a len cap,.slice a' len' cap'] w fun e w' => e = .returned (.bool (decide (xs = ys))) ∧ ∃ n,w' = w.drewN n := by
 have hb0 := hS.bd
 have hb1 := hS.hcap
 have hb2 := hO.bd
 have hb3 := hO.hcap
 unfold maxLen at hb0 hb2
 by_cases hll : len = len'
 ·subst hll
  have hidx := fun (k : Nat) (w : World) (h : k < len) => hS.idx len k w h (Nat.le_refl _)
  have hidx' := fun (k : Nat) (w : World) (h : k < len) => hO.idx len k w h (Nat.le_refl _)
  go_enter Try.func28,Try.ntmps28
  go_wp2
  go_loopw [13] (fun i wr => ∃ k : Nat,k ≤ len ∧ i = .int .i64 k ∧ Hid (xs.take k = ys.take k) ∧ Hid (∃ n,wr = w.drewN n)) (fun i _ => len - (intOf i).toNat)
  case atStart => exact ⟨0,Nat.zero_le _,rfl,by show _ = _; simp,0,rfl⟩
  case round =>
   obtain ⟨k,hk,rfl,HU,hwr⟩ := hrel
   by_cases hlt : k < len
   ·have hS' : IntSl Try.prog 23 .i64 wr a len cap xs := by obtain ⟨n,hn⟩ := hwr.out; rw [hn]; exact hS.drewN n
    have hO' : IntSl Try.prog 23 .i64 wr a' len cap' ys := by obtain ⟨n,hn⟩ := hwr.out; rw [hn]; exact hO.drewN n
    have hck := hS'.cell k hlt
    have hck' := hO'.cell k hlt
    have HN : Hid (xs.getD k 0 = ys.getD k 0 → xs.take (k + 1) = ys.take (k + 1)) := fun h => q6f (by rw [hS.hlen]; exact hlt) (by rw [hO.hlen]; exact hlt) HU.out h
    have HM : Hid (xs.getD k 0 ≠ ys.getD k 0 → decide (xs = ys) = false) := fun h => decide_eq_false (fun e => h (by rw [e]))
    clear hS' hO'
    generalize xs.getD k 0 = x at *
    generalize ys.getD k 0 = y at *
    go_wp2
    go_quiet (fail)
    rcases Bool.eq_false_or_eq_true (x != y) with ht | ht
    ·go_wp2
     go_ret
     obtain ⟨n,hn⟩ := hwr.out
     exact ⟨by rw [HM.out (by simpa using ht)]; rfl,n + nq,by rw [hn,World.drewN_drewN]⟩
    ·have HN2 : Hid _ := HN.out (by simpa using ht)
     go_wp2
     go_roundw
     case rel =>
      obtain ⟨n,hn⟩ := hwr.out
      exact ⟨k + 1,by omega,by go_num,HN2,n + nq,by rw [hn,World.drewN_drewN]⟩
     case measure => simp [intOf]; omega
   ·have hx : Hid (decide (xs = ys) = true) := by
     have := HU.out
     rw [List.take_of_length_le (by rw [hS.hlen]; omega),List.take_of_length_le (by rw [hO.hlen]; omega)] at this
     exact decide_eq_true this
    go_wp2
    go_ret
    exact ⟨by rw [hx.out]; rfl,hwr.out⟩
 ·have hx : Hid (decide (xs = ys) = false) := decide_eq_false (fun e => hll (by rw [← hS.hlen,← hO.hlen,e]))
  have hll' : ((len : Int) != (len' : Int)) = true := by simp; omega
  clear hll
  go_enter Try.func28,Try.ntmps28
  go_wp2
  go_ret
  exact ⟨by rw [hx.out]; rfl,0,rfl⟩
theorem q5C (a : Option Addr) (len cap : Nat) (xs : List Gd) (a' : Option Addr) (len' cap' : Nat) (ys : List Gd) (w : World)
  (hS : NdSl w a len cap xs) (hO : NdSl w a' len' cap' ys) :
  Calls Try.prog 29 #[.slice a len cap,.slice a' len' cap'] w fun e w' => e = .returned (.bool (decide (xs = ys))) ∧ Below w.heap.size w w' := by
 have hb0 := hS.bd
 have hb1 := hS.hcap
 have hb2 := hO.bd
 have hb3 := hO.hcap
 unfold maxLen at hb0 hb2
 by_cases hll : len = len'
 ·subst hll
  go_enter Try.func29,Try.ntmps29
  go_wp2
  go_loopw [13] (fun i wr => ∃ k : Nat,k ≤ len ∧ i = .int .i64 k ∧ Hid (xs.take k = ys.take k) ∧ Hid (Below w.heap.size w wr)) (fun i _ => len - (intOf i).toNat)
  case atStart => exact ⟨0,Nat.zero_le _,rfl,by show _ = _; simp,Below.refl _ _⟩
  case round =>
   obtain ⟨k,hk,rfl,HU,hwr⟩ := hrel
   by_cases hlt : k < len
   ·obtain ⟨g1,o1,s1,hi1,hx0,hx1,hx2,_,_,_⟩ := (hS.up hwr.out).at Try.underlying24 qp k hlt
    obtain ⟨g2,o2,s2,hi2,hy0,hy1,hy2,_,_,_⟩ := (hO.up hwr.out).at Try.underlying24 qp k hlt
    have hidx := fun w' => hi1 len w' hlt
    have hidx' := fun w' => hi2 len w' hlt
    clear hi1 hi2
    have HN : Hid (xs.getD k (0,0,0) = ys.getD k (0,0,0) → xs.take (k + 1) = ys.take (k + 1)) := fun h => q7N (by rw [hS.hlen]; exact hlt) (by rw [hO.hlen]; exact hlt) HU.out h
    have HM : Hid (xs.getD k (0,0,0) ≠ ys.getD k (0,0,0) → decide (xs = ys) = false) := fun h => decide_eq_false (fun e => h (by rw [e]))
    generalize xs.getD k (0,0,0) = x at *
    generalize ys.getD k (0,0,0) = y at *
    obtain ⟨x0,x1,x2⟩ := x
    obtain ⟨y0,y1,y2⟩ := y
    have hne := q6u x0 x1 x2 y0 y1 y2
    have HD : Hid (∀ b,decide (((x0,x1,x2) : Gd) = (y0,y1,y2)) = b → b = true → ((x0,x1,x2) : Gd) = (y0,y1,y2)) := fun b h1 h2 => of_decide_eq_true (h1.trans h2)
    have HE : Hid (∀ b,decide (((x0,x1,x2) : Gd) = (y0,y1,y2)) = b → b = false → ((x0,x1,x2) : Gd) ≠ (y0,y1,y2)) := fun b h1 h2 => of_decide_eq_false (h1.trans h2)
    generalize hq : decide (((x0,x1,x2) : Gd) = (y0,y1,y2)) = q at hne
    go_wp2_with fail
    go_quiet (fail)
    cases q with
    | false =>
     have HM2 : Hid _ := HM.out (HE.out false hq rfl)
     go_wp2
     go_ret
     exact ⟨by rw [HM2.out]; rfl,below_drewN hwr.out nq⟩
    | true =>
     have HN2 : Hid _ := HN.out (HD.out true hq rfl)
     go_wp2
     go_roundw
     case rel => exact ⟨k + 1,by omega,by go_num,HN2,below_drewN hwr.out nq⟩
     case measure => simp [intOf]; omega
   ·have hx : Hid (decide (xs = ys) = true) := by
     have := HU.out
     rw [List.take_of_length_le (by rw [hS.hlen]; omega),List.take_of_length_le (by rw [hO.hlen]; omega)] at this
     exact decide_eq_true this
    go_wp2
    go_ret
    exact ⟨by rw [hx.out]; rfl,hwr.out⟩
 ·have hx : Hid (decide (xs = ys) = false) := decide_eq_false (fun e => hll (by rw [← hS.hlen,← hO.hlen,e]))
  have hll' : ((len : Int) != (len' : Int)) = true := by simp; omega
  clear hll
  go_enter Try.func29,Try.ntmps29
  go_wp2
  go_ret
  exact ⟨by rw [hx.out]; rfl,Below.refl _ _⟩
def sameC (p : Int) (bs : List Bool) (gs : List Int) (N : List Gd) (q : Int) (cs : List Bool) (hs : List Int) (M : List Gd) : Bool := decide (p = q) && decide (bs = cs) && decide (gs = hs) && decide (N = M)
theorem q2H (p : Int) (aA : Option Addr) (nA cA : Nat) (aG : Option Addr) (nG cG : Nat) (aN : Option Addr) (nN cN : Nat) (q : Int) (bA : Option Addr) (mA dA : Nat) (bG : Option Addr) (mG dG : Nat) (bN : Option Addr) (mN dN : Nat) (bs : List Bool) (gs : List Int) (N : List Gd) (cs : List Bool) (hs : List Int) (M : List Gd) (w : World)
  (h1 : BoSl w aA nA cA bs) (h2 : ZSl w aG nG cG gs) (h3 : NdSl w aN nN cN N) (k1 : BoSl w bA mA dA cs) (k2 : ZSl w bG mG dG hs) (k3 : NdSl w bN mN dN M) :
  Calls Try.prog 13 #[.agg #[.int .i64 p,.slice aA nA cA,.slice aG nG cG,.slice aN nN cN],.agg #[.int .i64 q,.slice bA mA dA,.slice bG mG dG,.slice bN mN dN]] w fun e w' => e = .returned (.bool (sameC p bs gs N q cs hs M)) ∧ Below w.heap.size w w' := by
 obtain ⟨Q,hQ⟩ : ∃ Q : Ending → World → Prop,Q = fun e w' => e = .returned (.bool (sameC p bs gs N q cs hs M)) ∧ Below w.heap.size w w' := ⟨_,rfl⟩
 have HQ : Hid (∀ b w',b = sameC p bs gs N q cs hs M → Below w.heap.size w w' → Q (.returned (.bool b)) w') := fun b w' h hb => by rw [hQ,h]; exact ⟨rfl,hb⟩
 rw [← hQ]
 clear hQ
 have HA0 : Hid _ := qj w p aA nA cA aG nG cG aN nN cN
 have HB0 : Hid _ := q5 w (.cells #[.int .i64 p,.slice aA nA cA,.slice aG nG cG,.slice aN nN cN] 26 (0,0))
 have HS1 : Hid (∀ w',Below w.heap.size w w' → Calls Try.prog 27 #[.slice aA nA cA,.slice bA mA dA] w' fun e w2 => e = .returned (.bool (decide (bs = cs))) ∧ Below w'.heap.size w' w2) := fun w' hb => q6o aA nA cA bs bA mA dA cs w' (h1.up hb) (k1.up hb)
 have HS2 : Hid (∀ w',Below w.heap.size w w' → Calls Try.prog 28 #[.slice aG nG cG,.slice bG mG dG] w' fun e w2 => e = .returned (.bool (decide (gs = hs))) ∧ Below w'.heap.size w' w2) := fun w' hb =>
  (q6p aG nG cG gs bG mG dG hs w' (h2.up hb) (k2.up hb)).mono fun e w2 ⟨he,hn⟩ => ⟨he,q6D hn⟩
 have HS3 : Hid (∀ w',Below w.heap.size w w' → Calls Try.prog 29 #[.slice aN nN cN,.slice bN mN dN] w' fun e w2 => e = .returned (.bool (decide (N = M))) ∧ Below w'.heap.size w' w2) := fun w' hb => q5C aN nN cN N bN mN dN M w' (h3.up hb) (k3.up hb)
 clear h1 h2 h3 k1 k2 k3
 generalize hw1 : w.alloc (.cells #[.int .i64 p,.slice aA nA cA,.slice aG nG cG,.slice aN nN cN] 26 (0,0)) = w1 at *
 have Hw1 : Hid _ := hw1
 have HA1 : Hid _ := qj w1 q bA mA dA bG mG dG bN mN dN
 have HBn : Hid _ := q5 w1 (.cells #[.int .i64 q,.slice bA mA dA,.slice bG mG dG,.slice bN mN dN] 26 (0,0))
 have HB1 : Hid _ := q7 HB0.out HBn.out
 have HA2 : Hid _ := HA0.out.up HBn.out
 obtain ⟨c0,c1,c2,c3⟩ := HA2.out
 obtain ⟨d0,d1,d2,d3⟩ := HA1.out
 have j1 := HS1.out _ HB1.out
 rw [← hw1] at c0 c1 c2 c3 d0 d1 d2 d3 j1
 by_cases hpq : p = q
 ·have dpq : (p == q) = true := by simpa using hpq
  have HD : Hid (decide (p = q) = true) := decide_eq_true hpq
  clear hw1 hpq
  go_enter Try.func13,Try.ntmps13
  go_wp2_with fail
  refine j1.mono ?_
  rw [Hw1.out]
  rintro e w2 ⟨rfl,hb2⟩
  have HA3 : Hid _ := HA2.out.up hb2
  have HA4 := HA1.out.up hb2
  rw [← Hw1.out,q6C] at HA4
  have HA4 : Hid _ := HA4
  have HB2 : Hid _ := HB1.out.trans (hb2.mono HB1.out.size)
  clear c0 c1 c2 c3 d0 d1 d2 d3 j1 hb2
  have j2 := HS2.out _ HB2.out
  obtain ⟨c0,c1,c2,c3⟩ := HA3.out
  obtain ⟨d0,d1,d2,d3⟩ := HA4.out
  by_cases hbc : bs = cs
  ·have HD2 : Hid (decide (bs = cs) = true) := decide_eq_true hbc
   rw [HD2.out]
   clear hbc
   go_wp2_with fail
   refine j2.mono ?_
   rintro e w3 ⟨rfl,hb3⟩
   have HA5 : Hid _ := HA3.out.up hb3
   have HA6 : Hid _ := HA4.out.up hb3
   have HB3 : Hid _ := HB2.out.trans (hb3.mono HB2.out.size)
   clear c0 c1 c2 c3 d0 d1 d2 d3 j2 hb3
   have j3 := HS3.out _ HB3.out
   obtain ⟨c0,c1,c2,c3⟩ := HA5.out
   obtain ⟨d0,d1,d2,d3⟩ := HA6.out
   by_cases hgh : gs = hs
   ·have HD3 : Hid (decide (gs = hs) = true) := decide_eq_true hgh
    rw [HD3.out]
    clear hgh
    go_wp2_with fail
    refine j3.mono ?_
    rintro e w4 ⟨rfl,hb4⟩
    have HE : Hid _ := HQ.out (decide (N = M)) w4 (by rw [sameC,HD.out,HD2.out,HD3.out]; rfl) (HB3.out.trans (hb4.mono HB3.out.size))
    clear c0 c1 c2 c3 d0 d1 d2 d3 j3 hb4
    generalize decide (N = M) = z at *
    go_wp2
    exact HE.out
   ·have HE : Hid _ := HQ.out false w3 (by rw [sameC,HD.out,HD2.out,decide_eq_false hgh]; rfl) HB3.out
    rw [decide_eq_false hgh]
    clear hgh
    go_wp2
    exact HE.out
  ·have HE : Hid _ := HQ.out false w2 (by rw [sameC,HD.out,decide_eq_false hbc]; rfl) HB2.out
   rw [decide_eq_false hbc]
   clear hbc
   go_wp2
   exact HE.out
 ·have dpq : (p == q) = false := by simpa using hpq
  have HE : Hid _ := HQ.out false _ (by rw [sameC,decide_eq_false hpq]; rfl) HB1.out
  rw [← hw1] at HE
  clear hw1 hpq
  go_enter Try.func13,Try.ntmps13
  go_wp2
  exact HE.out
end Go.Proofs.Ytcnkgokfjafgkaa
