/- Texts of the proof, put together: what it uses. -/
import Derived.Lib.QuietBelow
import Derived.BigQuiet
import Derived.BigRegion
import Derived.Test.YtehddcdgpamaaaaZ04
import Derived.Test.YtehddcdgpamaaaaZ07
import Derived.Test.YtehddcdgpamaaaaZ10
import Derived.Test.YtehddcdgpamaaaaZ11
import Derived.Test.YtehddcdgpamaaaaZ12
import Derived.Test.YtehddcdgpamaaaaZ13
set_option maxRecDepth 100000
set_option maxHeartbeats 16000000
namespace Go.Proofs.Ytehddcdgpamaaaa
open Go.RowKit Go.Maps Go.Sort
theorem q23 {p : Int} {ns : Nat} {N : List Gd} {gs : List Int} (h : MayG p ns N gs) {q : Nat} (hq : q < gs.length) : I64 (gs.getD q 0) := by
 have hg : gs.getD q 0 ∈ gs := by rw [qg hq]; exact List.getElem_mem hq
 have h1 := h.few
 have h0 := h.s2
 unfold I64
 rcases h.gd _ hg with ⟨h2,h3⟩ | ⟨j,h2,h3,_⟩
 ·constructor <;> omega
 ·rw [h2]; constructor <;> omega
theorem q1H {p : Int} {ns : Nat} {N : List Gd} {gs : List Int} (h : MayG p ns N gs) (x : Nat) : fitsB p (x : Int) = decide (x < 2 ^ p.toNat) := by
 have h0 := h.p0
 have h8 := h.p8
 rw [q3T h0 h8]
 have e : (x : Int) / 2 ^ p.toNat = ((x / 2 ^ p.toNat : Nat) : Int) := by simp
 rw [e,Bool.eq_iff_iff,beq_iff_eq,decide_eq_true_iff]
 have hp := Nat.two_pow_pos p.toNat
 constructor
 ·intro h1
  have : x / 2 ^ p.toNat = 0 := by omega
  rcases Nat.div_eq_zero_iff.1 this with h | h
  ·omega
  ·exact h
 ·intro h1
  rw [Nat.div_eq_of_lt h1]; rfl
def NxA (p : Int) (nA : Nat) (N : List Gd) (gs : List Int) (q : Int) (x : Nat) (v r : Int) : Prop :=
 (¬ MayG p nA N gs ∧ v = 0 ∧ r = 12) ∨ (MayG p nA N gs ∧ ¬ (0 ≤ q ∧ q < (nA : Int) ∧ x < 2 ^ p.toNat) ∧ v = 0 ∧ r = 2) ∨
  (MayG p nA N gs ∧ (0 ≤ q ∧ q < (nA : Int) ∧ x < 2 ^ p.toNat) ∧ v = ((trP (rwA p N gs) q.toNat x : Nat) : Int) ∧ r = 0)
theorem NxA.uni {p : Int} {nA : Nat} {N : List Gd} {gs : List Int} {q : Int} {x : Nat} {v r v' r' : Int} (h : NxA p nA N gs q x v r) (h' : NxA p nA N gs q x v' r') : v = v' ∧ r = r' := by
 rcases h with ⟨h1,h2,h3⟩ | ⟨h1,h2,h3,h4⟩ | ⟨h1,h2,h3,h4⟩ <;> rcases h' with ⟨k1,k2,k3⟩ | ⟨k1,k2,k3,k4⟩ | ⟨k1,k2,k3,k4⟩ <;> first
  | exact absurd k1 h1
  | exact absurd h1 k1
  | exact absurd k2 h2
  | exact absurd h2 k2
  | exact ⟨by omega,by omega⟩
def NxR (p : Int) (nA : Nat) (N : List Gd) (gs : List Int) (q : Int) (x : Nat) (w : World) (e : Ending) (w' : World) : Prop := Below w.heap.size w w' ∧ ∃ v r,e = .returned (.tuple #[.int .i64 v,.int .i64 r]) ∧ NxA p nA N gs q x v r
def RuA (p : Int) (nA : Nat) (N : List Gd) (gs : List Int) (ts : List Nat) (v r : Int) : Prop :=
 (¬ MayG p nA N gs ∧ v = 0 ∧ r = 12) ∨ (MayG p nA N gs ∧ traceE p (ts.map Int.ofNat) ≠ 0 ∧ v = 0 ∧ r = traceE p (ts.map Int.ofNat)) ∨
  (MayG p nA N gs ∧ traceE p (ts.map Int.ofNat) = 0 ∧ v = ((runP (rwA p N gs) 0 ts : Nat) : Int) ∧ r = 0)
theorem RuA.uni {p : Int} {nA : Nat} {N : List Gd} {gs : List Int} {ts : List Nat} {v r v' r' : Int} (h : RuA p nA N gs ts v r) (h' : RuA p nA N gs ts v' r') : v = v' ∧ r = r' := by
 rcases h with ⟨h1,h2,h3⟩ | ⟨h1,h2,h3,h4⟩ | ⟨h1,h2,h3,h4⟩ <;> rcases h' with ⟨k1,k2,k3⟩ | ⟨k1,k2,k3,k4⟩ | ⟨k1,k2,k3,k4⟩ <;> first
  | exact absurd k1 h1
  | exact absurd h1 k1
  | exact absurd k2 h2
  | exact absurd h2 k2
  | exact ⟨by omega,by omega⟩
def RuR (p : Int) (nA : Nat) (N : List Gd) (gs : List Int) (ts : List Nat) (w : World) (e : Ending) (w' : World) : Prop := Below w.heap.size w w' ∧ ∃ v r,e = .returned (.tuple #[.int .i64 v,.int .i64 r]) ∧ RuA p nA N gs ts v r
theorem q4u {p : Int} {nA : Nat} {N : List Gd} {gs : List Int} (h : MayG p nA N gs) {ts : List Nat} (ht : traceE p (ts.map Int.ofNat) = 0) : ∀ x ∈ ts,x < 2 ^ p.toNat := fun x hx => by
 have h0 := h.p0
 have h8 := h.p8
 unfold traceE at ht
 rw [if_pos ⟨h0,h8⟩] at ht
 split at ht
 ·cases ht
 ·split at ht
  ·rename_i h1
   rw [List.all_eq_true] at h1
   have := h1 (x : Int) (List.mem_map.2 ⟨x,hx,rfl⟩)
   rw [q1H h] at this
   exact of_decide_eq_true this
  ·cases ht
theorem q1M {p : Int} {nA : Nat} {N : List Gd} {gs : List Int} (h : MayG p nA N gs) {ts : List Nat} (hl : ts.length ≤ 1024) (ht : ∀ x ∈ ts,x < 2 ^ p.toNat) : traceE p (ts.map Int.ofNat) = 0 := by
 have h0 := h.p0
 have h8 := h.p8
 unfold traceE
 rw [if_pos ⟨h0,h8⟩,if_neg (by rw [List.length_map]; omega),if_pos]
 rw [List.all_eq_true]
 intro z hz
 obtain ⟨x,hx,rfl⟩ := List.mem_map.1 hz
 exact (q1H h x).trans (decide_eq_true (ht x hx))
abbrev LtC (w : World) (a : Option Addr) (len cap : Nat) (ts : List Nat) : Prop := IntSl Try.prog 40 .u8 w a len cap (ts.map Int.ofNat)
theorem q1f (p : Int) (aA : Option Addr) (nA cA : Nat) (aG : Option Addr) (nG cG : Nat) (aN : Option Addr) (nN cN : Nat) (N : List Gd) (gs : List Int) (q z : Nat) (w : World) (hM : MayG p nA N gs) (hN : NdSl w aN nN cN N) (hG : ZSl w aG nG cG gs) (hq : q < nA) (hz : z < 2 ^ p.toNat) :
  Calls Try.prog 47 #[.agg #[.int .i64 p,.slice aA nA cA,.slice aG nG cG,.slice aN nN cN],.int .i64 (q : Int),.int .u8 (z : Int)] w fun e w' => e = .returned (.int .i64 ((trP (rwA p N gs) q z : Nat) : Int)) ∧ Below w.heap.size w w' := by
 have hb0 := qb w (.cells #[.int .i64 p,.slice aA nA cA,.slice aG nG cG,.slice aN nN cN] 26 (0,0))
 obtain ⟨c0,c1,c2,c3⟩ := qf w p aA nA cA aG nG cG aN nN cN
 have hv1 := hM.tr (K := 2 ^ p.toNat) (s := q) (x := z) hq hz
 have hqR : q < nG := by have h1 := hG.hlen; have h2 := hM.len; omega
 have hixg := fun w' => hG.idx nG q w' hqR (Nat.le_refl _)
 have hcg := (hG.up hb0).cell q hqR
 have hi64 := q23 hM (q := q) (by have h2 := hM.len; omega)
 have hk256 := hM.k256
 have h256 := hM.s2
 have hz256 : z < 256 := by omega
 have hq256 : q < 256 := by omega
 have HB0 : Hid _ := hb0
 obtain ⟨w1,hw1⟩ : ∃ w1,w1 = w.alloc (.cells #[.int .i64 p,.slice aA nA cA,.slice aG nG cG,.slice aN nN cN] 26 (0,0)) := ⟨_,rfl⟩
 rw [← hw1] at HB0 c0 c1 c2 c3 hcg
 have hN1 := hN.up hb0
 rw [← hw1] at hN1
 have cS : ∀ d os,Calls Try.prog 70 #[.slice aN nN cN,.int .i64 (gs.getD q 0),.int .u8 (z : Int)] (grow (redrawn w1 d) os) fun e w'' => e = .returned (.tuple #[.int .i64 ((trP (rwA p N gs) q z : Nat) : Int),.bool true]) ∧ ∃ p : Regrown,w'' = grow (redrawn w1 p.d) p.os := fun d os => by
  have hb := below_regrown w1 d os
  refine (q2J aN nN cN N (gs.getD q 0) z _ (hN1.up hb) hi64 hz256).mono ?_
  rintro e w'' ⟨rfl,h2⟩
  rw [hv1]
  exact ⟨rfl,regrown_of_below (qa hb h2)⟩
 have HE : Hid (∀ d os,Below w.heap.size w (grow (redrawn w1 d) os)) := fun d os => qa HB0.out (below_regrown w1 d os)
 have dq0 : decide ((q : Int) < 0) = false := by simp
 have dq1 : decide (nG ≤ q) = false := by simp; exact hqR
 have k2 := cell_regrown c2
 have k3 := cell_regrown c3
 have kg := cell_regrown hcg
 have HW1 : Hid _ := hw1
 clear hcg hi64 hN hG hN1 hM c0 c1 c2 c3 hv1 hz hb0 hq h256 hk256 HB0 hw1
 generalize gs.getD q 0 = rq at *
 generalize trP (rwA p N gs) q z = v at *
 generalize adOf aG q = ag at *
 obtain ⟨ag1,ag2,ag3⟩ := ag
 go_enter Try.func47,Try.ntmps47
 go_wp2_with fail
 rw [← HW1.out]
 refine wp_region_quiet_below (by kernel_rfl) (by kernel_rfl) ?_
 repeat (go_big_quiet_step (exact cS _ _))
 refine wpQuiet_nil ?_
 intro _ hw'
 obtain ⟨⟨dq,osq⟩,hw''⟩ := hw'
 subst hw''
 have HI3 : Hid _ := HE.out dq osq
 generalize grow (redrawn w1 dq) osq = wx at *
 clear cS k2 k3 kg HE
 go_wp2
 go_ret
 exact ⟨rfl,HI3.out⟩
theorem q28 (p : Int) (aA : Option Addr) (nA cA : Nat) (aG : Option Addr) (nG cG : Nat) (aN : Option Addr) (nN cN : Nat) (N : List Gd) (gs : List Int) (q : Int) (x : Nat) (w : World) (hN : NdSl w aN nN cN N) (hG : ZSl w aG nG cG gs) (hok : ∀ z ∈ gs,I64 z) (_ : x < 256) :
  Calls Try.prog 19 #[.agg #[.int .i64 p,.slice aA nA cA,.slice aG nG cG,.slice aN nN cN],.int .i64 q,.int .u8 (x : Int)] w (NxR p nA N gs q x w) := by
 obtain ⟨Z,eZ⟩ : ∃ Z,Z = NxR p nA N gs q x w := ⟨_,rfl⟩
 have HZ : Hid (∀ v r w',Below w.heap.size w w' → NxA p nA N gs q x v r → Z (.returned (.tuple #[.int .i64 v,.int .i64 r])) w') := fun v r w' hb h => by rw [eZ]; exact ⟨hb,v,r,rfl,h⟩
 rw [← eZ]
 clear eZ
 have hb0 := qb w (.cells #[.int .i64 p,.slice aA nA cA,.slice aG nG cG,.slice aN nN cN] 26 (0,0))
 have HB0 : Hid _ := hb0
 have HV0 : Hid _ := qf w p aA nA cA aG nG cG aN nN cN
 obtain ⟨c0,c1,c2,c3⟩ := HV0.out
 have HN : Hid _ := hN
 have HG : Hid _ := hG
 have jc := q12 p aA nA cA aG nG cG aN nN cN N gs _ (hN.up hb0) (hG.up hb0) hok
 have jf := fun w => q1l p (x : Int) w
 clear hN hG hok hb0
 go_enter Try.func19,Try.ntmps19
 go_wp2_with fail
 refine jc.mono ?_
 rintro e w2 ⟨hb2,v,rfl,⟨rfl,hM⟩ | ⟨rfl,hM⟩⟩
 ·obtain ⟨d0,d1,d2,d3⟩ := HV0.out.up hb2
  have hbb := qa HB0.out hb2
  have HBB : Hid _ := hbb
  have h256 := hM.s2
  rw [q1H hM] at jf
  by_cases h1 : q < 0
  ·have HE : Hid _ := HZ.out 0 2 w2 hbb (.inr (.inl ⟨hM,by omega,rfl,rfl⟩))
   have e1 : decide (q < 0) = true := decide_eq_true h1
   clear jc jf hM c0 c1 c2 c3 HZ HV0 hb2 hbb
   go_wp2
   exact HE.out
  ·obtain ⟨k,rfl⟩ : ∃ k : Nat,q = (k : Int) := ⟨q.toNat,by omega⟩
   have e1 : decide ((k : Int) < 0) = false := decide_eq_false h1
   by_cases h2 : nA ≤ k
   ·have HE : Hid _ := HZ.out 0 2 w2 hbb (.inr (.inl ⟨hM,by omega,rfl,rfl⟩))
    have e2 : decide (nA ≤ k) = true := decide_eq_true h2
    have e3 : decide ((nA : Int) ≤ (k : Int)) = true := decide_eq_true (by omega)
    clear jc jf hM c0 c1 c2 c3 HZ HV0 hb2 hbb
    go_wp2
    exact HE.out
   ·have e2 : decide (nA ≤ k) = false := decide_eq_false h2
    have e3 : decide ((nA : Int) ≤ (k : Int)) = false := decide_eq_false (by omega)
    by_cases h3 : x < 2 ^ p.toNat
    ·rw [decide_eq_true h3] at jf
     have js := q1f p aA nA cA aG nG cG aN nN cN N gs k x w2 hM (HN.out.up hbb) (HG.out.up hbb) (by omega) h3
     have HE : Hid (∀ w',Below w2.heap.size w2 w' → Z (.returned (.tuple #[.int .i64 ((trP (rwA p N gs) k x : Nat) : Int),.int .i64 0])) w') := fun w' hb => HZ.out _ _ w' (qa HBB.out hb) (.inr (.inr ⟨hM,by omega,by simp,rfl⟩))
     clear jc hM c0 c1 c2 c3 HZ HV0 hb2 hbb h3
     generalize trP (rwA p N gs) k x = vv at *
     go_wp2_with (go_at_call 46; (with_reducible refine (jf _).mono ?_); rintro e w' ⟨rfl,hw1⟩; obtain rfl := hw1.symm)
     refine js.mono ?_
     rintro e w3 ⟨rfl,hb3⟩
     have HE3 : Hid _ := HE.out w3 hb3
     clear js jf HE hb3
     go_wp2
     exact HE3.out
    ·rw [decide_eq_false h3] at jf
     have HE : Hid _ := HZ.out 0 2 w2 hbb (.inr (.inl ⟨hM,by omega,rfl,rfl⟩))
     clear jc hM c0 c1 c2 c3 HZ HV0 hb2 hbb h3
     go_wp2_with (go_at_call 46; (with_reducible refine (jf _).mono ?_); rintro e w' ⟨rfl,hw1⟩; obtain rfl := hw1.symm)
     exact HE.out
 ·have HE : Hid _ := HZ.out 0 12 w2 (qa HB0.out hb2) (.inl ⟨hM,rfl,rfl⟩)
  clear jc jf hb2 hM c0 c1 c2 c3 HZ
  go_wp2
  exact HE.out
theorem q11 (p : Int) (aA : Option Addr) (nA cA : Nat) (aG : Option Addr) (nG cG : Nat) (aN : Option Addr) (nN cN : Nat) (N : List Gd) (gs : List Int) (d : Option Addr) (m c : Nat) (ts : List Nat) (w : World) (hN : NdSl w aN nN cN N) (hG : ZSl w aG nG cG gs) (hok : ∀ z ∈ gs,I64 z) (hL : LtC w d m c ts) (_ : ∀ x ∈ ts,x < 256) :
  Calls Try.prog 21 #[.agg #[.int .i64 p,.slice aA nA cA,.slice aG nG cG,.slice aN nN cN],.slice d m c] w (RuR p nA N gs ts w) := by
 obtain ⟨Z,eZ⟩ : ∃ Z,Z = RuR p nA N gs ts w := ⟨_,rfl⟩
 have HZ : Hid (∀ v r w',Below w.heap.size w w' → RuA p nA N gs ts v r → Z (.returned (.tuple #[.int .i64 v,.int .i64 r])) w') := fun v r w' hb h => by rw [eZ]; exact ⟨hb,v,r,rfl,h⟩
 rw [← eZ]
 clear eZ
 have hb0 := qb w (.cells #[.int .i64 p,.slice aA nA cA,.slice aG nG cG,.slice aN nN cN] 26 (0,0))
 have HB0 : Hid _ := hb0
 have HV0 : Hid _ := qf w p aA nA cA aG nG cG aN nN cN
 obtain ⟨c0,c1,c2,c3⟩ := HV0.out
 have HN : Hid _ := hN
 have HG : Hid _ := hG
 have HL : Hid _ := hL
 have HLN : Hid (ts.length = m) := by have := hL.hlen; rwa [List.length_map] at this
 have hmb := Nat.le_trans hL.hcap hL.bd
 unfold maxLen at hmb
 have jc := q12 p aA nA cA aG nG cG aN nN cN N gs _ (hN.up hb0) (hG.up hb0) hok
 have jt := fun w' (hb : Below w.heap.size w w') => q2P p d m c (ts.map Int.ofNat) w' (hL.up hb)
 clear hN hG hok hb0 hL
 go_enter Try.func21,Try.ntmps21
 go_wp2_with fail
 refine jc.mono ?_
 rintro e w2 ⟨hb2,v,rfl,⟨rfl,hM⟩ | ⟨rfl,hM⟩⟩
 ·have HV2 : Hid _ := HV0.out.up hb2
  obtain ⟨d0,d1,d2,d3⟩ := HV2.out
  have hbb := qa HB0.out hb2
  have HBB : Hid _ := hbb
  have jt := jt w2 hbb
  have h256 := hM.s2
  have h1n := hM.s1
  have hk256 := hM.k256
  by_cases hE : traceE p (ts.map Int.ofNat) = 0
  ·rw [hE] at jt
   have HT : Hid _ := q4u hM hE
   have HM : Hid _ := hM
   have HR : Hid _ := hM.rows (2 ^ p.toNat)
   have HEn : Hid (∀ w',Below w.heap.size w w' → Z (.returned (.tuple #[.int .i64 ((runP (rwA p N gs) 0 ts : Nat) : Int),.int .i64 0])) w') := fun w' hb => HZ.out _ _ w' hb (.inr (.inr ⟨hM,hE,rfl,rfl⟩))
   clear jc c0 c1 c2 c3 HZ HV0 hb2 hbb hE hM
   go_wp2_with (go_at_call 49; (with_reducible refine jt.mono ?_); rintro e w' ⟨rfl,hw1⟩; obtain rfl := hw1.symm)
   clear d0 d1 d2 d3 jt
   go_loopw [8,25] (fun v j wr => ∃ (i q : Nat),i ≤ m ∧ j = .int .i64 (i : Int) ∧ v = .int .i64 (q : Int) ∧ Hid (Below w2.heap.size w2 wr ∧ q < nA ∧ q = runP (rwA p N gs) 0 (ts.take i))) (fun _ j _ => m - (intOf j).toNat)
   case atStart => exact ⟨0,0,Nat.zero_le _,rfl,rfl,Below.refl _ _,by omega,rfl⟩
   case round =>
    obtain ⟨i,q,hi,rfl,rfl,HI⟩ := hrel
    have hq := HI.out.2.1
    have hbw := qa HBB.out HI.out.1
    obtain ⟨c0,c1,c2,c3⟩ := HV2.out.up HI.out.1
    by_cases hlt : i < m
    ·have hit : i < ts.length := by have := HLN.out; omega
     have hS := HL.out.up hbw
     have hixl := fun w' => hS.idx m i w' hlt (Nat.le_refl _)
     have hcl := hS.cell i hlt
     rw [qy hit] at hcl
     have hzn : ts.getD i 0 < 2 ^ p.toNat := HT.out _ (qG hit)
     have hv2 := HR.out.lt q (ts.getD i 0) hq hzn
     have js := q1f p aA nA cA aG nG cG aN nN cN N gs q (ts.getD i 0) wr HM.out (HN.out.up hbw) (HG.out.up hbw) hq hzn
     have HJS : Hid (∀ wx,Below wr.heap.size wr wx → Calls Try.prog 47 #[.agg #[.int .i64 p,.slice aA nA cA,.slice aG nG cG,.slice aN nN cN],.int .i64 (q : Int),.int .u8 ((ts.getD i 0 : Nat) : Int)] wx fun e w' => e = .returned (.int .i64 ((trP (rwA p N gs) q (ts.getD i 0) : Nat) : Int)) ∧ Below wx.heap.size wx w') := fun wx hb => q1f p aA nA cA aG nG cG aN nN cN N gs q (ts.getD i 0) wx HM.out ((HN.out.up hbw).up hb) ((HG.out.up hbw).up hb) hq hzn
     have HI2 : Hid (∀ wx,Below wr.heap.size wr wx → Below w2.heap.size w2 wx ∧ trP (rwA p N gs) q (ts.getD i 0) < nA ∧ trP (rwA p N gs) q (ts.getD i 0) = runP (rwA p N gs) 0 (ts.take (i + 1))) := fun wx hb => ⟨qa HI.out.1 hb,hv2,by
      rw [qZ hit,q4q,← HI.out.2.2]⟩
     generalize ts.getD i 0 = z at *
     have hz256 : z < 256 := by omega
     clear hS HI hv2 hzn hbw
     go_wp2_with fail
     refine js.mono ?_
     rintro e w3 ⟨rfl,hb3⟩
     have HI3 : Hid _ := HI2.out w3 hb3
     clear js HI2 hb3
     go_wp2
     go_roundw
     case rel => exact ⟨i + 1,_,by omega,by go_num,rfl,HI3⟩
     case measure => simp [intOf] <;> omega
    ·obtain rfl : i = m := by omega
     have hfin : q = runP (rwA p N gs) 0 ts := by rw [HI.out.2.2,List.take_of_length_le (by rw [HLN.out]; exact Nat.le_refl _)]
     have HR2 : Hid _ := HEn.out wr hbw
     rw [← hfin] at HR2
     clear HI hfin hbw HEn c0 c1 c2 c3
     go_wp2
     exact HR2.out
  ·have HE : Hid _ := HZ.out 0 _ w2 hbb (.inr (.inl ⟨hM,hE,rfl,rfl⟩))
   have e5 : (traceE p (ts.map Int.ofNat) != 0) = true := by simpa using hE
   clear jc hM c0 c1 c2 c3 HZ HV0 hb2 hbb hE
   generalize traceE p (ts.map Int.ofNat) = tE at *
   go_wp2_with (go_at_call 49; (with_reducible refine jt.mono ?_); rintro e w' ⟨rfl,hw1⟩; obtain rfl := hw1.symm)
   exact HE.out
 ·have HE : Hid _ := HZ.out 0 12 w2 (qa HB0.out hb2) (.inl ⟨hM,rfl,rfl⟩)
  clear jc jt hb2 hM c0 c1 c2 c3 HZ
  go_wp2
  exact HE.out
theorem q1h (p : Int) (aA : Option Addr) (nA cA : Nat) (aG : Option Addr) (nG cG : Nat) (aN : Option Addr) (nN cN : Nat) (N : List Gd) (gs : List Int) (q z : Nat) (w : World) (hM : MayG p nA N gs) (hN : NdSl w aN nN cN N) (hG : ZSl w aG nG cG gs) (hq : q < nA) (hz : z < 2 ^ p.toNat) :
  Calls Try.prog 34 #[.agg #[.int .i64 p,.slice aA nA cA,.slice aG nG cG,.slice aN nN cN],.int .i64 (q : Int),.int .u8 (z : Int)] w fun e w' => e = .returned (.int .i64 ((trP (rwA p N gs) q z : Nat) : Int)) ∧ Below w.heap.size w w' := by
 have hb0 := qb w (.cells #[.int .i64 p,.slice aA nA cA,.slice aG nG cG,.slice aN nN cN] 26 (0,0))
 obtain ⟨c0,c1,c2,c3⟩ := qf w p aA nA cA aG nG cG aN nN cN
 have hv1 := hM.tr (K := 2 ^ p.toNat) (s := q) (x := z) hq hz
 have hqR : q < nG := by have h1 := hG.hlen; have h2 := hM.len; omega
 have hixg := fun w' => hG.idx nG q w' hqR (Nat.le_refl _)
 have hcg := (hG.up hb0).cell q hqR
 have hi64 := q23 hM (q := q) (by have h2 := hM.len; omega)
 have hk256 := hM.k256
 have h256 := hM.s2
 have hz256 : z < 256 := by omega
 have hq256 : q < 256 := by omega
 have HB0 : Hid _ := hb0
 obtain ⟨w1,hw1⟩ : ∃ w1,w1 = w.alloc (.cells #[.int .i64 p,.slice aA nA cA,.slice aG nG cG,.slice aN nN cN] 26 (0,0)) := ⟨_,rfl⟩
 rw [← hw1] at HB0 c0 c1 c2 c3 hcg
 have hN1 := hN.up hb0
 rw [← hw1] at hN1
 have cS : ∀ d os,Calls Try.prog 65 #[.slice aN nN cN,.int .i64 (gs.getD q 0),.int .u8 (z : Int)] (grow (redrawn w1 d) os) fun e w'' => e = .returned (.tuple #[.int .i64 ((trP (rwA p N gs) q z : Nat) : Int),.bool true]) ∧ ∃ p : Regrown,w'' = grow (redrawn w1 p.d) p.os := fun d os => by
  have hb := below_regrown w1 d os
  refine (q5A aN nN cN N (gs.getD q 0) z _ (hN1.up hb) hi64 hz256).mono ?_
  rintro e w'' ⟨rfl,h2⟩
  rw [hv1]
  exact ⟨rfl,regrown_of_below (qa hb (h2 ▸ Below.refl _ _))⟩
 have HE : Hid (∀ d os,Below w.heap.size w (grow (redrawn w1 d) os)) := fun d os => qa HB0.out (below_regrown w1 d os)
 have dq0 : decide ((q : Int) < 0) = false := by simp
 have dq1 : decide (nG ≤ q) = false := by simp; exact hqR
 have k2 := cell_regrown c2
 have k3 := cell_regrown c3
 have kg := cell_regrown hcg
 have HW1 : Hid _ := hw1
 clear hcg hi64 hN hG hN1 hM c0 c1 c2 c3 hv1 hz hb0 hq h256 hk256 HB0 hw1
 generalize gs.getD q 0 = rq at *
 generalize trP (rwA p N gs) q z = v at *
 generalize adOf aG q = ag at *
 obtain ⟨ag1,ag2,ag3⟩ := ag
 go_enter Try.func34,Try.ntmps34
 go_wp2_with fail
 rw [← HW1.out]
 refine wp_region_quiet_below (by kernel_rfl) (by kernel_rfl) ?_
 repeat (go_big_quiet_step (exact cS _ _))
 refine wpQuiet_nil ?_
 intro _ hw'
 obtain ⟨⟨dq,osq⟩,hw''⟩ := hw'
 subst hw''
 have HI3 : Hid _ := HE.out dq osq
 generalize grow (redrawn w1 dq) osq = wx at *
 clear cS k2 k3 kg HE
 go_wp2
 go_ret
 exact ⟨rfl,HI3.out⟩
theorem q3M (p : Int) (aA : Option Addr) (nA cA : Nat) (aG : Option Addr) (nG cG : Nat) (aN : Option Addr) (nN cN : Nat) (N : List Gd) (gs : List Int) (q : Int) (x : Nat) (w : World) (hN : NdSl w aN nN cN N) (hG : ZSl w aG nG cG gs) (hx : x < 256) (hA : nA ≤ 1000000) (hNN : nN ≤ 1000000) :
  Calls Try.prog 20 #[.agg #[.int .i64 p,.slice aA nA cA,.slice aG nG cG,.slice aN nN cN],.int .i64 q,.int .u8 (x : Int)] w (NxR p nA N gs q x w) := by
 obtain ⟨Z,eZ⟩ : ∃ Z,Z = NxR p nA N gs q x w := ⟨_,rfl⟩
 have HZ : Hid (∀ v r w',Below w.heap.size w w' → NxA p nA N gs q x v r → Z (.returned (.tuple #[.int .i64 v,.int .i64 r])) w') := fun v r w' hb h => by rw [eZ]; exact ⟨hb,v,r,rfl,h⟩
 rw [← eZ]
 clear eZ
 have hb0 := qb w (.cells #[.int .i64 p,.slice aA nA cA,.slice aG nG cG,.slice aN nN cN] 26 (0,0))
 have HB0 : Hid _ := hb0
 have HV0 : Hid _ := qf w p aA nA cA aG nG cG aN nN cN
 obtain ⟨c0,c1,c2,c3⟩ := HV0.out
 have HN : Hid _ := hN
 have HG : Hid _ := hG
 have jc := q2d p aA nA cA aG nG cG aN nN cN N gs _ (hN.up hb0) (hG.up hb0) hA hNN
 have jf := fun w => q1g p (x : Int) w (by omega) (by omega)
 clear hN hG hb0
 go_enter Try.func20,Try.ntmps20
 go_wp2_with fail
 refine jc.mono ?_
 rintro e w2 ⟨hb2,v,rfl,⟨rfl,hM⟩ | ⟨rfl,hM⟩⟩
 ·obtain ⟨d0,d1,d2,d3⟩ := HV0.out.up hb2
  have hbb := qa HB0.out hb2
  have HBB : Hid _ := hbb
  have h256 := hM.s2
  rw [q1H hM] at jf
  by_cases h1 : q < 0
  ·have HE : Hid _ := HZ.out 0 2 w2 hbb (.inr (.inl ⟨hM,by omega,rfl,rfl⟩))
   have e1 : decide (q < 0) = true := decide_eq_true h1
   clear jc jf hM c0 c1 c2 c3 HZ HV0 hb2 hbb
   go_wp2
   exact HE.out
  ·obtain ⟨k,rfl⟩ : ∃ k : Nat,q = (k : Int) := ⟨q.toNat,by omega⟩
   have e1 : decide ((k : Int) < 0) = false := decide_eq_false h1
   by_cases h2 : nA ≤ k
   ·have HE : Hid _ := HZ.out 0 2 w2 hbb (.inr (.inl ⟨hM,by omega,rfl,rfl⟩))
    have e2 : decide (nA ≤ k) = true := decide_eq_true h2
    have e3 : decide ((nA : Int) ≤ (k : Int)) = true := decide_eq_true (by omega)
    clear jc jf hM c0 c1 c2 c3 HZ HV0 hb2 hbb
    go_wp2
    exact HE.out
   ·have e2 : decide (nA ≤ k) = false := decide_eq_false h2
    have e3 : decide ((nA : Int) ≤ (k : Int)) = false := decide_eq_false (by omega)
    by_cases h3 : x < 2 ^ p.toNat
    ·rw [decide_eq_true h3] at jf
     have js := q1h p aA nA cA aG nG cG aN nN cN N gs k x w2 hM (HN.out.up hbb) (HG.out.up hbb) (by omega) h3
     have HE : Hid (∀ w',Below w2.heap.size w2 w' → Z (.returned (.tuple #[.int .i64 ((trP (rwA p N gs) k x : Nat) : Int),.int .i64 0])) w') := fun w' hb => HZ.out _ _ w' (qa HBB.out hb) (.inr (.inr ⟨hM,by omega,by simp,rfl⟩))
     clear jc hM c0 c1 c2 c3 HZ HV0 hb2 hbb h3
     generalize trP (rwA p N gs) k x = vv at *
     go_wp2_with (go_at_call 48; (with_reducible refine (jf _).mono ?_); rintro e w' ⟨rfl,hw1⟩; obtain rfl := hw1.symm)
     refine js.mono ?_
     rintro e w3 ⟨rfl,hb3⟩
     have HE3 : Hid _ := HE.out w3 hb3
     clear js jf HE hb3
     go_wp2
     exact HE3.out
    ·rw [decide_eq_false h3] at jf
     have HE : Hid _ := HZ.out 0 2 w2 hbb (.inr (.inl ⟨hM,by omega,rfl,rfl⟩))
     clear jc hM c0 c1 c2 c3 HZ HV0 hb2 hbb h3
     go_wp2_with (go_at_call 48; (with_reducible refine (jf _).mono ?_); rintro e w' ⟨rfl,hw1⟩; obtain rfl := hw1.symm)
     exact HE.out
 ·have HE : Hid _ := HZ.out 0 12 w2 (qa HB0.out hb2) (.inl ⟨hM,rfl,rfl⟩)
  clear jc jf hb2 hM c0 c1 c2 c3 HZ
  go_wp2
  exact HE.out
theorem q4I (p : Int) (aA : Option Addr) (nA cA : Nat) (aG : Option Addr) (nG cG : Nat) (aN : Option Addr) (nN cN : Nat) (N : List Gd) (gs : List Int) (d : Option Addr) (m c : Nat) (ts : List Nat) (w : World) (hN : NdSl w aN nN cN N) (hG : ZSl w aG nG cG gs) (hL : LtC w d m c ts) (ht256 : ∀ x ∈ ts,x < 256) (hA : nA ≤ 1000000) (hNN : nN ≤ 1000000) :
  Calls Try.prog 22 #[.agg #[.int .i64 p,.slice aA nA cA,.slice aG nG cG,.slice aN nN cN],.slice d m c] w (RuR p nA N gs ts w) := by
 obtain ⟨Z,eZ⟩ : ∃ Z,Z = RuR p nA N gs ts w := ⟨_,rfl⟩
 have HZ : Hid (∀ v r w',Below w.heap.size w w' → RuA p nA N gs ts v r → Z (.returned (.tuple #[.int .i64 v,.int .i64 r])) w') := fun v r w' hb h => by rw [eZ]; exact ⟨hb,v,r,rfl,h⟩
 rw [← eZ]
 clear eZ
 have hb0 := qb w (.cells #[.int .i64 p,.slice aA nA cA,.slice aG nG cG,.slice aN nN cN] 26 (0,0))
 have HB0 : Hid _ := hb0
 have HV0 : Hid _ := qf w p aA nA cA aG nG cG aN nN cN
 obtain ⟨c0,c1,c2,c3⟩ := HV0.out
 have HN : Hid _ := hN
 have HG : Hid _ := hG
 have HL : Hid _ := hL
 have HLN : Hid (ts.length = m) := by have := hL.hlen; rwa [List.length_map] at this
 have hmb := Nat.le_trans hL.hcap hL.bd
 unfold maxLen at hmb
 have jc := q2d p aA nA cA aG nG cG aN nN cN N gs _ (hN.up hb0) (hG.up hb0) hA hNN
 have jt := fun w' (hb : Below w.heap.size w w') => q2G p d m c (ts.map Int.ofNat) w' (hL.up hb) (fun z hz => by obtain ⟨x,hx,rfl⟩ := List.mem_map.1 hz; exact ⟨by simp,by have := ht256 x hx; simp; omega⟩)
 clear hN hG hb0 hL
 go_enter Try.func22,Try.ntmps22
 go_wp2_with fail
 refine jc.mono ?_
 rintro e w2 ⟨hb2,v,rfl,⟨rfl,hM⟩ | ⟨rfl,hM⟩⟩
 ·have HV2 : Hid _ := HV0.out.up hb2
  obtain ⟨d0,d1,d2,d3⟩ := HV2.out
  have hbb := qa HB0.out hb2
  have HBB : Hid _ := hbb
  have jt := jt w2 hbb
  have h256 := hM.s2
  have h1n := hM.s1
  have hk256 := hM.k256
  by_cases hE : traceE p (ts.map Int.ofNat) = 0
  ·rw [hE] at jt
   have HT : Hid _ := q4u hM hE
   have HM : Hid _ := hM
   have HR : Hid _ := hM.rows (2 ^ p.toNat)
   have HEn : Hid (∀ w',Below w.heap.size w w' → Z (.returned (.tuple #[.int .i64 ((runP (rwA p N gs) 0 ts : Nat) : Int),.int .i64 0])) w') := fun w' hb => HZ.out _ _ w' hb (.inr (.inr ⟨hM,hE,rfl,rfl⟩))
   clear jc c0 c1 c2 c3 HZ HV0 hb2 hbb hE hM
   go_wp2_with (go_at_call 50; (with_reducible refine jt.mono ?_); rintro e w' ⟨rfl,hw1⟩; obtain rfl := hw1.symm)
   clear d0 d1 d2 d3 jt
   go_loopw [7,8] (fun v j wr => ∃ (i q : Nat),i ≤ m ∧ j = .int .i64 (i : Int) ∧ v = .int .i64 (q : Int) ∧ Hid (Below w2.heap.size w2 wr ∧ q < nA ∧ q = runP (rwA p N gs) 0 (ts.take i))) (fun _ j _ => m - (intOf j).toNat)
   case atStart => exact ⟨0,0,Nat.zero_le _,rfl,rfl,Below.refl _ _,by omega,rfl⟩
   case round =>
    obtain ⟨i,q,hi,rfl,rfl,HI⟩ := hrel
    have hq := HI.out.2.1
    have hbw := qa HBB.out HI.out.1
    obtain ⟨c0,c1,c2,c3⟩ := HV2.out.up HI.out.1
    by_cases hlt : i < m
    ·have hit : i < ts.length := by have := HLN.out; omega
     have hS := HL.out.up hbw
     have hixl := fun w' => hS.idx m i w' hlt (Nat.le_refl _)
     have hcl := hS.cell i hlt
     rw [qy hit] at hcl
     have hzn : ts.getD i 0 < 2 ^ p.toNat := HT.out _ (qG hit)
     have hv2 := HR.out.lt q (ts.getD i 0) hq hzn
     have js := q1h p aA nA cA aG nG cG aN nN cN N gs q (ts.getD i 0) wr HM.out (HN.out.up hbw) (HG.out.up hbw) hq hzn
     have HJS : Hid (∀ wx,Below wr.heap.size wr wx → Calls Try.prog 34 #[.agg #[.int .i64 p,.slice aA nA cA,.slice aG nG cG,.slice aN nN cN],.int .i64 (q : Int),.int .u8 ((ts.getD i 0 : Nat) : Int)] wx fun e w' => e = .returned (.int .i64 ((trP (rwA p N gs) q (ts.getD i 0) : Nat) : Int)) ∧ Below wx.heap.size wx w') := fun wx hb => q1h p aA nA cA aG nG cG aN nN cN N gs q (ts.getD i 0) wx HM.out ((HN.out.up hbw).up hb) ((HG.out.up hbw).up hb) hq hzn
     have HI2 : Hid (∀ wx,Below wr.heap.size wr wx → Below w2.heap.size w2 wx ∧ trP (rwA p N gs) q (ts.getD i 0) < nA ∧ trP (rwA p N gs) q (ts.getD i 0) = runP (rwA p N gs) 0 (ts.take (i + 1))) := fun wx hb => ⟨qa HI.out.1 hb,hv2,by
      rw [qZ hit,q4q,← HI.out.2.2]⟩
     generalize ts.getD i 0 = z at *
     have hz256 : z < 256 := by omega
     clear hS HI hv2 hzn hbw
     have cS : ∀ d os,Calls Try.prog 34 #[.agg #[.int .i64 p,.slice aA nA cA,.slice aG nG cG,.slice aN nN cN],.int .i64 (q : Int),.int .u8 (z : Int)] (grow (redrawn wr d) os) fun e w'' => e = .returned (.int .i64 ((trP (rwA p N gs) q z : Nat) : Int)) ∧ ∃ p : Regrown,w'' = grow (redrawn wr p.d) p.os := fun d os => by
      have hb := below_regrown wr d os
      refine (HJS.out _ hb).mono ?_
      rintro e w'' ⟨rfl,h2⟩
      exact ⟨rfl,regrown_of_below (qa hb h2)⟩
     have HE : Hid (∀ d os,Below wr.heap.size wr (grow (redrawn wr d) os)) := fun d os => below_regrown wr d os
     have k0 := cell_regrown c0
     have k1 := cell_regrown c1
     have k2 := cell_regrown c2
     have k3 := cell_regrown c3
     have kl := cell_regrown hcl
     clear js HJS
     generalize trP (rwA p N gs) q z = v at *
     generalize adOf d i = al at *
     obtain ⟨al1,al2,al3⟩ := al
     go_wp2_with fail
     clear c0 c1 c2 c3 hcl
     refine wp_region_quiet_below (by kernel_rfl) (by kernel_rfl) ?_
     repeat (go_big_quiet_step (exact cS _ _))
     refine wpQuiet_nil ?_
     intro _ hw'
     obtain ⟨⟨dq,osq⟩,hw''⟩ := hw'
     subst hw''
     have HI3 : Hid _ := HI2.out _ (HE.out dq osq)
     generalize grow (redrawn wr dq) osq = wx at *
     clear cS k0 k1 k2 k3 kl HI2 HE
     go_wp2
     go_roundw
     case rel => exact ⟨i + 1,_,by omega,by go_num,rfl,HI3⟩
     case measure => simp [intOf] <;> omega
    ·obtain rfl : i = m := by omega
     have hfin : q = runP (rwA p N gs) 0 ts := by rw [HI.out.2.2,List.take_of_length_le (by rw [HLN.out]; exact Nat.le_refl _)]
     have HR2 : Hid _ := HEn.out wr hbw
     rw [← hfin] at HR2
     clear HI hfin hbw HEn c0 c1 c2 c3
     go_wp2
     exact HR2.out
  ·have HE : Hid _ := HZ.out 0 _ w2 hbb (.inr (.inl ⟨hM,hE,rfl,rfl⟩))
   have e5 : (traceE p (ts.map Int.ofNat) != 0) = true := by simpa using hE
   clear jc hM c0 c1 c2 c3 HZ HV0 hb2 hbb hE
   generalize traceE p (ts.map Int.ofNat) = tE at *
   go_wp2_with (go_at_call 50; (with_reducible refine jt.mono ?_); rintro e w' ⟨rfl,hw1⟩; obtain rfl := hw1.symm)
   exact HE.out
 ·have HE : Hid _ := HZ.out 0 12 w2 (qa HB0.out hb2) (.inl ⟨hM,rfl,rfl⟩)
  clear jc jt hb2 hM c0 c1 c2 c3 HZ
  go_wp2
  exact HE.out
theorem q6J {zs : List Int} (h : ∀ z ∈ zs,0 ≤ z ∧ z < 256) : ∃ ts : List Nat,zs = ts.map Int.ofNat ∧ ∀ x ∈ ts,x < 256 := by
 refine ⟨zs.map Int.toNat,?_,fun x hx => ?_⟩
 ·rw [List.map_map]
  conv => lhs; rw [← List.map_id zs]
  apply List.map_congr_left
  intro z hz
  have := h z hz
  simp only [Function.comp_apply,id]
  have e : Int.ofNat z.toNat = (z.toNat : Int) := rfl
  rw [e]; omega
 ·obtain ⟨z,hz,rfl⟩ := List.mem_map.1 hx
  have := h z hz
  omega
theorem nx_ex (p : Int) (nA : Nat) (N : List Gd) (gs : List Int) (q : Int) (x : Nat) : ∃ v r,NxA p nA N gs q x v r := by
 by_cases hM : MayG p nA N gs
 ·by_cases h : 0 ≤ q ∧ q < (nA : Int) ∧ x < 2 ^ p.toNat
  ·exact ⟨_,_,.inr (.inr ⟨hM,h,rfl,rfl⟩)⟩
  ·exact ⟨_,_,.inr (.inl ⟨hM,h,rfl,rfl⟩)⟩
 ·exact ⟨_,_,.inl ⟨hM,rfl,rfl⟩⟩
theorem ru_ex (p : Int) (nA : Nat) (N : List Gd) (gs : List Int) (ts : List Nat) : ∃ v r,RuA p nA N gs ts v r := by
 by_cases hM : MayG p nA N gs
 ·by_cases h : traceE p (ts.map Int.ofNat) = 0
  ·exact ⟨_,_,.inr (.inr ⟨hM,h,rfl,rfl⟩)⟩
  ·exact ⟨_,_,.inr (.inl ⟨hM,h,rfl,rfl⟩)⟩
 ·exact ⟨_,_,.inl ⟨hM,rfl,rfl⟩⟩
theorem q6H {w : World} {gb nG : Nat} {gs : List Int} (r2 : RowI w 3 gb (lentZ gs)) (hl : gs.length = nG) (hb : nG ≤ 900000) : ZSl w (some ⟨gb,0,none⟩) nG (nG + 3) gs := by
 have := RowI.zsl (n := nG) r2 Try.underlying23 qh (by rw [qs]; omega) (by rw [qs]; unfold maxLen; omega)
 rw [qs,← hl,q3i] at this
 rw [hl] at this
 exact this
theorem q4y (p : Int) (aA : Option Addr) (nA cA : Nat) (aG : Option Addr) (nG cG : Nat) (aN : Option Addr) (nN cN : Nat) (bs : List Bool) (gs : List Int) (N : List Gd) (q : Int) (x : Nat) (d : Option Addr) (m c : Nat) (zs : List Int) (w : World) (hB : BoSl w aA nA cA bs) (hG : ZSl w aG nG cG gs) (hN : NdSl w aN nN cN N) (hok : ∀ z ∈ gs,I64 z) (hx : x < 256) (hL : IntSl Try.prog 40 .u8 w d m c zs) (hz : ∀ z ∈ zs,0 ≤ z ∧ z < 256) (_ : c ≤ 140737488351232) :
  Calls Try.prog 4 #[.agg #[.int .i64 p,.slice aA nA cA,.slice aG nG cG,.slice aN nN cN],.int .i64 q,.int .u8 (x : Int),.slice d m c] w fun e w' => e = .returned (.bool true) ∧ Below w.heap.size w w' := by
 obtain ⟨ts,rfl,ht⟩ := q6J hz
 have HB0 : Hid _ := qb w (.cells #[.int .i64 p,.slice aA nA cA,.slice aG nG cG,.slice aN nN cN] 26 (0,0))
 have HA0 : Hid _ := qf w p aA nA cA aG nG cG aN nN cN
 obtain ⟨c0,c1,c2,c3⟩ := HA0.out
 have hbA := Nat.le_trans hB.hcap hB.bd
 have hbG := Nat.le_trans hG.hcap hG.bd
 have hbN := Nat.le_trans hN.hcap hN.bd
 have hbL := Nat.le_trans hL.hcap hL.bd
 unfold maxLen at hbA hbG hbN hbL
 have HH1 : Hid _ := hB
 have HH2 : Hid _ := hG
 have HH3 : Hid _ := hN
 have HOK : Hid _ := hok
 have HL : Hid _ := hL
 have HT : Hid _ := ht
 clear hB hG hN hok hL ht hz
 by_cases e1 : 600 < nN
 ·go_enter Try.func4,Try.ntmps4
  go_wp2
  go_ret
  exact ⟨rfl,HB0.out⟩
 by_cases e2 : 300 < nA
 ·go_enter Try.func4,Try.ntmps4
  go_wp2
  go_ret
  exact ⟨rfl,HB0.out⟩
 by_cases e3 : 300 < nG
 ·go_enter Try.func4,Try.ntmps4
  go_wp2
  go_ret
  exact ⟨rfl,HB0.out⟩
 by_cases e4 : 1100 < m
 ·go_enter Try.func4,Try.ntmps4
  go_wp2
  go_ret
  exact ⟨rfl,HB0.out⟩
 have j1 := q3J p aA nA cA aG nG cG aN nN cN bs gs N (w.alloc (.cells #[.int .i64 p,.slice aA nA cA,.slice aG nG cG,.slice aN nN cN] 26 (0,0))) (HH1.out.up HB0.out) (HH2.out.up HB0.out) (HH3.out.up HB0.out) (by omega) (by omega) (by omega)
 obtain ⟨nv,nr,hnx⟩ := nx_ex p nA N gs q x
 obtain ⟨rv,rr,hru⟩ := ru_ex p nA N gs ts
 have HNX : Hid _ := hnx
 have HRU : Hid _ := hru
 clear hnx hru
 go_enter Try.func4,Try.ntmps4
 go_wp2_with fail
 refine j1.mono ?_
 rintro e w2 ⟨b1,gb,b2,rfl,r1,r2,r3,hb2⟩
 have hB2 := qa HB0.out hb2
 have jl := q2a d m c (ts.map Int.ofNat) w2 (HL.out.up hB2) (by omega)
 have HB2 : Hid _ := hB2
 have HA2 : Hid _ := HA0.out.up hb2
 have HR1 : Hid (BoRow w2 b1 (bs ++ zB 3)) := r1
 have HR2 : Hid _ := r2
 have HR3 : Hid (NdRow w2 b2 (N ++ zG 3)) := r3
 clear j1 hb2 hB2 r1 r2 r3 c0 c1 c2 c3
 go_wp2_with fail
 refine jl.mono ?_
 rintro e w3 ⟨rfl,hrl,hb3⟩
 obtain ⟨w4,hw4⟩ : ∃ w4,w4 = w3.alloc (.cells #[.int .i64 p,.slice (some ⟨b1,0,none⟩) nA (nA + 3),.slice (some ⟨gb,0,none⟩) nG (nG + 3),.slice (some ⟨b2,0,none⟩) nN (nN + 3)] 26 (0,0)) := ⟨_,rfl⟩
 have hb4 : Below w3.heap.size w3 w4 := by rw [hw4]; exact qb _ _
 have HI4 : Hid (AuB w4 w3.heap.size p (some ⟨b1,0,none⟩) nA (nA + 3) (some ⟨gb,0,none⟩) nG (nG + 3) (some ⟨b2,0,none⟩) nN (nN + 3)) := by rw [hw4]; exact qf _ _ _ _ _ _ _ _ _ _ _
 have hb24 := qa hb3 hb4
 have HB4 : Hid _ := qa HB2.out hb24
 have HA4 : Hid _ := HA2.out.up hb24
 have HS1 : Hid (BoRow w4 b1 (bs ++ zB 3)) := BoRow.up HR1.out hb24
 have HS2 : Hid (RowI w4 3 gb (lentZ gs)) := RowI.up (e := 3) HR2.out hb24
 have HS3 : Hid (NdRow w4 b2 (N ++ zG 3)) := NdRow.up HR3.out hb24
 have HLR : Hid (RowAt w4 39 w2.heap.size (lentL (ts.map Int.ofNat))) := RowAt.up hrl hb4
 have HW4 : Hid _ := hw4
 have HNd : Hid (∀ wx,Below w4.heap.size w4 wx → NdSl wx (some ⟨b2,0,none⟩) nN (nN + 3) N) := fun wx hb => (NdRow.up HS3.out hb).sl HH3.out.hlen (by omega) HH3.out.ok
 have HGz : Hid (∀ wx,Below w4.heap.size w4 wx → ZSl wx (some ⟨gb,0,none⟩) nG (nG + 3) gs) := fun wx hb => q6H (RowI.up (e := 3) HS2.out hb) HH2.out.hlen (by omega)
 have HLz : Hid (∀ wx,Below w4.heap.size w4 wx → LtC wx (some ⟨w2.heap.size,0,none⟩) m (m + 3) ts) := fun wx hb => q3K (RowAt.up HLR.out hb) HL.out.hlen (by omega)
 have j5 := q28 p (some ⟨b1,0,none⟩) nA (nA + 3) (some ⟨gb,0,none⟩) nG (nG + 3) (some ⟨b2,0,none⟩) nN (nN + 3) N gs q x w4 (HNd.out _ (Below.refl _ _)) (HGz.out _ (Below.refl _ _)) HOK.out hx
 obtain ⟨i0,i1,i2,i3⟩ := HI4.out
 clear jl hrl hb3 hb4 hb24 hw4 HR1 HR2 HR3 HA2 HB2 HA0 HB0
 go_wp2_with (rw [← HW4.out])
 refine j5.mono ?_
 rintro e w5 ⟨hb5,v5,s5,rfl,hn5⟩
 obtain ⟨rfl,rfl⟩ := hn5.uni HNX.out
 have HB5 : Hid _ := qa HB4.out hb5
 have HA5 : Hid _ := HA4.out.up hb5
 have HI5 : Hid _ := HI4.out.up hb5
 have HQ5 : Hid _ := hb5
 have j6 := q3M p aA nA cA aG nG cG aN nN cN N gs q x w5 (HH3.out.up HB5.out) (HH2.out.up HB5.out) hx (by omega) (by omega)
 obtain ⟨c0,c1,c2,c3⟩ := HA5.out
 clear j5 hb5 hn5 i0 i1 i2 i3 HW4
 go_wp2_with fail
 refine j6.mono ?_
 rintro e w6 ⟨hb6,v6,s6,rfl,hn6⟩
 obtain ⟨rfl,rfl⟩ := hn6.uni HNX.out
 have HB6 : Hid _ := qa HB5.out hb6
 have HA6 : Hid _ := HA5.out.up hb6
 have HI6 : Hid _ := HI5.out.up hb6
 have HQ6 : Hid _ := qa HQ5.out hb6
 have j7 := q11 p (some ⟨b1,0,none⟩) nA (nA + 3) (some ⟨gb,0,none⟩) nG (nG + 3) (some ⟨b2,0,none⟩) nN (nN + 3) N gs (some ⟨w2.heap.size,0,none⟩) m (m + 3) ts w6 (HNd.out _ HQ6.out) (HGz.out _ HQ6.out) HOK.out (HLz.out _ HQ6.out) HT.out
 obtain ⟨i0,i1,i2,i3⟩ := HI6.out
 clear j6 hb6 hn6 c0 c1 c2 c3
 go_wp2_with fail
 refine j7.mono ?_
 rintro e w7 ⟨hb7,v7,s7,rfl,hn7⟩
 obtain ⟨rfl,rfl⟩ := hn7.uni HRU.out
 have HB7 : Hid _ := qa HB6.out hb7
 have HA7 : Hid _ := HA6.out.up hb7
 have HI7 : Hid _ := HI6.out.up hb7
 have HQ7 : Hid _ := qa HQ6.out hb7
 have j8 := q4I p aA nA cA aG nG cG aN nN cN N gs d m c ts w7 (HH3.out.up HB7.out) (HH2.out.up HB7.out) (HL.out.up HB7.out) HT.out (by omega) (by omega)
 obtain ⟨c0,c1,c2,c3⟩ := HA7.out
 clear j7 hb7 hn7 i0 i1 i2 i3
 go_wp2_with fail
 refine j8.mono ?_
 rintro e w8 ⟨hb8,v8,s8,rfl,hn8⟩
 obtain ⟨rfl,rfl⟩ := hn8.uni HRU.out
 have HB8 : Hid _ := qa HB7.out hb8
 have HA8 : Hid _ := HA7.out.up hb8
 have HI8 : Hid _ := HI7.out.up hb8
 have HQ8 : Hid _ := qa HQ7.out hb8
 have j9 := q3H p aA nA cA aG nG cG aN nN cN bs gs N b1 gb b2 w8 (HH1.out.up HB8.out) (HH2.out.up HB8.out) (HH3.out.up HB8.out) (by omega) (by omega) (by omega) (BoRow.up HS1.out HQ8.out) (RowI.up (e := 3) HS2.out HQ8.out) (NdRow.up HS3.out HQ8.out)
 obtain ⟨c0,c1,c2,c3⟩ := HA8.out
 obtain ⟨i0,i1,i2,i3⟩ := HI8.out
 clear j8 hb8 hn8
 go_wp2_with fail
 refine j9.mono ?_
 rintro e w9 ⟨rfl,hb9⟩
 have HB9 : Hid _ := qa HB8.out hb9
 have HQ9 : Hid _ := qa HQ8.out hb9
 have ja := q4F w2.heap.size m d c (ts.map Int.ofNat) w9 (RowAt.up HLR.out HQ9.out) (HL.out.up HB9.out) (by omega)
 clear j9 hb9
 go_wp2_with fail
 refine ja.mono ?_
 rintro e w10 ⟨rfl,hb10⟩
 have HB10 : Hid _ := qa HB9.out hb10
 clear ja hb10
 go_wp2
 go_ret
 exact ⟨rfl,HB10.out⟩
theorem q7n {w : World} {base e n i : Nat} {v : Value} {xs : List Value} (h : w.ownsRow base e 1 v n xs) (hi : i < n) (y : Value) : ∃ g cap,v = .slice (some ⟨g,0,none⟩) n cap ∧ base ≤ g ∧ n ≤ cap ∧ w.cell? ⟨g,i,none⟩ = xs[i]? ∧ w.frozen? ⟨g,i,none⟩ = false ∧ (w.setCell ⟨g,i,none⟩ y).ownsRow base e 1 v n (xs.set i y) := by
 obtain ⟨hl,h⟩ := h
 rcases h with ⟨rfl,h0⟩ | ⟨g,cap,cur,rfl,hg,hcell,hnc,hcm,hsz,htk⟩
 ·omega
 ·have hcu : cur.toList.length = cap := by simpa using hsz
  refine ⟨g,cap,rfl,hg,hnc,?_,frozen_of_row w g i _ _ hcell,by simpa using hl,Or.inr ⟨g,cap,cur.setIfInBounds i y,rfl,hg,heap_setCell_same w g i _ _ y hcell,hnc,hcm,by simpa using hsz,?_⟩⟩
  ·rw [qc hcell i,← htk,List.getElem?_take,if_pos (by omega)]
   simp
  ·rw [← htk]
   simp [List.take_set]
structure NuB (w : World) (g : Nat) (cur : List Int) : Prop where
 row : RowI w 82 g cur
 len : cur.length = 256
theorem NuB.up {w w' : World} {g : Nat} {cur : List Int} (h : NuB w g cur) (hb : Below w.heap.size w w') : NuB w' g cur := ⟨h.row.up hb,h.len⟩
theorem NuB.lt {w : World} {g : Nat} {cur : List Int} (h : NuB w g cur) : g < w.heap.size := h.row.lt
theorem NuB.set {w : World} {g : Nat} {cur : List Int} (h : NuB w g cur) (i : Nat) (x : Int) : NuB (w.setCell ⟨g,i,none⟩ (.int .i64 x)) g (cur.set i x) := ⟨h.row.set i x,by rw [List.length_set]; exact h.len⟩
theorem q1B (g n i : Nat) (hi : i < n) (w : World) : (Instr.indexAt 23 (.slice (some ⟨g,0,none⟩) n 256) (.int .i64 (i : Int))).run Try.prog w = .ok (.pointer (some ⟨g,i,none⟩)) w := by
 have := qp (P := Try.prog) (T := 23) Try.underlying23 qh (a := some ⟨g,0,none⟩) (cap := 256) (n := n) (fun e => by cases e) i w hi
 simpa [adOf,qd] using this
def sprC (C : List Nat) (c : Nat) (m : Int) (k : Nat) (cur : List Int) : List Int := (List.range cur.length).map fun i => if i < k ∧ C.getD i 0 = c then m else cur.getD i 0
theorem qu (C : List Nat) (c : Nat) (m : Int) (k : Nat) (cur : List Int) : (sprC C c m k cur).length = cur.length := by simp [sprC]
theorem q1k (C : List Nat) (c : Nat) (m : Int) (k : Nat) (cur : List Int) {i : Nat} (h : i < cur.length) : (sprC C c m k cur).getD i 0 = if i < k ∧ C.getD i 0 = c then m else cur.getD i 0 := by
 rw [qg (by rw [qu]; exact h)]; simp [sprC]
theorem q6W (C : List Nat) (c : Nat) (m : Int) (cur : List Int) : sprC C c m 0 cur = cur := by
 apply List.ext_getElem (by rw [qu])
 intro i h1 h2
 rw [← qg h1 0,← qg h2 0,q1k _ _ _ _ _ h2,if_neg (by omega)]
theorem q7A {C : List Nat} {c : Nat} {m : Int} {k : Nat} {cur : List Int} (h : C.getD k 0 = c) : (sprC C c m k cur).set k m = sprC C c m (k + 1) cur := by
 apply List.ext_getElem (by rw [List.length_set,qu,qu])
 intro i h1 h2
 have hi : i < cur.length := by rw [qu] at h2; exact h2
 rw [← qg h2 0,q1k _ _ _ _ _ hi,List.getElem_set]
 by_cases e : k = i
 ·subst e; rw [if_pos rfl,if_pos ⟨by omega,h⟩]
 ·rw [if_neg e,← qg (by rw [qu]; exact hi) 0,q1k _ _ _ _ _ hi]
  by_cases h3 : i < k ∧ C.getD i 0 = c
  ·rw [if_pos h3,if_pos ⟨by omega,h3.2⟩]
  ·rw [if_neg h3,if_neg (fun h4 => h3 ⟨by omega,h4.2⟩)]
theorem q6V {C : List Nat} {c : Nat} {m : Int} {k : Nat} {cur : List Int} (h : C.getD k 0 ≠ c) : sprC C c m k cur = sprC C c m (k + 1) cur := by
 apply List.ext_getElem (by rw [qu,qu])
 intro i h1 h2
 have hi : i < cur.length := by rw [qu] at h2; exact h2
 rw [← qg h1 0,← qg h2 0,q1k _ _ _ _ _ hi,q1k _ _ _ _ _ hi]
 by_cases h3 : i < k ∧ C.getD i 0 = c
 ·rw [if_pos h3,if_pos ⟨by omega,h3.2⟩]
 ·rw [if_neg h3,if_neg (fun h4 => by
   by_cases e : i = k
   ·subst e; exact h h4.2
   ·exact h3 ⟨by omega,h4.2⟩)]
abbrev OnG (g : Nat) (w w' : World) : Prop := Fr w w' (fun k => k = g) (fun k => k = g)
theorem q1j {g : Nat} {w w' : World} (h : OnG g w w') (i : Nat) (v : Value) : OnG g w (w'.setCell ⟨g,i,none⟩ v) :=
 ⟨h.os,h.tape,h.output,by simpa using h.size,fun k hk hf => (Below.heap_setCell _ _ _ _ (fun e => hf (by simpa using e))).trans (h.keep k hk hf),h.foot⟩
theorem q2Y (g : Nat) (w : World) : OnG g w w := Fr.ofBelow (Below.refl _ _)
theorem q3R (g n : Nat) (aO : Option Addr) (cO : Nat) (C : List Nat) (c m : Nat) (cur : List Int) (w : World) (hN : NuB w g cur) (hO : ZSl w aO n cO (C.map Int.ofNat)) (hne : ∀ k,k < n → (adOf aO k).block ≠ g) (hn : n ≤ 256) :
  Calls Try.prog 80 #[.slice (some ⟨g,0,none⟩) n 256,.slice aO n cO,.int .i64 (c : Int),.int .i64 (m : Int)] w fun e w' => e = .returned (.tuple #[]) ∧ NuB w' g (sprC C c m n cur) ∧ OnG g w w' := by
 obtain ⟨Q,hQ⟩ : ∃ Q : Ending → World → Prop,Q = fun e w' => e = .returned (.tuple #[]) ∧ NuB w' g (sprC C c m n cur) ∧ OnG g w w' := ⟨_,rfl⟩
 have HQ : Hid (∀ w',NuB w' g (sprC C c m n cur) → OnG g w w' → Q (.returned (.tuple #[])) w') := fun w' h1 h2 => by rw [hQ]; exact ⟨rfl,h1,h2⟩
 rw [← hQ]
 have HO : Hid _ := hO
 have HNE : Hid _ := hne
 have HCL : Hid (C.length = n) := by have := hO.hlen; rwa [List.length_map] at this
 have HN0 : Hid (NuB w g (sprC C c m 0 cur)) := by rw [q6W]; exact hN
 have hcl := hN.len
 clear hO hne hQ hN
 go_enter Try.func80,Try.ntmps80
 go_wp2
 go_loopw [11] (fun i wr => ∃ k : Nat,k ≤ n ∧ i = .int .i64 (k : Int) ∧ Hid (NuB wr g (sprC C c m k cur)) ∧ Hid (OnG g w wr)) (fun i _ => n - (intOf i).toNat)
 case atStart => exact ⟨0,Nat.zero_le _,rfl,HN0,q2Y _ _⟩
 case round =>
  obtain ⟨k,hk,rfl,HN,HW⟩ := hrel
  clear HN0
  by_cases hlt : k < n
  ·have hi1 := fun w' => HO.out.idx n k w' hlt (Nat.le_refl _)
   have hc1 := (HW.out.intSl HO.out HNE.out).cell k hlt
   rw [qy (by rw [HCL.out]; exact hlt)] at hc1
   have hi2 := fun w' => q1B g n k hlt w'
   have hk2 : k < (sprC C c m k cur).length := by rw [qu]; omega
   have hc2 := HN.out.row.cell hk2
   have hf2 := HN.out.row.frozen k
   generalize adOf aO k = ad at *
   obtain ⟨ag,ao,az⟩ := ad
   by_cases hh : C.getD k 0 = c
   ·have HN2 : Hid (NuB (wr.setCell ⟨g,k,none⟩ (.int .i64 (m : Int))) g (sprC C c m (k + 1) cur)) := by rw [← q7A hh]; exact HN.out.set k m
    have HW2 : Hid _ := q1j HW.out k (.int .i64 (m : Int))
    rw [hh] at hc1
    have dd : ((c : Int) == (c : Int)) = true := by simp
    clear HN HW hh hk2
    generalize (sprC C c m k cur).getD k 0 = z at *
    go_wp2
    go_roundw
    case rel => exact ⟨k + 1,by omega,by go_num,HN2,HW2⟩
    case measure => simp [intOf]; omega
   ·have HN2 : Hid (NuB wr g (sprC C c m (k + 1) cur)) := by rw [← q6V hh]; exact HN.out
    generalize C.getD k 0 = y at *
    have dd : ((y : Int) == (c : Int)) = false := by simp; omega
    clear HN hh hk2 hc2 hf2
    go_wp2
    go_roundw
    case rel => exact ⟨k + 1,by omega,by go_num,HN2,HW⟩
    case measure => simp [intOf]; omega
  ·obtain rfl : k = n := by omega
   have HE : Hid (Q (.returned (.tuple #[])) wr) := HQ.out wr HN.out HW.out
   clear HN HW HQ
   go_wp2
   go_end0
   exact HE.out
def rwN (R : List (List Nat)) (q : Nat) (cur : List Int) : List Int := (R.getD q []).map fun t => cur.getD t 0
def rwTo (row : List Nat) (cur : List Int) (k : Nat) : List Int := (row.take k).map (fun t => cur.getD t 0) ++ (row.drop k).map Int.ofNat
theorem q7v (row : List Nat) (cur : List Int) (k : Nat) : (rwTo row cur k).length = row.length := by
 rw [rwTo,List.length_append,List.length_map,List.length_map,List.length_take,List.length_drop]; omega
theorem q6S (row : List Nat) (cur : List Int) : rwTo row cur 0 = row.map Int.ofNat := by simp [rwTo]
theorem q7u (row : List Nat) (cur : List Int) : rwTo row cur row.length = row.map fun t => cur.getD t 0 := by simp [rwTo]
theorem q7W {row : List Nat} {cur : List Int} {k : Nat} (h : k < row.length) : (rwTo row cur k).getD k 0 = ((row.getD k 0 : Nat) : Int) := by
 have h1 : ((row.take k).map (fun t => cur.getD t 0)).length = k := by rw [List.length_map,List.length_take]; omega
 rw [rwTo,List.getD_eq_getElem?_getD,List.getElem?_append_right (by omega),h1,Nat.sub_self,List.getElem?_map,List.getElem?_drop,Nat.add_zero,List.getElem?_eq_getElem h,qg h]
 rfl
theorem q6R {row : List Nat} {cur : List Int} {k : Nat} (h : k < row.length) : (rwTo row cur k).set k (cur.getD (row.getD k 0) 0) = rwTo row cur (k + 1) := by
 have h1 : ((row.take k).map (fun t => cur.getD t 0)).length = k := by rw [List.length_map,List.length_take]; omega
 rw [rwTo,rwTo,List.set_append_right _ _ (by omega),h1,Nat.sub_self,qZ h,List.map_append,List.append_assoc]
 congr 1
 rw [List.drop_eq_getElem_cons h]
 rfl
theorem q4S (p : Int) (aA : Option Addr) (nA cA : Nat) (aG : Option Addr) (nG cG : Nat) (aN : Option Addr) (nN cN : Nat) (N : List Gd) (gs : List Int) (q g : Nat) (cur : List Int) (w : World) (hM : MayG p nA N gs) (hN : NdSl w aN nN cN N) (hG : ZSl w aG nG cG gs) (hU : NuB w g cur) (hq : q < nA) :
  Calls Try.prog 61 #[.agg #[.int .i64 p,.slice aA nA cA,.slice aG nG cG,.slice aN nN cN],.int .i64 (q : Int),.slice (some ⟨g,0,none⟩) nA 256] w fun e w' => Below w.heap.size w w' ∧ ∃ a c,e = .returned (.slice a (2 ^ p.toNat) c) ∧ w'.ownsRow w.heap.size 3 1 (.slice a (2 ^ p.toNat) c) (2 ^ p.toNat) ((rwN (rwA p N gs) q cur).map (Value.int .i64)) := by
 obtain ⟨Q,hQ⟩ : ∃ Q : Ending → World → Prop,Q = fun e w' => Below w.heap.size w w' ∧ ∃ a c,e = .returned (.slice a (2 ^ p.toNat) c) ∧ w'.ownsRow w.heap.size 3 1 (.slice a (2 ^ p.toNat) c) (2 ^ p.toNat) ((rwN (rwA p N gs) q cur).map (Value.int .i64)) := ⟨_,rfl⟩
 have HQ : Hid (∀ a c w',Below w.heap.size w w' → w'.ownsRow w.heap.size 3 1 (.slice a (2 ^ p.toNat) c) (2 ^ p.toNat) ((rwN (rwA p N gs) q cur).map (Value.int .i64)) → Q (.returned (.slice a (2 ^ p.toNat) c)) w') := fun a c w' h1 h2 => by rw [hQ]; exact ⟨h1,a,c,rfl,h2⟩
 rw [← hQ]
 clear hQ
 have hb0 := qb w (.cells #[.int .i64 p,.slice aA nA cA,.slice aG nG cG,.slice aN nN cN] 26 (0,0))
 have HB0 : Hid _ := hb0
 have HV0 : Hid _ := qf w p aA nA cA aG nG cG aN nN cN
 have hqR : q < nG := by have h1 := hG.hlen; have h2 := hM.len; omega
 have hixg := fun w' => hG.idx nG q w' hqR (Nat.le_refl _)
 have hcg := (hG.up hb0).cell q hqR
 have hi64 := q23 hM (q := q) (by have h2 := hM.len; omega)
 have hk256 := hM.k256
 have h256 := hM.s2
 have hRr := (hM.rows (2 ^ p.toNat)).row q hq
 have HRL : Hid (∀ k,k < 2 ^ p.toNat → ((rwA p N gs).getD q []).getD k 0 < nA) := fun k hk => (hM.rows (2 ^ p.toNat)).lt q k hq hk
 have htab := hM.tab (K := 2 ^ p.toNat) hq
 have jt := q2i p aN nN cN N (gs.getD q 0) (w.alloc (.cells #[.int .i64 p,.slice aA nA cA,.slice aG nG cG,.slice aN nN cN] 26 (0,0))).drew ((hN.up hb0).up ((Below.refl _ _).drew)) hi64
 have HT : Hid (∀ e w6,TabRO p N (gs.getD q 0) (w.alloc (.cells #[.int .i64 p,.slice aA nA cA,.slice aG nG cG,.slice aN nN cN] 26 (0,0))).drew e w6 → ∃ a c,e = .returned (.tuple #[.slice a (2 ^ p.toNat) c,.int .i64 0]) ∧ Below w.heap.size w w6 ∧ w6.ownsRow (w.heap.size + 1) 3 1 (.slice a (2 ^ p.toNat) c) (2 ^ p.toNat) ((((rwA p N gs).getD q []).map Int.ofNat).map (Value.int .i64))) := fun e w6 hq2 => by
  obtain ⟨hb,⟨h1,_⟩ | ⟨_,_,⟨h3,_⟩ | ⟨l,a,c,h3,rfl,h4⟩⟩⟩ := hq2
  ·exact absurd ⟨hM.p0,hM.p8⟩ h1
  ·rw [htab] at h3; cases h3
  ·rw [htab] at h3; injection h3 with h3; subst h3
   have hl : (((rwA p N gs).getD q []).map Int.ofNat).length = 2 ^ p.toNat := by rw [List.length_map]; exact hRr
   rw [hl] at h4 ⊢
   refine ⟨a,c,rfl,qa hb0 (qa ((Below.refl _ _).drew) hb),?_⟩
   simpa using h4
 have HE0 : Hid (rwN (rwA p N gs) q cur = ((rwA p N gs).getD q []).map fun t => cur.getD t 0) := rfl
 have HUU : Hid _ := hU
 have HRR : Hid _ := hRr
 clear hM hN hG hU hb0 hRr htab hi64
 generalize (rwA p N gs).getD q [] = row at *
 generalize rwN (rwA p N gs) q cur = res at *
 generalize 2 ^ p.toNat = K at *
 obtain ⟨c0,c1,c2,c3⟩ := HV0.out
 generalize gs.getD q 0 = rq at *
 generalize adOf aG q = ag at *
 obtain ⟨ag1,ag2,ag3⟩ := ag
 have dq1 : decide (nG ≤ q) = false := by simp; exact hqR
 go_enter Try.func61,Try.ntmps61
 go_upto_region 1 with fail
 go_cut [7] (fun v7 wx => ∃ (ya : Option Addr) (yc : Nat),v7 = .slice ya K yc ∧ Hid (Below w.heap.size w wx) ∧ Hid (wx.ownsRow (w.heap.size + 1) 3 1 (.slice ya K yc) K ((row.map Int.ofNat).map (Value.int .i64))))
 case first =>
  go_region_with (first
   | (go_at_call 72; (with_reducible refine jt.mono ?_); intro e w6 hq6; obtain ⟨ya,yc,rfl,hb6,ho6⟩ := HT.out e w6 hq6; have HB6 : Hid _ := hb6; have HO6 : Hid _ := ho6; clear hq6 hb6 ho6)
   | fail)
  all_goals
   go_wp2_with fail
   go_meet
   exact ⟨_,_,rfl,HB6,HO6⟩
 case rest =>
 obtain ⟨ya,yc,rfl,HB6,HO6⟩ := hcut
 generalize wc = w6 at *
 clear jt HT c0 c1 c2 c3 hcg hixg
 have HO0 : Hid (w6.ownsRow (w.heap.size + 1) 3 1 (.slice ya K yc) K ((rwTo row cur 0).map (Value.int .i64))) := by rw [q6S]; exact HO6.out
 clear HO6
 go_wp2
 go_loopw [26] (fun i wr => ∃ k : Nat,k ≤ K ∧ i = .int .i64 (k : Int) ∧ Hid (wr.ownsRow (w.heap.size + 1) 3 1 (.slice ya K yc) K ((rwTo row cur k).map (Value.int .i64))) ∧ Hid (Below (w.heap.size + 1) w6 wr)) (fun i _ => K - (intOf i).toNat)
 case atStart => exact ⟨0,Nat.zero_le _,rfl,HO0,Below.refl _ _⟩
 case round =>
  obtain ⟨k,hk,rfl,HO,HW⟩ := hrel
  clear HO0
  by_cases hlt : k < K
  ·have hkr : k < row.length := by rw [HRR.out]; exact hlt
   obtain ⟨gw,cw,ev,hgw,hnc,hcv,hfv,hown⟩ := q7n HO.out hlt (.int .i64 (cur.getD (row.getD k 0) 0))
   injection ev with ev1 _ ev3
   subst ev1 ev3
   have hcv2 : wr.cell? ⟨gw,k,none⟩ = some (.int .i64 ((row.getD k 0 : Nat) : Int)) := by
    have h2 : k < (rwTo row cur k).length := by rw [q7v]; exact hkr
    rw [hcv,List.getElem?_map,List.getElem?_eq_getElem h2,← qg h2 0,q7W hkr]; rfl
   have HO2 : Hid ((wr.setCell ⟨gw,k,none⟩ (.int .i64 (cur.getD (row.getD k 0) 0))).ownsRow (w.heap.size + 1) 3 1 (.slice (some ⟨gw,0,none⟩) K yc) K ((rwTo row cur (k + 1)).map (Value.int .i64))) := by
    rw [← q6R hkr,List.map_set]; exact hown
   have HW2 : Hid (Below (w.heap.size + 1) w6 (wr.setCell ⟨gw,k,none⟩ (.int .i64 (cur.getD (row.getD k 0) 0)))) := HW.out.setCell hgw _
   have hix : ∀ w',(Instr.indexAt 23 (.slice (some ⟨gw,0,none⟩) K yc) (.int .i64 (k : Int))).run Try.prog w' = .ok (.pointer (some ⟨gw,k,none⟩)) w' := fun w' => by
    have := qp (P := Try.prog) (T := 23) Try.underlying23 qh (a := some ⟨gw,0,none⟩) (cap := yc) (n := K) (fun e => by cases e) k w' hlt
    simpa [adOf,qd] using this
   have htn := HRL.out k hlt
   have hi2 := fun w' => q1B g nA (row.getD k 0) htn w'
   have hgl := HUU.out.lt
   have hnu : NuB wr g cur := ⟨(HW.out.block g (by omega)).trans ((HB6.out.block g hgl).trans HUU.out.row),HUU.out.len⟩
   have hc2 := hnu.row.cell (i := row.getD k 0) (by rw [hnu.len]; omega)
   clear hcv hown HO hnu hkr
   generalize row.getD k 0 = t at *
   generalize cur.getD t 0 = z at *
   have dt0 : decide ((t : Int) < 0) = false := by simp
   have dt1 : decide (nA ≤ t) = false := by simp; exact htn
   go_wp2
   go_roundw
   case rel => exact ⟨k + 1,by omega,by go_num,HO2,HW2⟩
   case measure => simp [intOf]; omega
  ·obtain rfl : k = K := by omega
   have HE : Hid _ := HQ.out ya yc wr (HB6.out.trans (HW.out.mono (by omega))) (by
    have := HO.out
    rw [show k = row.length from HRR.out.symm,q7u,← HE0.out,HRR.out] at this
    exact qI this (by omega))
   clear HO HW HQ
   go_wp2
   exact HE.out
end Go.Proofs.Ytehddcdgpamaaaa
