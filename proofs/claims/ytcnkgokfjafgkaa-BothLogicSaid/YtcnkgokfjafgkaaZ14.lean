/- Texts of the proof, put together: what it uses. -/
import Derived.Lib.QuietBelow
import Derived.BigQuiet
import Derived.Test.YtcnkgokfjafgkaaZ02
import Derived.Test.YtcnkgokfjafgkaaZ06
import Derived.Test.YtcnkgokfjafgkaaZ07
import Derived.Test.YtcnkgokfjafgkaaZ08
import Derived.Test.YtcnkgokfjafgkaaZ11
import Derived.Test.YtcnkgokfjafgkaaZ12
import Derived.Test.YtcnkgokfjafgkaaZ13
set_option maxRecDepth 100000
set_option maxHeartbeats 16000000
namespace Go.Proofs.Ytcnkgokfjafgkaa
open Go.RowKit Go.Maps Go.Sort
theorem q2u {p : Int} {ns : Nat} {N : List Gd} {gs : List Int} (h : MayG p ns N gs) {q : Nat} (hq : q < gs.length) : I64 (gs.getD q 0) := by
 have hg : gs.getD q 0 ∈ gs := by rw [qd hq]; exact List.getElem_mem hq
 have h1 := h.few
 have h0 := h.s2
 unfold I64
 rcases h.gd _ hg with ⟨h2,h3⟩ | ⟨j,h2,h3,_⟩
 ·constructor <;> omega
 ·rw [h2]; constructor <;> omega
theorem q4Q {p : Int} {ns : Nat} {N : List Gd} {gs : List Int} (h : MayG p ns N gs) (x : Nat) : fitsB p (x : Int) = decide (x < 2 ^ p.toNat) := by
 have h0 := h.p0
 have h8 := h.p8
 rw [q6T h0 h8]
 have e : (x : Int) / 2 ^ p.toNat = ((x / 2 ^ p.toNat : Nat) : Int) := by simp
 rw [e,Bool.eq_iff_iff,beq_iff_eq,decide_eq_true_iff]
 have hp := Nat.two_pow_pos p.toNat
 constructor
 ·intro h1
  have : x / 2 ^ p.toNat = 0 := by omega
  rcases Nat.div_eq_zero_iff.1 this with h | h
  ·omega
  ·exact h
 ·intro h1
  rw [Nat.div_eq_of_lt h1]; rfl
def RuA (p : Int) (nA : Nat) (N : List Gd) (gs : List Int) (ts : List Nat) (v r : Int) : Prop :=
 (¬ MayG p nA N gs ∧ v = 0 ∧ r = 12) ∨ (MayG p nA N gs ∧ traceE p (ts.map Int.ofNat) ≠ 0 ∧ v = 0 ∧ r = traceE p (ts.map Int.ofNat)) ∨
  (MayG p nA N gs ∧ traceE p (ts.map Int.ofNat) = 0 ∧ v = ((runP (rwA p N gs) 0 ts : Nat) : Int) ∧ r = 0)
theorem RuA.uni {p : Int} {nA : Nat} {N : List Gd} {gs : List Int} {ts : List Nat} {v r v' r' : Int} (h : RuA p nA N gs ts v r) (h' : RuA p nA N gs ts v' r') : v = v' ∧ r = r' := by
 rcases h with ⟨h1,h2,h3⟩ | ⟨h1,h2,h3,h4⟩ | ⟨h1,h2,h3,h4⟩ <;> rcases h' with ⟨k1,k2,k3⟩ | ⟨k1,k2,k3,k4⟩ | ⟨k1,k2,k3,k4⟩ <;> first
  | exact absurd k1 h1
  | exact absurd h1 k1
  | exact absurd k2 h2
  | exact absurd h2 k2
  | exact ⟨by omega,by omega⟩
def RuR (p : Int) (nA : Nat) (N : List Gd) (gs : List Int) (ts : List Nat) (w : World) (e : Ending) (w' : World) : Prop := Below w.heap.size w w' ∧ ∃ v r,e = .returned (.tuple #[.int .i64 v,.int .i64 r]) ∧ RuA p nA N gs ts v r
theorem q8D {p : Int} {nA : Nat} {N : List Gd} {gs : List Int} (h : MayG p nA N gs) {ts : List Nat} (ht : traceE p (ts.map Int.ofNat) = 0) : ∀ x ∈ ts,x < 2 ^ p.toNat := fun x hx => by
 have h0 := h.p0
 have h8 := h.p8
 unfold traceE at ht
 rw [if_pos ⟨h0,h8⟩] at ht
 split at ht
 ·cases ht
 ·split at ht
  ·rename_i h1
   rw [List.all_eq_true] at h1
   have := h1 (x : Int) (List.mem_map.2 ⟨x,hx,rfl⟩)
   rw [q4Q h] at this
   exact of_decide_eq_true this
  ·cases ht
theorem q8E {p : Int} {nA : Nat} {N : List Gd} {gs : List Int} (h : MayG p nA N gs) {ts : List Nat} (hl : ts.length ≤ 1024) (ht : ∀ x ∈ ts,x < 2 ^ p.toNat) : traceE p (ts.map Int.ofNat) = 0 := by
 have h0 := h.p0
 have h8 := h.p8
 unfold traceE
 rw [if_pos ⟨h0,h8⟩,if_neg (by rw [List.length_map]; omega),if_pos]
 rw [List.all_eq_true]
 intro z hz
 obtain ⟨x,hx,rfl⟩ := List.mem_map.1 hz
 exact (q4Q h x).trans (decide_eq_true (ht x hx))
abbrev LtC (w : World) (a : Option Addr) (len cap : Nat) (ts : List Nat) : Prop := IntSl Try.prog 27 .u8 w a len cap (ts.map Int.ofNat)
theorem q2J (p : Int) (aA : Option Addr) (nA cA : Nat) (aG : Option Addr) (nG cG : Nat) (aN : Option Addr) (nN cN : Nat) (N : List Gd) (gs : List Int) (q z : Nat) (w : World) (hM : MayG p nA N gs) (hN : NdSl w aN nN cN N) (hG : ZSl w aG nG cG gs) (hq : q < nA) (hz : z < 2 ^ p.toNat) :
  Calls Try.prog 44 #[.agg #[.int .i64 p,.slice aA nA cA,.slice aG nG cG,.slice aN nN cN],.int .i64 (q : Int),.int .u8 (z : Int)] w fun e w' => e = .returned (.int .i64 ((trP (rwA p N gs) q z : Nat) : Int)) ∧ Below w.heap.size w w' := by
 have hb0 := q5 w (.cells #[.int .i64 p,.slice aA nA cA,.slice aG nG cG,.slice aN nN cN] 26 (0,0))
 obtain ⟨c0,c1,c2,c3⟩ := qj w p aA nA cA aG nG cG aN nN cN
 have hv1 := hM.tr (K := 2 ^ p.toNat) (s := q) (x := z) hq hz
 have hqR : q < nG := by have h1 := hG.hlen; have h2 := hM.len; omega
 have hixg := fun w' => hG.idx nG q w' hqR (Nat.le_refl _)
 have hcg := (hG.up hb0).cell q hqR
 have hi64 := q2u hM (q := q) (by have h2 := hM.len; omega)
 have hk256 := hM.k256
 have h256 := hM.s2
 have hz256 : z < 256 := by omega
 have hq256 : q < 256 := by omega
 have HB0 : Hid _ := hb0
 obtain ⟨w1,hw1⟩ : ∃ w1,w1 = w.alloc (.cells #[.int .i64 p,.slice aA nA cA,.slice aG nG cG,.slice aN nN cN] 26 (0,0)) := ⟨_,rfl⟩
 rw [← hw1] at HB0 c0 c1 c2 c3 hcg
 have hN1 := hN.up hb0
 rw [← hw1] at hN1
 have cS : ∀ d os,Calls Try.prog 61 #[.slice aN nN cN,.int .i64 (gs.getD q 0),.int .u8 (z : Int)] (grow (redrawn w1 d) os) fun e w'' => e = .returned (.tuple #[.int .i64 ((trP (rwA p N gs) q z : Nat) : Int),.bool true]) ∧ ∃ p : Regrown,w'' = grow (redrawn w1 p.d) p.os := fun d os => by
  have hb := below_regrown w1 d os
  refine (q3j aN nN cN N (gs.getD q 0) z _ (hN1.up hb) hi64 hz256).mono ?_
  rintro e w'' ⟨rfl,h2⟩
  rw [hv1]
  exact ⟨rfl,regrown_of_below (q7 hb h2)⟩
 have HE : Hid (∀ d os,Below w.heap.size w (grow (redrawn w1 d) os)) := fun d os => q7 HB0.out (below_regrown w1 d os)
 have dq0 : decide ((q : Int) < 0) = false := by simp
 have dq1 : decide (nG ≤ q) = false := by simp; exact hqR
 have k2 := cell_regrown c2
 have k3 := cell_regrown c3
 have kg := cell_regrown hcg
 have HW1 : Hid _ := hw1
 clear hcg hi64 hN hG hN1 hM c0 c1 c2 c3 hv1 hz hb0 hq h256 hk256 HB0 hw1
 generalize gs.getD q 0 = rq at *
 generalize trP (rwA p N gs) q z = v at *
 generalize adOf aG q = ag at *
 obtain ⟨ag1,ag2,ag3⟩ := ag
 go_enter Try.func44,Try.ntmps44
 go_wp2_with fail
 rw [← HW1.out]
 refine wp_region_quiet_below (by kernel_rfl) (by kernel_rfl) ?_
 repeat (go_big_quiet_step (exact cS _ _))
 refine wpQuiet_nil ?_
 intro _ hw'
 obtain ⟨⟨dq,osq⟩,hw''⟩ := hw'
 subst hw''
 have HI3 : Hid _ := HE.out dq osq
 generalize grow (redrawn w1 dq) osq = wx at *
 clear cS k2 k3 kg HE
 go_wp2
 go_ret
 exact ⟨rfl,HI3.out⟩
theorem q5x (p : Int) (aA : Option Addr) (nA cA : Nat) (aG : Option Addr) (nG cG : Nat) (aN : Option Addr) (nN cN : Nat) (N : List Gd) (gs : List Int) (d : Option Addr) (m c : Nat) (ts : List Nat) (w : World) (hN : NdSl w aN nN cN N) (hG : ZSl w aG nG cG gs) (hok : ∀ z ∈ gs,I64 z) (hL : LtC w d m c ts) (_ : ∀ x ∈ ts,x < 256) :
  Calls Try.prog 26 #[.agg #[.int .i64 p,.slice aA nA cA,.slice aG nG cG,.slice aN nN cN],.slice d m c] w (RuR p nA N gs ts w) := by
 obtain ⟨Z,eZ⟩ : ∃ Z,Z = RuR p nA N gs ts w := ⟨_,rfl⟩
 have HZ : Hid (∀ v r w',Below w.heap.size w w' → RuA p nA N gs ts v r → Z (.returned (.tuple #[.int .i64 v,.int .i64 r])) w') := fun v r w' hb h => by rw [eZ]; exact ⟨hb,v,r,rfl,h⟩
 rw [← eZ]
 clear eZ
 have hb0 := q5 w (.cells #[.int .i64 p,.slice aA nA cA,.slice aG nG cG,.slice aN nN cN] 26 (0,0))
 have HB0 : Hid _ := hb0
 have HV0 : Hid _ := qj w p aA nA cA aG nG cG aN nN cN
 obtain ⟨c0,c1,c2,c3⟩ := HV0.out
 have HN : Hid _ := hN
 have HG : Hid _ := hG
 have HL : Hid _ := hL
 have HLN : Hid (ts.length = m) := by have := hL.hlen; rwa [List.length_map] at this
 have hmb := Nat.le_trans hL.hcap hL.bd
 unfold maxLen at hmb
 have jc := q1J p aA nA cA aG nG cG aN nN cN N gs _ (hN.up hb0) (hG.up hb0) hok
 have jt := fun w' (hb : Below w.heap.size w w') => q3r p d m c (ts.map Int.ofNat) w' (hL.up hb)
 clear hN hG hok hb0 hL
 go_enter Try.func26,Try.ntmps26
 go_wp2_with fail
 refine jc.mono ?_
 rintro e w2 ⟨hb2,v,rfl,⟨rfl,hM⟩ | ⟨rfl,hM⟩⟩
 ·have HV2 : Hid _ := HV0.out.up hb2
  obtain ⟨d0,d1,d2,d3⟩ := HV2.out
  have hbb := q7 HB0.out hb2
  have HBB : Hid _ := hbb
  have jt := jt w2 hbb
  have h256 := hM.s2
  have h1n := hM.s1
  have hk256 := hM.k256
  by_cases hE : traceE p (ts.map Int.ofNat) = 0
  ·rw [hE] at jt
   have HT : Hid _ := q8D hM hE
   have HM : Hid _ := hM
   have HR : Hid _ := hM.rows (2 ^ p.toNat)
   have HEn : Hid (∀ w',Below w.heap.size w w' → Z (.returned (.tuple #[.int .i64 ((runP (rwA p N gs) 0 ts : Nat) : Int),.int .i64 0])) w') := fun w' hb => HZ.out _ _ w' hb (.inr (.inr ⟨hM,hE,rfl,rfl⟩))
   clear jc c0 c1 c2 c3 HZ HV0 hb2 hbb hE hM
   go_wp2_with (go_at_call 43; (with_reducible refine jt.mono ?_); rintro e w' ⟨rfl,hw1⟩; obtain rfl := hw1.symm)
   clear d0 d1 d2 d3 jt
   go_loopw [8,25] (fun v j wr => ∃ (i q : Nat),i ≤ m ∧ j = .int .i64 (i : Int) ∧ v = .int .i64 (q : Int) ∧ Hid (Below w2.heap.size w2 wr ∧ q < nA ∧ q = runP (rwA p N gs) 0 (ts.take i))) (fun _ j _ => m - (intOf j).toNat)
   case atStart => exact ⟨0,0,Nat.zero_le _,rfl,rfl,Below.refl _ _,by omega,rfl⟩
   case round =>
    obtain ⟨i,q,hi,rfl,rfl,HI⟩ := hrel
    have hq := HI.out.2.1
    have hbw := q7 HBB.out HI.out.1
    obtain ⟨c0,c1,c2,c3⟩ := HV2.out.up HI.out.1
    by_cases hlt : i < m
    ·have hit : i < ts.length := by have := HLN.out; omega
     have hS := HL.out.up hbw
     have hixl := fun w' => hS.idx m i w' hlt (Nat.le_refl _)
     have hcl := hS.cell i hlt
     rw [qD hit] at hcl
     have hzn : ts.getD i 0 < 2 ^ p.toNat := HT.out _ (q1e hit)
     have hv2 := HR.out.lt q (ts.getD i 0) hq hzn
     have js := q2J p aA nA cA aG nG cG aN nN cN N gs q (ts.getD i 0) wr HM.out (HN.out.up hbw) (HG.out.up hbw) hq hzn
     have HJS : Hid (∀ wx,Below wr.heap.size wr wx → Calls Try.prog 44 #[.agg #[.int .i64 p,.slice aA nA cA,.slice aG nG cG,.slice aN nN cN],.int .i64 (q : Int),.int .u8 ((ts.getD i 0 : Nat) : Int)] wx fun e w' => e = .returned (.int .i64 ((trP (rwA p N gs) q (ts.getD i 0) : Nat) : Int)) ∧ Below wx.heap.size wx w') := fun wx hb => q2J p aA nA cA aG nG cG aN nN cN N gs q (ts.getD i 0) wx HM.out ((HN.out.up hbw).up hb) ((HG.out.up hbw).up hb) hq hzn
     have HI2 : Hid (∀ wx,Below wr.heap.size wr wx → Below w2.heap.size w2 wx ∧ trP (rwA p N gs) q (ts.getD i 0) < nA ∧ trP (rwA p N gs) q (ts.getD i 0) = runP (rwA p N gs) 0 (ts.take (i + 1))) := fun wx hb => ⟨q7 HI.out.1 hb,hv2,by
      rw [qB hit,qP,← HI.out.2.2]⟩
     generalize ts.getD i 0 = z at *
     have hz256 : z < 256 := by omega
     clear hS HI hv2 hzn hbw
     go_wp2_with fail
     refine js.mono ?_
     rintro e w3 ⟨rfl,hb3⟩
     have HI3 : Hid _ := HI2.out w3 hb3
     clear js HI2 hb3
     go_wp2
     go_roundw
     case rel => exact ⟨i + 1,_,by omega,by go_num,rfl,HI3⟩
     case measure => simp [intOf] <;> omega
    ·obtain rfl : i = m := by omega
     have hfin : q = runP (rwA p N gs) 0 ts := by rw [HI.out.2.2,List.take_of_length_le (by rw [HLN.out]; exact Nat.le_refl _)]
     have HR2 : Hid _ := HEn.out wr hbw
     rw [← hfin] at HR2
     clear HI hfin hbw HEn c0 c1 c2 c3
     go_wp2
     exact HR2.out
  ·have HE : Hid _ := HZ.out 0 _ w2 hbb (.inr (.inl ⟨hM,hE,rfl,rfl⟩))
   have e5 : (traceE p (ts.map Int.ofNat) != 0) = true := by simpa using hE
   clear jc hM c0 c1 c2 c3 HZ HV0 hb2 hbb hE
   generalize traceE p (ts.map Int.ofNat) = tE at *
   go_wp2_with (go_at_call 43; (with_reducible refine jt.mono ?_); rintro e w' ⟨rfl,hw1⟩; obtain rfl := hw1.symm)
   exact HE.out
 ·have HE : Hid _ := HZ.out 0 12 w2 (q7 HB0.out hb2) (.inl ⟨hM,rfl,rfl⟩)
  clear jc jt hb2 hM c0 c1 c2 c3 HZ
  go_wp2
  exact HE.out
theorem q2w {w : World} {base e n i : Nat} {v : Value} {xs : List Value} (h : w.ownsRow base e 1 v n xs) (hi : i < n) (y : Value) : ∃ g cap,v = .slice (some ⟨g,0,none⟩) n cap ∧ base ≤ g ∧ n ≤ cap ∧ w.cell? ⟨g,i,none⟩ = xs[i]? ∧ w.frozen? ⟨g,i,none⟩ = false ∧ (w.setCell ⟨g,i,none⟩ y).ownsRow base e 1 v n (xs.set i y) := by
 obtain ⟨hl,h⟩ := h
 rcases h with ⟨rfl,h0⟩ | ⟨g,cap,cur,rfl,hg,hcell,hnc,hcm,hsz,htk⟩
 ·omega
 ·have hcu : cur.toList.length = cap := by simpa using hsz
  refine ⟨g,cap,rfl,hg,hnc,?_,frozen_of_row w g i _ _ hcell,by simpa using hl,Or.inr ⟨g,cap,cur.setIfInBounds i y,rfl,hg,heap_setCell_same w g i _ _ y hcell,hnc,hcm,by simpa using hsz,?_⟩⟩
  ·rw [q6 hcell i,← htk,List.getElem?_take,if_pos (by omega)]
   simp
  ·rw [← htk]
   simp [List.take_set]
structure NuB (w : World) (g : Nat) (cur : List Int) : Prop where
 row : RowI w 79 g cur
 len : cur.length = 256
theorem NuB.up {w w' : World} {g : Nat} {cur : List Int} (h : NuB w g cur) (hb : Below w.heap.size w w') : NuB w' g cur := ⟨h.row.up hb,h.len⟩
theorem NuB.lt {w : World} {g : Nat} {cur : List Int} (h : NuB w g cur) : g < w.heap.size := h.row.lt
theorem NuB.set {w : World} {g : Nat} {cur : List Int} (h : NuB w g cur) (i : Nat) (x : Int) : NuB (w.setCell ⟨g,i,none⟩ (.int .i64 x)) g (cur.set i x) := ⟨h.row.set i x,by rw [List.length_set]; exact h.len⟩
theorem q2Q (g n i : Nat) (hi : i < n) (w : World) : (Instr.indexAt 23 (.slice (some ⟨g,0,none⟩) n 256) (.int .i64 (i : Int))).run Try.prog w = .ok (.pointer (some ⟨g,i,none⟩)) w := by
 have := qt (P := Try.prog) (T := 23) Try.underlying23 qf (a := some ⟨g,0,none⟩) (cap := 256) (n := n) (fun e => by cases e) i w hi
 simpa [adOf,q9] using this
def sprC (C : List Nat) (c : Nat) (m : Int) (k : Nat) (cur : List Int) : List Int := (List.range cur.length).map fun i => if i < k ∧ C.getD i 0 = c then m else cur.getD i 0
theorem qF (C : List Nat) (c : Nat) (m : Int) (k : Nat) (cur : List Int) : (sprC C c m k cur).length = cur.length := by simp [sprC]
theorem q1G (C : List Nat) (c : Nat) (m : Int) (k : Nat) (cur : List Int) {i : Nat} (h : i < cur.length) : (sprC C c m k cur).getD i 0 = if i < k ∧ C.getD i 0 = c then m else cur.getD i 0 := by
 rw [qd (by rw [qF]; exact h)]; simp [sprC]
theorem q8z (C : List Nat) (c : Nat) (m : Int) (cur : List Int) : sprC C c m 0 cur = cur := by
 apply List.ext_getElem (by rw [qF])
 intro i h1 h2
 rw [← qd h1 0,← qd h2 0,q1G _ _ _ _ _ h2,if_neg (by omega)]
theorem q9O {C : List Nat} {c : Nat} {m : Int} {k : Nat} {cur : List Int} (h : C.getD k 0 = c) : (sprC C c m k cur).set k m = sprC C c m (k + 1) cur := by
 apply List.ext_getElem (by rw [List.length_set,qF,qF])
 intro i h1 h2
 have hi : i < cur.length := by rw [qF] at h2; exact h2
 rw [← qd h2 0,q1G _ _ _ _ _ hi,List.getElem_set]
 by_cases e : k = i
 ·subst e; rw [if_pos rfl,if_pos ⟨by omega,h⟩]
 ·rw [if_neg e,← qd (by rw [qF]; exact hi) 0,q1G _ _ _ _ _ hi]
  by_cases h3 : i < k ∧ C.getD i 0 = c
  ·rw [if_pos h3,if_pos ⟨by omega,h3.2⟩]
  ·rw [if_neg h3,if_neg (fun h4 => h3 ⟨by omega,h4.2⟩)]
theorem q8y {C : List Nat} {c : Nat} {m : Int} {k : Nat} {cur : List Int} (h : C.getD k 0 ≠ c) : sprC C c m k cur = sprC C c m (k + 1) cur := by
 apply List.ext_getElem (by rw [qF,qF])
 intro i h1 h2
 have hi : i < cur.length := by rw [qF] at h2; exact h2
 rw [← qd h1 0,← qd h2 0,q1G _ _ _ _ _ hi,q1G _ _ _ _ _ hi]
 by_cases h3 : i < k ∧ C.getD i 0 = c
 ·rw [if_pos h3,if_pos ⟨by omega,h3.2⟩]
 ·rw [if_neg h3,if_neg (fun h4 => by
   by_cases e : i = k
   ·subst e; exact h h4.2
   ·exact h3 ⟨by omega,h4.2⟩)]
abbrev OnG (g : Nat) (w w' : World) : Prop := Fr w w' (fun k => k = g) (fun k => k = g)
theorem q1F {g : Nat} {w w' : World} (h : OnG g w w') (i : Nat) (v : Value) : OnG g w (w'.setCell ⟨g,i,none⟩ v) :=
 ⟨h.os,h.tape,h.output,by simpa using h.size,fun k hk hf => (Below.heap_setCell _ _ _ _ (fun e => hf (by simpa using e))).trans (h.keep k hk hf),h.foot⟩
theorem q3C (g : Nat) (w : World) : OnG g w w := Fr.ofBelow (Below.refl _ _)
theorem q4s (g n : Nat) (aO : Option Addr) (cO : Nat) (C : List Nat) (c m : Nat) (cur : List Int) (w : World) (hN : NuB w g cur) (hO : ZSl w aO n cO (C.map Int.ofNat)) (hne : ∀ k,k < n → (adOf aO k).block ≠ g) (hn : n ≤ 256) :
  Calls Try.prog 69 #[.slice (some ⟨g,0,none⟩) n 256,.slice aO n cO,.int .i64 (c : Int),.int .i64 (m : Int)] w fun e w' => e = .returned (.tuple #[]) ∧ NuB w' g (sprC C c m n cur) ∧ OnG g w w' := by
 obtain ⟨Q,hQ⟩ : ∃ Q : Ending → World → Prop,Q = fun e w' => e = .returned (.tuple #[]) ∧ NuB w' g (sprC C c m n cur) ∧ OnG g w w' := ⟨_,rfl⟩
 have HQ : Hid (∀ w',NuB w' g (sprC C c m n cur) → OnG g w w' → Q (.returned (.tuple #[])) w') := fun w' h1 h2 => by rw [hQ]; exact ⟨rfl,h1,h2⟩
 rw [← hQ]
 have HO : Hid _ := hO
 have HNE : Hid _ := hne
 have HCL : Hid (C.length = n) := by have := hO.hlen; rwa [List.length_map] at this
 have HN0 : Hid (NuB w g (sprC C c m 0 cur)) := by rw [q8z]; exact hN
 have hcl := hN.len
 go_enter Try.func69,Try.ntmps69
 go_wp2
 go_loopw [11] (fun i wr => ∃ k : Nat,k ≤ n ∧ i = .int .i64 (k : Int) ∧ Hid (NuB wr g (sprC C c m k cur)) ∧ Hid (OnG g w wr)) (fun i _ => n - (intOf i).toNat)
 case atStart => exact ⟨0,Nat.zero_le _,rfl,HN0,q3C _ _⟩
 case round =>
  obtain ⟨k,hk,rfl,HN,HW⟩ := hrel
  by_cases hlt : k < n
  ·have hi1 := fun w' => HO.out.idx n k w' hlt (Nat.le_refl _)
   have hc1 := (HW.out.intSl HO.out HNE.out).cell k hlt
   rw [qD (by rw [HCL.out]; exact hlt)] at hc1
   have hk2 : k < (sprC C c m k cur).length := by rw [qF]; omega
   have hc2 := HN.out.row.cell hk2
   have hf2 := HN.out.row.frozen k
   generalize adOf aO k = ad at *
   obtain ⟨ag,ao,az⟩ := ad
   by_cases hh : C.getD k 0 = c
   ·have HN2 : Hid (NuB (wr.setCell ⟨g,k,none⟩ (.int .i64 (m : Int))) g (sprC C c m (k + 1) cur)) := by rw [← q9O hh]; exact HN.out.set k m
    have HW2 : Hid _ := q1F HW.out k (.int .i64 (m : Int))
    rw [hh] at hc1
    have dd : ((c : Int) == (c : Int)) = true := by simp
    generalize (sprC C c m k cur).getD k 0 = z at *
    go_wp2
    go_roundw
    case rel => exact ⟨k + 1,by omega,by go_num,HN2,HW2⟩
    case measure => simp [intOf]; omega
   ·have HN2 : Hid (NuB wr g (sprC C c m (k + 1) cur)) := by rw [← q8y hh]; exact HN.out
    generalize C.getD k 0 = y at *
    have dd : ((y : Int) == (c : Int)) = false := by simp; omega
    go_wp2
    go_roundw
    case rel => exact ⟨k + 1,by omega,by go_num,HN2,HW⟩
    case measure => simp [intOf]; omega
  ·obtain rfl : k = n := by omega
   have HE : Hid _ := HQ.out wr HN.out HW.out
   go_wp2
   go_end0
   exact HE.out
end Go.Proofs.Ytcnkgokfjafgkaa
namespace Go.Proofs.Ytcnkgokfjafgkaa
open Go.RowKit Go.Maps
def izV (l : List Nat) : List Value := (l.map Int.ofNat).map (Value.int .i64)
theorem q1E (l : List Nat) : (izV l).length = l.length := by simp [izV]
def BwM (w : World) (g S : Nat) (B : List (List (Nat × Nat))) : Prop := ∃ cur,w.heap[g]? = some (.cells cur 91 (0,0)) ∧ ∀ s,s < S → ∃ a cap,cur[s]? = some (.slice a (B.getD s []).length cap) ∧ (0 < (B.getD s []).length → ∃ gi cu,a = some ⟨gi,0,none⟩ ∧ w.heap[gi]? = some (.cells cu 93 (0,0)) ∧ ∀ (k : Nat) (x : Nat × Nat),(B.getD s [])[k]? = some x → cu[2 * k]? = some (.int .i32 (x.1 : Int)) ∧ cu[2 * k + 1]? = some (.int .u8 (x.2 : Int)))
def NoW (w : World) (F : Nat → Prop) : Prop := ∀ k,F k → ∀ cs,w.heap[k]? ≠ some (.cells cs 91 (0,0)) ∧ w.heap[k]? ≠ some (.cells cs 93 (0,0))
theorem BwM.fr {w w' : World} {F F' : Nat → Prop} {g S : Nat} {B : List (List (Nat × Nat))} (h : BwM w g S B) (hf : Fr w w' F F') (hz : NoW w F) : BwM w' g S B := by
 obtain ⟨cur,h1,h2⟩ := h
 refine ⟨cur,(hf.keep g (Array.getElem?_eq_some_iff.1 h1).1 (fun e => (hz g e cur).1 h1)).trans h1,fun s hs => ?_⟩
 obtain ⟨a,cap,h3,h4⟩ := h2 s hs
 refine ⟨a,cap,h3,fun hp => ?_⟩
 obtain ⟨gi,cu,h5,h6,h7⟩ := h4 hp
 exact ⟨gi,cu,h5,(hf.keep gi (Array.getElem?_eq_some_iff.1 h6).1 (fun e => (hz gi e cu).2 h6)).trans h6,h7⟩
theorem BwM.up {w w' : World} {g S : Nat} {B : List (List (Nat × Nat))} (h : BwM w g S B) (hb : Below w.heap.size w w') : BwM w' g S B :=
 h.fr (F := fun _ => False) (F' := fun _ => False) (Fr.ofBelow hb) (fun _ hk => hk.elim)
structure PgD where
 w0 : World
 b : Nat
 go : Nat
 S : Nat
 gB : Nat
 cB : Nat
 B : List (List (Nat × Nat))
def pgO (D : PgD) (vi vw vq : Value) : Obj := .cells #[.slice (some ⟨D.gB,0,none⟩) D.S D.cB,.slice (some ⟨D.go,0,none⟩) D.S D.S,vi,vw,vq] 96 (0,0)
def LsB (w : World) (go : Nat) (vq : Value) (a : Option Addr) (l : List Nat) : Prop := 0 < l.length → ∃ g cu,a = some ⟨g,0,none⟩ ∧ w.heap[g]? = some (.cells cu 3 (0,0)) ∧ g ≠ go ∧ vq.ownBlock ≠ some g ∧ ∀ i,i < l.length → cu[i]? = some (.int .i64 ((l.getD i 0 : Nat) : Int))
def PgF (D : PgD) (vi vw vq : Value) (k : Nat) : Prop := k = D.b ∨ k = D.go ∨ vi.ownBlock = some k ∨ vw.ownBlock = some k ∨ vq.ownBlock = some k
structure PgW (D : PgD) (w : World) (vi vw vq : Value) (vs : List Value) (of : List Nat) (ins : List (List Nat)) (ws : List Bool) (qu : List Nat) : Prop where
 bel : Below D.w0.heap.size D.w0 w
 ge : ∀ k,PgF D vi vw vq k → D.w0.heap.size ≤ k
 fo : IzB w D.go (of.map Int.ofNat)
 ol : of.length = D.S
 bk : BwM w D.gB D.S D.B
 blk : w.heap[D.b]? = some (pgO D vi vw vq)
 fi : w.ownsRow 0 23 1 vi ins.length vs
 fw : w.ownsRow 0 4 1 vw ws.length (ws.map Value.bool)
 fq : w.ownsRow 0 3 1 vq qu.length (izV qu)
 qo : vq.ownBlock ≠ some D.go
 ls : ∀ c,c < ins.length → ∃ a cap,vs[c]? = some (.slice a (ins.getD c []).length cap) ∧ LsB w D.go vq a (ins.getD c [])
variable {D : PgD} {w : World} {vi vw vq : Value} {vs : List Value} {of : List Nat} {ins : List (List Nat)} {ws : List Bool} {qu : List Nat}
theorem PgW.lt (h : PgW D w vi vw vq vs of ins ws qu) : ∀ k,PgF D vi vw vq k → k < w.heap.size := fun k hk => by
 rcases hk with rfl | rfl | hk | hk | hk
 ·exact (Array.getElem?_eq_some_iff.1 h.blk).1
 ·exact h.fo.lt
 ·exact (h.fi.lt k hk).2
 ·exact (h.fw.lt k hk).2
 ·exact (h.fq.lt k hk).2
theorem PgW.noW (h : PgW D w vi vw vq vs of ins ws qu) : NoW w (PgF D vi vw vq) := fun k hk cs => by
 have key : ∀ {cs' : Array Value} {e : TypeId},w.heap[k]? = some (.cells cs' e (0,0)) → e ≠ 91 → e ≠ 93 → w.heap[k]? ≠ some (.cells cs 91 (0,0)) ∧ w.heap[k]? ≠ some (.cells cs 93 (0,0)) := fun {cs' e} h1 h2 h3 => by
  rw [h1]
  exact ⟨fun e => by injection e with e; injection e with _ e _; exact h2 e,fun e => by injection e with e; injection e with _ e _; exact h3 e⟩
 rcases hk with rfl | rfl | hk | hk | hk
 ·exact key h.blk (by decide) (by decide)
 ·exact key h.fo (by decide) (by decide)
 ·obtain ⟨_,hc⟩ := qw h.fi hk; exact key hc (by decide) (by decide)
 ·obtain ⟨_,hc⟩ := qw h.fw hk; exact key hc (by decide) (by decide)
 ·obtain ⟨_,hc⟩ := qw h.fq hk; exact key hc (by decide) (by decide)
theorem PgW.far (h : PgW D w vi vw vq vs of ins ws qu) {w' : World} {G G' : Nat → Prop} (hf : Fr w w' G G') (hG : ∀ k,G k → ¬ PgF D vi vw vq k ∧ (∀ cs,w.heap[k]? ≠ some (.cells cs 3 (0,0))) ∧ (∀ cs,w.heap[k]? ≠ some (.cells cs 91 (0,0)) ∧ w.heap[k]? ≠ some (.cells cs 93 (0,0))) ∧ D.w0.heap.size ≤ k) : PgW D w' vi vw vq vs of ins ws qu := by
 have kp : ∀ k,PgF D vi vw vq k → w'.heap[k]? = w.heap[k]? := fun k hk => hf.keep k (h.lt k hk) (fun e => (hG k e).1 hk)
 refine ⟨h.bel.trans (hf.below (fun k hk => (hG k hk).2.2.2) h.bel.size),h.ge,(kp _ (.inr (.inl rfl))).trans h.fo,h.ol,h.bk.fr hf (fun k hk => (hG k hk).2.2.1),(kp _ (.inl rfl)).trans h.blk,qb h.fi (fun k hk => kp k (.inr (.inr (.inl hk)))),qb h.fw (fun k hk => kp k (.inr (.inr (.inr (.inl hk))))),qb h.fq (fun k hk => kp k (.inr (.inr (.inr (.inr hk))))),h.qo,fun c hc => ?_⟩
 obtain ⟨a,cap,h1,h2⟩ := h.ls c hc
 refine ⟨a,cap,h1,fun hp => ?_⟩
 obtain ⟨g,cu,h3,h4,h5⟩ := h2 hp
 exact ⟨g,cu,h3,(hf.keep g (Array.getElem?_eq_some_iff.1 h4).1 (fun e => (hG g e).2.1 cu h4)).trans h4,h5⟩
theorem PgW.up (h : PgW D w vi vw vq vs of ins ws qu) {w' : World} (hb : Below w.heap.size w w') : PgW D w' vi vw vq vs of ins ws qu :=
 h.far (G := fun _ => False) (G' := fun _ => False) (Fr.ofBelow hb) (fun _ hk => hk.elim)
theorem LsB.cell {go : Nat} {a : Option Addr} {l : List Nat} (h : LsB w go vq a l) {i : Nat} (hi : i < l.length) : ∃ g,a = some ⟨g,0,none⟩ ∧ w.cell? ⟨g,i,none⟩ = some (.int .i64 ((l.getD i 0 : Nat) : Int)) := by
 obtain ⟨g,cu,h1,h2,_,_,h3⟩ := h (by omega)
 exact ⟨g,h1,by rw [q6 h2]; exact h3 i hi⟩
theorem PgW.c (h : PgW D w vi vw vq vs of ins ws qu) : w.cell? ⟨D.b,0,none⟩ = some (.slice (some ⟨D.gB,0,none⟩) D.S D.cB) ∧ w.cell? ⟨D.b,1,none⟩ = some (.slice (some ⟨D.go,0,none⟩) D.S D.S) ∧ w.cell? ⟨D.b,2,none⟩ = some vi ∧ w.cell? ⟨D.b,3,none⟩ = some vw ∧ w.cell? ⟨D.b,4,none⟩ = some vq ∧ ∀ i,w.frozen? ⟨D.b,i,none⟩ = false :=
 ⟨q6 h.blk 0,q6 h.blk 1,q6 h.blk 2,q6 h.blk 3,q6 h.blk 4,fun i => frozen_of_row w _ i _ _ h.blk⟩
theorem PgW.nb (h : PgW D w vi vw vq vs of ins ws qu) : D.go ≠ D.b ∧ vi.ownBlock ≠ some D.b ∧ vw.ownBlock ≠ some D.b ∧ vq.ownBlock ≠ some D.b ∧ vi.ownBlock ≠ some D.go ∧ vw.ownBlock ≠ some D.go := by
 refine ⟨fun e => ?_,q14 h.fi h.blk (fun cs e => by unfold pgO at e; injection e with _ e _; exact absurd e (by decide)),q14 h.fw h.blk (fun cs e => by unfold pgO at e; injection e with _ e _; exact absurd e (by decide)),q14 h.fq h.blk (fun cs e => by unfold pgO at e; injection e with _ e _; exact absurd e (by decide)),q14 h.fi h.fo (fun cs e => by injection e with _ e _; exact absurd e (by decide)),q14 h.fw h.fo (fun cs e => by injection e with _ e _; exact absurd e (by decide))⟩
 have h1 := h.fo
 unfold IzB at h1
 rw [e,h.blk] at h1
 injection h1 with h1
 unfold pgO at h1
 injection h1 with _ h1 _
 exact absurd h1 (by decide)
theorem qE {e1 e2 s1 s2 b1 b2 n1 n2 : Nat} {v1 v2 : Value} {x1 x2 : List Value} (h1 : w.ownsRow b1 e1 s1 v1 n1 x1) (h2 : w.ownsRow b2 e2 s2 v2 n2 x2) (hne : e1 ≠ e2) {k : Nat} (hk : v1.ownBlock = some k) : v2.ownBlock ≠ some k := fun hk2 => by
 obtain ⟨_,c1⟩ := qw h1 hk
 obtain ⟨_,c2⟩ := qw h2 hk2
 rw [c1] at c2
 injection c2 with c2
 injection c2 with _ c2 _
 exact hne c2
theorem PgW.setOf (h : PgW D w vi vw vq vs of ins ws qu) (s n : Nat) : PgW D (w.setCell ⟨D.go,s,none⟩ (.int .i64 (n : Int))) vi vw vq vs (of.set s n) ins ws qu ∧ Fr w (w.setCell ⟨D.go,s,none⟩ (.int .i64 (n : Int))) (PgF D vi vw vq) (PgF D vi vw vq) := by
 have ne : ∀ k,k ≠ D.go → (w.setCell ⟨D.go,s,none⟩ (.int .i64 (n : Int))).heap[k]? = w.heap[k]? := fun k hk => Below.heap_setCell _ _ _ _ (by dsimp only; exact hk)
 obtain ⟨n1,n2,n3,n4,n5,n6⟩ := h.nb
 have hfr : Fr w (w.setCell ⟨D.go,s,none⟩ (.int .i64 (n : Int))) (PgF D vi vw vq) (PgF D vi vw vq) := ⟨rfl,rfl,rfl,by simp,fun k hk hn => ne k (fun e => hn (.inr (.inl e))),fun k hk => .inl hk⟩
 refine ⟨⟨h.bel.trans (hfr.below h.ge h.bel.size),h.ge,?_,by rw [List.length_set]; exact h.ol,h.bk.fr hfr h.noW,(ne _ (Ne.symm n1)).trans h.blk,qb h.fi (fun k hk => ne k (fun e => n5 (e ▸ hk))),qb h.fw (fun k hk => ne k (fun e => n6 (e ▸ hk))),qb h.fq (fun k hk => ne k (fun e => h.qo (e ▸ hk))),h.qo,fun c hc => ?_⟩,hfr⟩
 ·have := h.fo.set s (n : Int)
  rw [List.map_set]; exact this
 ·obtain ⟨a,cap,h1,h2⟩ := h.ls c hc
  refine ⟨a,cap,h1,fun hp => ?_⟩
  obtain ⟨g,cu,h3,h4,h5,h6⟩ := h2 hp
  exact ⟨g,cu,h3,(ne g h5).trans h4,h5,h6⟩
theorem PgW.setW (h : PgW D w vi vw vq vs of ins ws qu) {c : Nat} (hc : c < ws.length) (y : Bool) : ∃ g cap,vw = .slice (some ⟨g,0,none⟩) ws.length cap ∧ w.cell? ⟨g,c,none⟩ = some (.bool (ws.getD c false)) ∧ w.frozen? ⟨g,c,none⟩ = false ∧ PgW D (w.setCell ⟨g,c,none⟩ (.bool y)) vi vw vq vs of ins (ws.set c y) qu ∧ Fr w (w.setCell ⟨g,c,none⟩ (.bool y)) (PgF D vi vw vq) (PgF D vi vw vq) := by
 obtain ⟨g,cap,rfl,_,_,hcv,hfv,hown⟩ := q2w h.fw hc (.bool y)
 obtain ⟨n1,n2,n3,n4,n5,n6⟩ := h.nb
 have ne : ∀ k,k ≠ g → (w.setCell ⟨g,c,none⟩ (.bool y)).heap[k]? = w.heap[k]? := fun k hk => Below.heap_setCell _ _ _ _ (by dsimp only; exact hk)
 have hfr : Fr w (w.setCell ⟨g,c,none⟩ (.bool y)) (PgF D vi (.slice (some ⟨g,0,none⟩) ws.length cap) vq) (PgF D vi (.slice (some ⟨g,0,none⟩) ws.length cap) vq) := ⟨rfl,rfl,rfl,by simp,fun k hk hn => ne k (fun e => hn (.inr (.inr (.inr (.inl (by rw [e]; rfl)))))),fun k hk => .inl hk⟩
 have hgt : ∃ cs,w.heap[g]? = some (.cells cs 4 (0,0)) := qw h.fw rfl
 obtain ⟨cs,hgt⟩ := hgt
 refine ⟨g,cap,rfl,?_,hfv,⟨h.bel.trans (hfr.below h.ge h.bel.size),h.ge,(ne _ (fun e => n6 (by rw [e]; rfl))).trans h.fo,h.ol,h.bk.fr hfr h.noW,(ne _ (fun e => n3 (by rw [e]; rfl))).trans h.blk,qb h.fi (fun k hk => ne k (fun e => qE h.fi h.fw (by decide) hk (by rw [e]; rfl))),?_,qb h.fq (fun k hk => ne k (fun e => qE h.fq h.fw (by decide) hk (by rw [e]; rfl))),h.qo,fun d hd => ?_⟩,hfr⟩
 ·rw [hcv,List.getElem?_map,List.getElem?_eq_getElem hc,List.getD_eq_getElem?_getD,List.getElem?_eq_getElem hc]; rfl
 ·rw [List.length_set,List.map_set]; exact hown
 ·obtain ⟨a,cap',h1,h2⟩ := h.ls d hd
  refine ⟨a,cap',h1,fun hp => ?_⟩
  obtain ⟨g',cu,h3,h4,h5,h6⟩ := h2 hp
  refine ⟨g',cu,h3,(ne g' (fun e => ?_)).trans h4,h5,h6⟩
  rw [e,hgt] at h4
  injection h4 with h4
  injection h4 with _ h4 _
  exact absurd h4 (by decide)
theorem qQ {ops : Array Oper} {rest : List Oper} {o : Oper} {a : Act} {Q : Exit → Act → World → Prop} (hgd : o.guard = none) (s x : Operand)
  (ho : o.op = .call { callee := .builtin .append,args := #[s,x],argTypes := #[23,23] }) (base : Nat)
  (v : Value) (n : Nat) (zs : List Nat) (hs : a.eval s = v) (hown : w.ownsRow base 3 1 v n (izV zs)) (g' z : Nat) (hx : a.eval x = .slice (some ⟨g',0,none⟩) 1 1) (hc : w.cell? ⟨g',0,none⟩ = some (.int .i64 (z : Int)))
  (hn : n + 1 ≤ 2000000) (hbase : base ≤ w.heap.size)
  (h : ∀ g c w',w'.ownsRow base 3 1 (.slice (some ⟨g,0,none⟩) (n + 1) c) (n + 1) (izV (zs ++ [z])) → w.grownBy w' v.ownBlock → (v.ownBlock = some g ∨ g = w.heap.size) → wpList Try.prog ops Q rest (a.put o.dst (.slice (some ⟨g,0,none⟩) (n + 1) c)) w') : wpList Try.prog ops Q (o :: rest) a w := by
 have hI : (Try.prog.info? 3).map (fun i => (i.zero,i.size,i.bytes)) = some (some (.int .i64 0),1,8) := by kernel_rfl
 obtain ⟨i,hi,hz0,hz1,hz2⟩ := info_parts hI
 refine wpList_append_lies w hgd s x 23 ho base 3 i _ 1 8 Try.underlying23 hi hz0 hz1 hz2 rfl (by decide) v n _ hs hown ⟨g',0,none⟩ 1 1 [.int .i64 (z : Int)] hx rfl ?_ (fun u hu => by simp at hu; subst hu; rfl) (by decide) (by unfold maxLen; omega) (by omega) hbase _ rfl ?_
 ·intro j u hj
  match j with
  | 0 => simp at hj; rw [← hj,q9]; exact hc
  | j + 1 => simp at hj
 ·intro g c w' h1 h2 h3 _
  exact h g c w' (by rw [izV,List.map_append,List.map_append]; exact h1) h2 h3
theorem q5a {ops : Array Oper} {rest : List Oper} {o : Oper} {a : Act} {Q : Exit → Act → World → Prop} (hgd : o.guard = none) (s x : Operand)
  (ho : o.op = .call { callee := .builtin .append,args := #[s,x],argTypes := #[22,22] }) (base : Nat)
  (v : Value) (n : Nat) (zs : List Bool) (hs : a.eval s = v) (hown : w.ownsRow base 4 1 v n (zs.map Value.bool)) (g' : Nat) (z : Bool) (hx : a.eval x = .slice (some ⟨g',0,none⟩) 1 1) (hc : w.cell? ⟨g',0,none⟩ = some (.bool z))
  (hn : n + 1 ≤ 2000000) (hbase : base ≤ w.heap.size)
  (h : ∀ g c w',w'.ownsRow base 4 1 (.slice (some ⟨g,0,none⟩) (n + 1) c) (n + 1) ((zs ++ [z]).map Value.bool) → w.grownBy w' v.ownBlock → (v.ownBlock = some g ∨ g = w.heap.size) → wpList Try.prog ops Q rest (a.put o.dst (.slice (some ⟨g,0,none⟩) (n + 1) c)) w') : wpList Try.prog ops Q (o :: rest) a w := by
 have hI : (Try.prog.info? 4).map (fun i => (i.zero,i.size,i.bytes)) = some (some (.bool false),1,1) := by kernel_rfl
 obtain ⟨i,hi,hz0,hz1,hz2⟩ := info_parts hI
 refine wpList_append_lies w hgd s x 22 ho base 4 i _ 1 1 Try.underlying22 hi hz0 hz1 hz2 rfl (by decide) v n _ hs hown ⟨g',0,none⟩ 1 1 [.bool z] hx rfl ?_ (fun u hu => by simp at hu; subst hu; rfl) (by decide) (by unfold maxLen; omega) (by omega) hbase _ rfl ?_
 ·intro j u hj
  match j with
  | 0 => simp at hj; rw [← hj,q9]; exact hc
  | j + 1 => simp at hj
 ·intro g c w' h1 h2 h3 _
  exact h g c w' (by rw [List.map_append]; exact h1) h2 h3
theorem qv {w5 : World} {o : Obj} {v : Value} (hg : (w.alloc o).grownBy w5 v.ownBlock) {k : Nat} (hk : k < w.heap.size) (hne : v.ownBlock ≠ some k) : w5.heap[k]? = w.heap[k]? :=
 (hg.block k (by simp; omega) (fun e => hne e.symm)).trans ((q5 w o).block k hk)
theorem PgW.addQ (h : PgW D w vi vw vq vs of ins ws qu) {o : Obj} {w5 : World} {g c x : Nat} (ho : w5.ownsRow 0 3 1 (.slice (some ⟨g,0,none⟩) (qu.length + 1) c) (qu.length + 1) (izV (qu ++ [x]))) (hg : (w.alloc o).grownBy w5 vq.ownBlock) (hl : vq.ownBlock = some g ∨ g = (w.alloc o).heap.size) :
  w5.heap[D.b]? = some (pgO D vi vw vq) ∧ PgW D (w5.setCell ⟨D.b,4,none⟩ (.slice (some ⟨g,0,none⟩) (qu.length + 1) c)) vi vw (.slice (some ⟨g,0,none⟩) (qu.length + 1) c) vs of ins ws (qu ++ [x]) ∧ Fr w (w5.setCell ⟨D.b,4,none⟩ (.slice (some ⟨g,0,none⟩) (qu.length + 1) c)) (PgF D vi vw vq) (PgF D vi vw (.slice (some ⟨g,0,none⟩) (qu.length + 1) c)) := by
 obtain ⟨n1,n2,n3,n4,n5,n6⟩ := h.nb
 have hz : (w.alloc o).heap.size = w.heap.size + 1 := by simp
 have hs5 := hg.size
 have hlt := h.lt
 have gl : g ≠ D.b ∧ g ≠ D.go ∧ ∀ k,k < w.heap.size → vq.ownBlock ≠ some k → g ≠ k := by
  refine ⟨fun e => ?_,fun e => ?_,fun k hk hne e => ?_⟩
  ·rcases hl with hl | hl
   ·exact n4 (e ▸ hl)
   ·have := hlt D.b (.inl rfl); omega
  ·rcases hl with hl | hl
   ·exact h.qo (e ▸ hl)
   ·have := hlt D.go (.inr (.inl rfl)); omega
  ·rcases hl with hl | hl
   ·exact hne (e ▸ hl)
   ·omega
 have ne : ∀ k,k < w.heap.size → k ≠ D.b → vq.ownBlock ≠ some k → (w5.setCell ⟨D.b,4,none⟩ (.slice (some ⟨g,0,none⟩) (qu.length + 1) c)).heap[k]? = w.heap[k]? := fun k hk hb hq => (Below.heap_setCell _ _ _ _ (by dsimp only; exact hb)).trans (qv hg hk hq)
 have hb5 := (qv hg (hlt D.b (.inl rfl)) n4).trans h.blk
 have hfr : Fr w (w5.setCell ⟨D.b,4,none⟩ (.slice (some ⟨g,0,none⟩) (qu.length + 1) c)) (PgF D vi vw vq) (PgF D vi vw (.slice (some ⟨g,0,none⟩) (qu.length + 1) c)) := by
  refine ⟨hg.os,hg.tape,hg.output,by simp; omega,fun k hk hn => ne k hk (fun e => hn (.inl e)) (fun e => hn (.inr (.inr (.inr (.inr e))))),fun k hk => ?_⟩
  rcases hk with hk | hk | hk | hk | hk
  ·exact .inl (.inl hk)
  ·exact .inl (.inr (.inl hk))
  ·exact .inl (.inr (.inr (.inl hk)))
  ·exact .inl (.inr (.inr (.inr (.inl hk))))
  ·have e : g = k := by injection hk
   subst e
   rcases hl with hl | hl
   ·exact .inl (.inr (.inr (.inr (.inr hl))))
   ·right; omega
 refine ⟨hb5,⟨h.bel.trans (hfr.below h.ge h.bel.size),hfr.ge h.ge h.bel.size,(ne _ (hlt _ (.inr (.inl rfl))) n1 h.qo).trans h.fo,h.ol,h.bk.fr hfr h.noW,?_,qb h.fi (fun k hk => ne k (h.fi.lt k hk).2 (fun e => n2 (e ▸ hk)) (qE h.fi h.fq (by decide) hk)),qb h.fw (fun k hk => ne k (h.fw.lt k hk).2 (fun e => n3 (e ▸ hk)) (qE h.fw h.fq (by decide) hk)),?_,fun e => gl.2.1 (by injection e),fun d hd => ?_⟩,hfr⟩
 ·unfold pgO at hb5 ⊢
  rw [heap_setCell_same w5 D.b 4 _ _ _ hb5]; rfl
 ·rw [List.length_append,List.length_singleton]
  exact qb ho fun k hk => Below.heap_setCell _ _ _ _ (by dsimp only; intro e; injection hk with hk; exact gl.1 (hk.trans e))
 ·obtain ⟨a,cap,h1,h2⟩ := h.ls d hd
  refine ⟨a,cap,h1,fun hp => ?_⟩
  obtain ⟨g',cu,h3,h4,h5,h6,h7⟩ := h2 hp
  have hl' := (Array.getElem?_eq_some_iff.1 h4).1
  refine ⟨g',cu,h3,(ne g' hl' (fun e => ?_) h6).trans h4,h5,fun e => gl.2.2 g' hl' h6 (by injection e),h7⟩
  rw [e,h.blk] at h4
  injection h4 with h4
  unfold pgO at h4
  injection h4 with _ h4 _
  exact absurd h4 (by decide)
def PgR (D : PgD) (w : World) (vi vw vq : Value) (of : List Nat) (ins : List (List Nat)) (ws : List Bool) (qu : List Nat) (w' : World) : Prop := ∃ vi' vw' vq' vs',PgW D w' vi' vw' vq' vs' of ins ws qu ∧ Fr w w' (PgF D vi vw vq) (PgF D vi' vw' vq')
theorem q30 (h : PgW D w vi vw vq vs of ins ws qu) {c : Nat} (hc : c < ws.length) (hq : qu.length ≤ 100000) :
  Calls Try.prog 89 #[.pointer (some ⟨D.b,0,none⟩),.int .i64 (c : Int)] w fun e w' => e = .returned (.tuple #[]) ∧ PgR D w vi vw vq of ins (ws.set c true) (qu ++ [c]) w' := by
 obtain ⟨_,_,_,c3,_,_⟩ := h.c
 obtain ⟨gw,cw,rfl,cc,fc,h1,hf1⟩ := h.setW hc true
 obtain ⟨_,_,_,_,c4,fz⟩ := h1.c
 have ixw := fun w' => qt (P := Try.prog) (T := 22) Try.underlying22 q1n (a := some ⟨gw,0,none⟩) (cap := cw) (n := ws.length) (fun e => by cases e) c w' hc
 simp only [adOf,q9,Nat.zero_add] at ixw
 have H1 : Hid _ := h1
 have HF1 : Hid _ := hf1
 have fz4 := fz 4
 obtain ⟨qa,qc,rfl⟩ := qe h1.fq
 have hO := World.ownsRow.alloc h1.fq (.cells #[.int .i64 (c : Int)] 3)
 have hcl : ((w.setCell ⟨gw,c,none⟩ (.bool true)).alloc (.cells #[.int .i64 (c : Int)] 3)).cell? ⟨(w.setCell ⟨gw,c,none⟩ (.bool true)).heap.size,0,none⟩ = some (.int .i64 (c : Int)) := q6 (MapKept.heap_alloc _ _).1 0
 clear h h1 hf1 fz
 generalize ws.length = nw at *
 generalize hW : w.setCell ⟨gw,c,none⟩ (.bool true) = w1 at *
 have HW : Hid _ := hW
 clear hW
 go_enter Try.func89,Try.ntmps89
 go_wp2_with (first | (rw [HW.out]) | (at_builtin; refine qQ rfl _ _ rfl 0 _ qu.length qu rfl hO w1.heap.size c rfl hcl (by omega) (Nat.zero_le _) ?_))
 intro g5 c5 w5 hown hgr hloc
 obtain ⟨hb5,hp,hf⟩ := H1.out.addQ hown hgr (hloc.imp id (fun e => by simpa using e))
 have k4 : w5.cell? ⟨D.b,4,none⟩ = some (.slice qa qu.length qc) := q6 hb5 4
 have z4 : w5.frozen? ⟨D.b,4,none⟩ = false := frozen_of_row w5 _ 4 _ _ hb5
 have HE : Hid _ := (⟨_,_,_,_,hp,HF1.out.trans hf⟩ : PgR D w _ _ _ _ _ _ _ _)
 clear hown hgr hloc hb5 hp hf H1 HF1 hO hcl
 go_wp2
 go_end0
 exact ⟨rfl,HE.out⟩
variable {D : PgD} {w : World} {vi vw vq : Value} {vs : List Value} {of : List Nat} {ins : List (List Nat)} {ws : List Bool} {qu : List Nat}
theorem PgW.notF (h : PgW D w vi vw vq vs of ins ws qu) {g : Nat} {cu : Array Value} (h1 : w.heap[g]? = some (.cells cu 3 (0,0))) (h2 : g ≠ D.go) (h3 : vq.ownBlock ≠ some g) : ¬ PgF D vi vw vq g := fun hk => by
 rcases hk with e | e | e | e | e
 ·rw [e,h.blk] at h1
  injection h1 with h1
  unfold pgO at h1
  injection h1 with _ h1 _
  exact absurd h1 (by decide)
 ·exact h2 e
 ·obtain ⟨_,hc⟩ := qw h.fi e
  rw [h1] at hc
  injection hc with hc
  injection hc with _ hc _
  exact absurd hc (by decide)
 ·obtain ⟨_,hc⟩ := qw h.fw e
  rw [h1] at hc
  injection hc with hc
  injection hc with _ hc _
  exact absurd hc (by decide)
 ·exact h3 e
theorem LsB.fr (h : PgW D w vi vw vq vs of ins ws qu) {a : Option Addr} {l : List Nat} (hl : LsB w D.go vq a l) {w' : World} {vi' vw' vq' : Value} (hf : Fr w w' (PgF D vi vw vq) (PgF D vi' vw' vq')) : LsB w' D.go vq' a l := fun hp => by
 obtain ⟨g,cu,h1,h2,h3,h4,h5⟩ := hl hp
 have hn := h.notF h2 h3 h4
 have hlt := (Array.getElem?_eq_some_iff.1 h2).1
 have hn' := hf.out hn hlt
 exact ⟨g,cu,h1,(hf.keep g hlt hn).trans h2,fun e => hn' (.inr (.inl e)),fun e => hn' (.inr (.inr (.inr (.inr e)))),h5⟩
theorem q2n {base n cap go : Nat} {a : Option Addr} {l : List Nat} (h : w.ownsRow base 3 1 (.slice a n cap) n (izV l)) (hgo : go < base) (hq : ∀ k,vq.ownBlock = some k → k < base) : LsB w go vq a l := fun hp => by
 have hn : n = l.length := by have := h.1; rw [q1E] at this; omega
 rcases h.2 with ⟨_,h0⟩ | ⟨g,cap',cur,e,hg,hcell,hnc,hcm,hsz,htk⟩
 ·omega
 ·injection e with e _ _
  refine ⟨g,cur,e,hcell,by omega,fun e => by have := hq g e; omega,fun i hi => ?_⟩
  have h1 : (cur.toList.take (n * 1))[i]? = (izV l)[i]? := by rw [htk]
  rw [List.getElem?_take,if_pos (by omega),izV,List.getElem?_map,List.getElem?_map,List.getElem?_eq_getElem (l := l) hi] at h1
  rw [List.getD_eq_getElem?_getD,List.getElem?_eq_getElem hi]
  simpa using h1
theorem PgW.ql (h : PgW D w vi vw vq vs of ins ws qu) : ∀ k,vq.ownBlock = some k → k < w.heap.size := fun k hk => h.lt k (.inr (.inr (.inr (.inr hk))))
theorem PgW.setIn (h : PgW D w vi vw vq vs of ins ws qu) {c : Nat} (hc : c < ins.length) {a : Option Addr} (cap : Nat) {l : List Nat} (hL : LsB w D.go vq a l) : ∃ g ci x,vi = .slice (some ⟨g,0,none⟩) ins.length ci ∧ w.cell? ⟨g,c,none⟩ = some x ∧ w.frozen? ⟨g,c,none⟩ = false ∧ PgW D (w.setCell ⟨g,c,none⟩ (.slice a l.length cap)) vi vw vq (vs.set c (.slice a l.length cap)) of (ins.set c l) ws qu ∧ Fr w (w.setCell ⟨g,c,none⟩ (.slice a l.length cap)) (PgF D vi vw vq) (PgF D vi vw vq) := by
 obtain ⟨g,ci,rfl,_,_,hcv,hfv,hown⟩ := q2w h.fi hc (.slice a l.length cap)
 obtain ⟨n1,n2,n3,n4,n5,n6⟩ := h.nb
 obtain ⟨cs,hgt⟩ : ∃ cs,w.heap[g]? = some (.cells cs 23 (0,0)) := qw h.fi rfl
 have hvl : vs.length = ins.length := by have := h.fi.1; omega
 have ne : ∀ k,k ≠ g → (w.setCell ⟨g,c,none⟩ (.slice a l.length cap)).heap[k]? = w.heap[k]? := fun k hk => Below.heap_setCell _ _ _ _ (by dsimp only; exact hk)
 have nei : ∀ {g' : Nat} {cu : Array Value},w.heap[g']? = some (.cells cu 3 (0,0)) → g' ≠ g := fun {g' cu} h4 e => by
  rw [e,hgt] at h4
  injection h4 with h4
  injection h4 with _ h4 _
  exact absurd h4 (by decide)
 have hfr : Fr w (w.setCell ⟨g,c,none⟩ (.slice a l.length cap)) (PgF D (.slice (some ⟨g,0,none⟩) ins.length ci) vw vq) (PgF D (.slice (some ⟨g,0,none⟩) ins.length ci) vw vq) := ⟨rfl,rfl,rfl,by simp,fun k hk hn => ne k (fun e => hn (.inr (.inr (.inl (by rw [e]; rfl))))),fun k hk => .inl hk⟩
 refine ⟨g,ci,_,rfl,hcv.trans (List.getElem?_eq_getElem (by omega)),hfv,⟨h.bel.trans (hfr.below h.ge h.bel.size),h.ge,(ne _ (fun e => n5 (by rw [e]; rfl))).trans h.fo,h.ol,h.bk.fr hfr h.noW,(ne _ (fun e => n2 (by rw [e]; rfl))).trans h.blk,?_,qb h.fw (fun k hk => ne k (fun e => qE h.fw h.fi (by decide) hk (by rw [e]; rfl))),qb h.fq (fun k hk => ne k (fun e => qE h.fq h.fi (by decide) hk (by rw [e]; rfl))),h.qo,fun d hd => ?_⟩,hfr⟩
 ·rw [List.length_set]; exact hown
 ·rw [List.length_set] at hd
  have up : ∀ {a' : Option Addr} {l' : List Nat},LsB w D.go vq a' l' → LsB (w.setCell ⟨g,c,none⟩ (.slice a l.length cap)) D.go vq a' l' := fun {a' l'} hl hp => by
   obtain ⟨g',cu,h3,h4,h5⟩ := hl hp
   exact ⟨g',cu,h3,(ne g' (nei h4)).trans h4,h5⟩
  by_cases e : d = c
  ·subst e
   refine ⟨a,cap,?_,?_⟩
   ·rw [List.getElem?_set,if_pos rfl,if_pos (by omega),qs _ _ _ _ _ hc,if_pos rfl]
   ·rw [qs _ _ _ _ _ hc,if_pos rfl]; exact up hL
  ·obtain ⟨a',cap',h1,h2⟩ := h.ls d hd
   refine ⟨a',cap',?_,?_⟩
   ·rw [List.getElem?_set,if_neg (fun e' => e e'.symm),qs _ _ _ _ _ hc,if_neg e]; exact h1
   ·rw [qs _ _ _ _ _ hc,if_neg e]; exact up h2
theorem PgW.addIn (h : PgW D w vi vw vq vs of ins ws qu) {o : Obj} {w5 : World} {g c : Nat} {a : Option Addr} {cap : Nat} {l : List Nat} (hL : LsB w D.go vq a l) (ho : w5.ownsRow 0 23 1 (.slice (some ⟨g,0,none⟩) (ins.length + 1) c) (ins.length + 1) (vs ++ [.slice a l.length cap])) (hg : (w.alloc o).grownBy w5 vi.ownBlock) (hl : vi.ownBlock = some g ∨ g = (w.alloc o).heap.size) :
  w5.heap[D.b]? = some (pgO D vi vw vq) ∧ PgW D (w5.setCell ⟨D.b,2,none⟩ (.slice (some ⟨g,0,none⟩) (ins.length + 1) c)) (.slice (some ⟨g,0,none⟩) (ins.length + 1) c) vw vq (vs ++ [.slice a l.length cap]) of (ins ++ [l]) ws qu ∧ Fr w (w5.setCell ⟨D.b,2,none⟩ (.slice (some ⟨g,0,none⟩) (ins.length + 1) c)) (PgF D vi vw vq) (PgF D (.slice (some ⟨g,0,none⟩) (ins.length + 1) c) vw vq) := by
 obtain ⟨n1,n2,n3,n4,n5,n6⟩ := h.nb
 have hz : (w.alloc o).heap.size = w.heap.size + 1 := by simp
 have hs5 := hg.size
 have hlt := h.lt
 have hvl : vs.length = ins.length := by have := h.fi.1; omega
 have gb : g ≠ D.b := fun e => by
  rcases hl with hl | hl
  ·exact n2 (e ▸ hl)
  ·have := hlt D.b (.inl rfl); omega
 have ne : ∀ k,k < w.heap.size → k ≠ D.b → vi.ownBlock ≠ some k → (w5.setCell ⟨D.b,2,none⟩ (.slice (some ⟨g,0,none⟩) (ins.length + 1) c)).heap[k]? = w.heap[k]? := fun k hk hb hq => (Below.heap_setCell _ _ _ _ (by dsimp only; exact hb)).trans (qv hg hk hq)
 have hb5 := (qv hg (hlt D.b (.inl rfl)) n2).trans h.blk
 have hfr : Fr w (w5.setCell ⟨D.b,2,none⟩ (.slice (some ⟨g,0,none⟩) (ins.length + 1) c)) (PgF D vi vw vq) (PgF D (.slice (some ⟨g,0,none⟩) (ins.length + 1) c) vw vq) := by
  refine ⟨hg.os,hg.tape,hg.output,by simp; omega,fun k hk hn => ne k hk (fun e => hn (.inl e)) (fun e => hn (.inr (.inr (.inl e)))),fun k hk => ?_⟩
  rcases hk with hk | hk | hk | hk | hk
  ·exact .inl (.inl hk)
  ·exact .inl (.inr (.inl hk))
  ·have e : g = k := by injection hk
   subst e
   rcases hl with hl | hl
   ·exact .inl (.inr (.inr (.inl hl)))
   ·right; omega
  ·exact .inl (.inr (.inr (.inr (.inl hk))))
  ·exact .inl (.inr (.inr (.inr (.inr hk))))
 have up : ∀ {a' : Option Addr} {l' : List Nat},LsB w D.go vq a' l' → LsB (w5.setCell ⟨D.b,2,none⟩ (.slice (some ⟨g,0,none⟩) (ins.length + 1) c)) D.go vq a' l' := fun {a' l'} hl' => LsB.fr (vi' := .slice (some ⟨g,0,none⟩) (ins.length + 1) c) (vw' := vw) h hl' hfr
 refine ⟨hb5,⟨h.bel.trans (hfr.below h.ge h.bel.size),hfr.ge h.ge h.bel.size,(ne _ (hlt _ (.inr (.inl rfl))) n1 n5).trans h.fo,h.ol,h.bk.fr hfr h.noW,?_,?_,qb h.fw (fun k hk => ne k (h.fw.lt k hk).2 (fun e => n3 (e ▸ hk)) (qE h.fw h.fi (by decide) hk)),qb h.fq (fun k hk => ne k (h.fq.lt k hk).2 (fun e => n4 (e ▸ hk)) (qE h.fq h.fi (by decide) hk)),h.qo,fun d hd => ?_⟩,hfr⟩
 ·unfold pgO at hb5 ⊢
  rw [heap_setCell_same w5 D.b 2 _ _ _ hb5]; rfl
 ·rw [List.length_append,List.length_singleton]
  exact qb ho fun k hk => Below.heap_setCell _ _ _ _ (by dsimp only; intro e; injection hk with hk; exact gb (hk.trans e))
 ·rw [List.length_append,List.length_singleton] at hd
  rw [q1d]
  by_cases e : d = ins.length
  ·rw [if_pos e]
   refine ⟨a,cap,?_,up hL⟩
   rw [e,List.getElem?_append_right (by omega),hvl]; simp
  ·rw [if_neg e]
   obtain ⟨a',cap',h1,h2⟩ := h.ls d (by omega)
   exact ⟨a',cap',by rw [List.getElem?_append_left (by omega)]; exact h1,up h2⟩
theorem PgW.addW (h : PgW D w vi vw vq vs of ins ws qu) {o : Obj} {w5 : World} {g c : Nat} {y : Bool} (ho : w5.ownsRow 0 4 1 (.slice (some ⟨g,0,none⟩) (ws.length + 1) c) (ws.length + 1) ((ws ++ [y]).map Value.bool)) (hg : (w.alloc o).grownBy w5 vw.ownBlock) (hl : vw.ownBlock = some g ∨ g = (w.alloc o).heap.size) :
  w5.heap[D.b]? = some (pgO D vi vw vq) ∧ PgW D (w5.setCell ⟨D.b,3,none⟩ (.slice (some ⟨g,0,none⟩) (ws.length + 1) c)) vi (.slice (some ⟨g,0,none⟩) (ws.length + 1) c) vq vs of ins (ws ++ [y]) qu ∧ Fr w (w5.setCell ⟨D.b,3,none⟩ (.slice (some ⟨g,0,none⟩) (ws.length + 1) c)) (PgF D vi vw vq) (PgF D vi (.slice (some ⟨g,0,none⟩) (ws.length + 1) c) vq) := by
 obtain ⟨n1,n2,n3,n4,n5,n6⟩ := h.nb
 have hz : (w.alloc o).heap.size = w.heap.size + 1 := by simp
 have hs5 := hg.size
 have hlt := h.lt
 have gb : g ≠ D.b := fun e => by
  rcases hl with hl | hl
  ·exact n3 (e ▸ hl)
  ·have := hlt D.b (.inl rfl); omega
 have ne : ∀ k,k < w.heap.size → k ≠ D.b → vw.ownBlock ≠ some k → (w5.setCell ⟨D.b,3,none⟩ (.slice (some ⟨g,0,none⟩) (ws.length + 1) c)).heap[k]? = w.heap[k]? := fun k hk hb hq => (Below.heap_setCell _ _ _ _ (by dsimp only; exact hb)).trans (qv hg hk hq)
 have hb5 := (qv hg (hlt D.b (.inl rfl)) n3).trans h.blk
 have hfr : Fr w (w5.setCell ⟨D.b,3,none⟩ (.slice (some ⟨g,0,none⟩) (ws.length + 1) c)) (PgF D vi vw vq) (PgF D vi (.slice (some ⟨g,0,none⟩) (ws.length + 1) c) vq) := by
  refine ⟨hg.os,hg.tape,hg.output,by simp; omega,fun k hk hn => ne k hk (fun e => hn (.inl e)) (fun e => hn (.inr (.inr (.inr (.inl e))))),fun k hk => ?_⟩
  rcases hk with hk | hk | hk | hk | hk
  ·exact .inl (.inl hk)
  ·exact .inl (.inr (.inl hk))
  ·exact .inl (.inr (.inr (.inl hk)))
  ·have e : g = k := by injection hk
   subst e
   rcases hl with hl | hl
   ·exact .inl (.inr (.inr (.inr (.inl hl))))
   ·right; omega
  ·exact .inl (.inr (.inr (.inr (.inr hk))))
 refine ⟨hb5,⟨h.bel.trans (hfr.below h.ge h.bel.size),hfr.ge h.ge h.bel.size,(ne _ (hlt _ (.inr (.inl rfl))) n1 n6).trans h.fo,h.ol,h.bk.fr hfr h.noW,?_,qb h.fi (fun k hk => ne k (h.fi.lt k hk).2 (fun e => n2 (e ▸ hk)) (qE h.fi h.fw (by decide) hk)),?_,qb h.fq (fun k hk => ne k (h.fq.lt k hk).2 (fun e => n4 (e ▸ hk)) (qE h.fq h.fw (by decide) hk)),h.qo,fun d hd => ?_⟩,hfr⟩
 ·unfold pgO at hb5 ⊢
  rw [heap_setCell_same w5 D.b 3 _ _ _ hb5]; rfl
 ·rw [List.length_append,List.length_singleton]
  exact qb ho fun k hk => Below.heap_setCell _ _ _ _ (by dsimp only; intro e; injection hk with hk; exact gb (hk.trans e))
 ·obtain ⟨a',cap',h1,h2⟩ := h.ls d hd
  exact ⟨a',cap',h1,LsB.fr (vi' := vi) (vw' := .slice (some ⟨g,0,none⟩) (ws.length + 1) c) h h2 hfr⟩
end Go.Proofs.Ytcnkgokfjafgkaa
