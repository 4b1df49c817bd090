/- Texts of the proof, put together: what it uses. -/
import Derived.BigRegion
import Derived.Deep.RegionLawGrows
import Derived.Test.YtehddcdgpamaaaaY02
import Derived.Test.YtehddcdgpamaaaaY05
import Derived.Test.YtehddcdgpamaaaaY06
import Derived.Test.YtehddcdgpamaaaaY07
import Derived.Test.YtehddcdgpamaaaaY08
import Derived.Test.YtehddcdgpamaaaaY10
import Derived.Test.YtehddcdgpamaaaaY11
set_option maxRecDepth 100000
set_option maxHeartbeats 16000000
namespace Go.Proofs.Ytehddcdgpamaaaa
open Go.RowKit Go.Maps Go.Sort
theorem q5Z {w : World} {base e n i : Nat} {v : Value} {xs : List Value} (h : w.ownsRow base e 1 v n xs) (hi : i < n) (y : Value) : ∃ g cap,v = .slice (some ⟨g,0,none⟩) n cap ∧ base ≤ g ∧ n ≤ cap ∧ w.cell? ⟨g,i,none⟩ = xs[i]? ∧ w.frozen? ⟨g,i,none⟩ = false ∧ (w.setCell ⟨g,i,none⟩ y).ownsRow base e 1 v n (xs.set i y) := by
 obtain ⟨hl,h⟩ := h
 rcases h with ⟨rfl,h0⟩ | ⟨g,cap,cur,rfl,hg,hcell,hnc,hcm,hsz,htk⟩
 ·omega
 ·have hcu : cur.toList.length = cap := by simpa using hsz
  refine ⟨g,cap,rfl,hg,hnc,?_,frozen_of_row w g i _ _ hcell,by simpa using hl,Or.inr ⟨g,cap,cur.setIfInBounds i y,rfl,hg,heap_setCell_same w g i _ _ y hcell,hnc,hcm,by simpa using hsz,?_⟩⟩
  ·rw [q7 hcell i,← htk,List.getElem?_take,if_pos (by omega)]
   simp
  ·rw [← htk]
   simp [List.take_set]
structure NuB (w : World) (g : Nat) (cur : List Int) : Prop where
 row : RowI w 82 g cur
 len : cur.length = 256
theorem NuB.up {w w' : World} {g : Nat} {cur : List Int} (h : NuB w g cur) (hb : Below w.heap.size w w') : NuB w' g cur := ⟨h.row.up hb,h.len⟩
theorem NuB.lt {w : World} {g : Nat} {cur : List Int} (h : NuB w g cur) : g < w.heap.size := h.row.lt
theorem NuB.set {w : World} {g : Nat} {cur : List Int} (h : NuB w g cur) (i : Nat) (x : Int) : NuB (w.setCell ⟨g,i,none⟩ (.int .i64 x)) g (cur.set i x) := ⟨h.row.set i x,by rw [List.length_set]; exact h.len⟩
theorem q1b (g n i : Nat) (hi : i < n) (w : World) : (Instr.indexAt 23 (.slice (some ⟨g,0,none⟩) n 256) (.int .i64 (i : Int))).run Try.prog w = .ok (.pointer (some ⟨g,i,none⟩)) w := by
 have := qt (P := Try.prog) (T := 23) Try.underlying23 qb (a := some ⟨g,0,none⟩) (cap := 256) (n := n) (fun e => by cases e) i w hi
 simpa [adOf,q9] using this
def sprC (C : List Nat) (c : Nat) (m : Int) (k : Nat) (cur : List Int) : List Int := (List.range cur.length).map fun i => if i < k ∧ C.getD i 0 = c then m else cur.getD i 0
theorem qk (C : List Nat) (c : Nat) (m : Int) (k : Nat) (cur : List Int) : (sprC C c m k cur).length = cur.length := by simp [sprC]
theorem qY (C : List Nat) (c : Nat) (m : Int) (k : Nat) (cur : List Int) {i : Nat} (h : i < cur.length) : (sprC C c m k cur).getD i 0 = if i < k ∧ C.getD i 0 = c then m else cur.getD i 0 := by
 rw [q8 (by rw [qk]; exact h)]; simp [sprC]
theorem q5z (C : List Nat) (c : Nat) (m : Int) (cur : List Int) : sprC C c m 0 cur = cur := by
 apply List.ext_getElem (by rw [qk])
 intro i h1 h2
 rw [← q8 h1 0,← q8 h2 0,qY _ _ _ _ _ h2,if_neg (by omega)]
theorem q6c {C : List Nat} {c : Nat} {m : Int} {k : Nat} {cur : List Int} (h : C.getD k 0 = c) : (sprC C c m k cur).set k m = sprC C c m (k + 1) cur := by
 apply List.ext_getElem (by rw [List.length_set,qk,qk])
 intro i h1 h2
 have hi : i < cur.length := by rw [qk] at h2; exact h2
 rw [← q8 h2 0,qY _ _ _ _ _ hi,List.getElem_set]
 by_cases e : k = i
 ·subst e; rw [if_pos rfl,if_pos ⟨by omega,h⟩]
 ·rw [if_neg e,← q8 (by rw [qk]; exact hi) 0,qY _ _ _ _ _ hi]
  by_cases h3 : i < k ∧ C.getD i 0 = c
  ·rw [if_pos h3,if_pos ⟨by omega,h3.2⟩]
  ·rw [if_neg h3,if_neg (fun h4 => h3 ⟨by omega,h4.2⟩)]
theorem q5y {C : List Nat} {c : Nat} {m : Int} {k : Nat} {cur : List Int} (h : C.getD k 0 ≠ c) : sprC C c m k cur = sprC C c m (k + 1) cur := by
 apply List.ext_getElem (by rw [qk,qk])
 intro i h1 h2
 have hi : i < cur.length := by rw [qk] at h2; exact h2
 rw [← q8 h1 0,← q8 h2 0,qY _ _ _ _ _ hi,qY _ _ _ _ _ hi]
 by_cases h3 : i < k ∧ C.getD i 0 = c
 ·rw [if_pos h3,if_pos ⟨by omega,h3.2⟩]
 ·rw [if_neg h3,if_neg (fun h4 => by
   by_cases e : i = k
   ·subst e; exact h h4.2
   ·exact h3 ⟨by omega,h4.2⟩)]
abbrev OnG (g : Nat) (w w' : World) : Prop := Fr w w' (fun k => k = g) (fun k => k = g)
theorem qX {g : Nat} {w w' : World} (h : OnG g w w') (i : Nat) (v : Value) : OnG g w (w'.setCell ⟨g,i,none⟩ v) :=
 ⟨h.os,h.tape,h.output,by simpa using h.size,fun k hk hf => (Below.heap_setCell _ _ _ _ (fun e => hf (by simpa using e))).trans (h.keep k hk hf),h.foot⟩
theorem q2h (g : Nat) (w : World) : OnG g w w := Fr.ofBelow (Below.refl _ _)
theorem q2Y (g n : Nat) (aO : Option Addr) (cO : Nat) (C : List Nat) (c m : Nat) (cur : List Int) (w : World) (hN : NuB w g cur) (hO : ZSl w aO n cO (C.map Int.ofNat)) (hne : ∀ k,k < n → (adOf aO k).block ≠ g) (hn : n ≤ 256) :
  Calls Try.prog 80 #[.slice (some ⟨g,0,none⟩) n 256,.slice aO n cO,.int .i64 (c : Int),.int .i64 (m : Int)] w fun e w' => e = .returned (.tuple #[]) ∧ NuB w' g (sprC C c m n cur) ∧ OnG g w w' := by
 obtain ⟨Q,hQ⟩ : ∃ Q : Ending → World → Prop,Q = fun e w' => e = .returned (.tuple #[]) ∧ NuB w' g (sprC C c m n cur) ∧ OnG g w w' := ⟨_,rfl⟩
 have HQ : Hid (∀ w',NuB w' g (sprC C c m n cur) → OnG g w w' → Q (.returned (.tuple #[])) w') := fun w' h1 h2 => by rw [hQ]; exact ⟨rfl,h1,h2⟩
 rw [← hQ]
 have HO : Hid _ := hO
 have HNE : Hid _ := hne
 have HCL : Hid (C.length = n) := by have := hO.hlen; rwa [List.length_map] at this
 have HN0 : Hid (NuB w g (sprC C c m 0 cur)) := by rw [q5z]; exact hN
 have hcl := hN.len
 clear hO hne hQ hN
 go_enter Try.func80,Try.ntmps80
 go_wp2
 go_loopw [11] (fun i wr => ∃ k : Nat,k ≤ n ∧ i = .int .i64 (k : Int) ∧ Hid (NuB wr g (sprC C c m k cur)) ∧ Hid (OnG g w wr)) (fun i _ => n - (intOf i).toNat)
 case atStart => exact ⟨0,Nat.zero_le _,rfl,HN0,q2h _ _⟩
 case round =>
  obtain ⟨k,hk,rfl,HN,HW⟩ := hrel
  clear HN0
  by_cases hlt : k < n
  ·have hi1 := fun w' => HO.out.idx n k w' hlt (Nat.le_refl _)
   have hc1 := (HW.out.intSl HO.out HNE.out).cell k hlt
   rw [qz (by rw [HCL.out]; exact hlt)] at hc1
   have hi2 := fun w' => q1b g n k hlt w'
   have hk2 : k < (sprC C c m k cur).length := by rw [qk]; omega
   have hc2 := HN.out.row.cell hk2
   have hf2 := HN.out.row.frozen k
   generalize adOf aO k = ad at *
   obtain ⟨ag,ao,az⟩ := ad
   by_cases hh : C.getD k 0 = c
   ·have HN2 : Hid (NuB (wr.setCell ⟨g,k,none⟩ (.int .i64 (m : Int))) g (sprC C c m (k + 1) cur)) := by rw [← q6c hh]; exact HN.out.set k m
    have HW2 : Hid _ := qX HW.out k (.int .i64 (m : Int))
    rw [hh] at hc1
    have dd : ((c : Int) == (c : Int)) = true := by simp
    clear HN HW hh hk2
    generalize (sprC C c m k cur).getD k 0 = z at *
    go_wp2
    go_roundw
    case rel => exact ⟨k + 1,by omega,by go_num,HN2,HW2⟩
    case measure => simp [intOf]; omega
   ·have HN2 : Hid (NuB wr g (sprC C c m (k + 1) cur)) := by rw [← q5y hh]; exact HN.out
    generalize C.getD k 0 = y at *
    have dd : ((y : Int) == (c : Int)) = false := by simp; omega
    clear HN hh hk2 hc2 hf2
    go_wp2
    go_roundw
    case rel => exact ⟨k + 1,by omega,by go_num,HN2,HW⟩
    case measure => simp [intOf]; omega
  ·obtain rfl : k = n := by omega
   have HE : Hid (Q (.returned (.tuple #[])) wr) := HQ.out wr HN.out HW.out
   clear HN HW HQ
   go_wp2
   go_end0
   exact HE.out
def rwN (R : List (List Nat)) (q : Nat) (cur : List Int) : List Int := (R.getD q []).map fun t => cur.getD t 0
def rwTo (row : List Nat) (cur : List Int) (k : Nat) : List Int := (row.take k).map (fun t => cur.getD t 0) ++ (row.drop k).map Int.ofNat
theorem q67 (row : List Nat) (cur : List Int) (k : Nat) : (rwTo row cur k).length = row.length := by
 rw [rwTo,List.length_append,List.length_map,List.length_map,List.length_take,List.length_drop]; omega
theorem q5v (row : List Nat) (cur : List Int) : rwTo row cur 0 = row.map Int.ofNat := by simp [rwTo]
theorem q66 (row : List Nat) (cur : List Int) : rwTo row cur row.length = row.map fun t => cur.getD t 0 := by simp [rwTo]
theorem q6B {row : List Nat} {cur : List Int} {k : Nat} (h : k < row.length) : (rwTo row cur k).getD k 0 = ((row.getD k 0 : Nat) : Int) := by
 have h1 : ((row.take k).map (fun t => cur.getD t 0)).length = k := by rw [List.length_map,List.length_take]; omega
 rw [rwTo,List.getD_eq_getElem?_getD,List.getElem?_append_right (by omega),h1,Nat.sub_self,List.getElem?_map,List.getElem?_drop,Nat.add_zero,List.getElem?_eq_getElem h,q8 h]
 rfl
theorem q5u {row : List Nat} {cur : List Int} {k : Nat} (h : k < row.length) : (rwTo row cur k).set k (cur.getD (row.getD k 0) 0) = rwTo row cur (k + 1) := by
 have h1 : ((row.take k).map (fun t => cur.getD t 0)).length = k := by rw [List.length_map,List.length_take]; omega
 rw [rwTo,rwTo,List.set_append_right _ _ (by omega),h1,Nat.sub_self,q1k h,List.map_append,List.append_assoc]
 congr 1
 rw [List.drop_eq_getElem_cons h]
 rfl
theorem q3O (p : Int) (aA : Option Addr) (nA cA : Nat) (aG : Option Addr) (nG cG : Nat) (aN : Option Addr) (nN cN : Nat) (N : List Gd) (gs : List Int) (q g : Nat) (cur : List Int) (w : World) (hM : MayG p nA N gs) (hN : NdSl w aN nN cN N) (hG : ZSl w aG nG cG gs) (hU : NuB w g cur) (hq : q < nA) :
  Calls Try.prog 61 #[.agg #[.int .i64 p,.slice aA nA cA,.slice aG nG cG,.slice aN nN cN],.int .i64 (q : Int),.slice (some ⟨g,0,none⟩) nA 256] w fun e w' => Below w.heap.size w w' ∧ ∃ a c,e = .returned (.slice a (2 ^ p.toNat) c) ∧ w'.ownsRow w.heap.size 3 1 (.slice a (2 ^ p.toNat) c) (2 ^ p.toNat) ((rwN (rwA p N gs) q cur).map (Value.int .i64)) := by
 obtain ⟨Q,hQ⟩ : ∃ Q : Ending → World → Prop,Q = fun e w' => Below w.heap.size w w' ∧ ∃ a c,e = .returned (.slice a (2 ^ p.toNat) c) ∧ w'.ownsRow w.heap.size 3 1 (.slice a (2 ^ p.toNat) c) (2 ^ p.toNat) ((rwN (rwA p N gs) q cur).map (Value.int .i64)) := ⟨_,rfl⟩
 have HQ : Hid (∀ a c w',Below w.heap.size w w' → w'.ownsRow w.heap.size 3 1 (.slice a (2 ^ p.toNat) c) (2 ^ p.toNat) ((rwN (rwA p N gs) q cur).map (Value.int .i64)) → Q (.returned (.slice a (2 ^ p.toNat) c)) w') := fun a c w' h1 h2 => by rw [hQ]; exact ⟨h1,a,c,rfl,h2⟩
 rw [← hQ]
 clear hQ
 have hb0 := q5 w (.cells #[.int .i64 p,.slice aA nA cA,.slice aG nG cG,.slice aN nN cN] 26 (0,0))
 have HB0 : Hid _ := hb0
 have HV0 : Hid _ := qd w p aA nA cA aG nG cG aN nN cN
 have hqR : q < nG := by have h1 := hG.hlen; have h2 := hM.len; omega
 have hixg := fun w' => hG.idx nG q w' hqR (Nat.le_refl _)
 have hcg := (hG.up hb0).cell q hqR
 have hi64 := q2e hM (q := q) (by have h2 := hM.len; omega)
 have hk256 := hM.k256
 have h256 := hM.s2
 have hRr := (hM.rows (2 ^ p.toNat)).row q hq
 have HRL : Hid (∀ k,k < 2 ^ p.toNat → ((rwA p N gs).getD q []).getD k 0 < nA) := fun k hk => (hM.rows (2 ^ p.toNat)).lt q k hq hk
 have htab := hM.tab (K := 2 ^ p.toNat) hq
 have jt := q1E p aN nN cN N (gs.getD q 0) (w.alloc (.cells #[.int .i64 p,.slice aA nA cA,.slice aG nG cG,.slice aN nN cN] 26 (0,0))).drew ((hN.up hb0).up ((Below.refl _ _).drew)) hi64
 have HT : Hid (∀ e w6,TabRO p N (gs.getD q 0) (w.alloc (.cells #[.int .i64 p,.slice aA nA cA,.slice aG nG cG,.slice aN nN cN] 26 (0,0))).drew e w6 → ∃ a c,e = .returned (.tuple #[.slice a (2 ^ p.toNat) c,.int .i64 0]) ∧ Below w.heap.size w w6 ∧ w6.ownsRow (w.heap.size + 1) 3 1 (.slice a (2 ^ p.toNat) c) (2 ^ p.toNat) ((((rwA p N gs).getD q []).map Int.ofNat).map (Value.int .i64))) := fun e w6 hq2 => by
  obtain ⟨hb,⟨h1,_⟩ | ⟨_,_,⟨h3,_⟩ | ⟨l,a,c,h3,rfl,h4⟩⟩⟩ := hq2
  ·exact absurd ⟨hM.p0,hM.p8⟩ h1
  ·rw [htab] at h3; cases h3
  ·rw [htab] at h3; injection h3 with h3; subst h3
   have hl : (((rwA p N gs).getD q []).map Int.ofNat).length = 2 ^ p.toNat := by rw [List.length_map]; exact hRr
   rw [hl] at h4 ⊢
   refine ⟨a,c,rfl,q6 hb0 (q6 ((Below.refl _ _).drew) hb),?_⟩
   simpa using h4
 have HE0 : Hid (rwN (rwA p N gs) q cur = ((rwA p N gs).getD q []).map fun t => cur.getD t 0) := rfl
 have HUU : Hid _ := hU
 have HRR : Hid _ := hRr
 clear hM hN hG hU hb0 hRr htab hi64
 generalize (rwA p N gs).getD q [] = row at *
 generalize rwN (rwA p N gs) q cur = res at *
 generalize 2 ^ p.toNat = K at *
 obtain ⟨c0,c1,c2,c3⟩ := HV0.out
 generalize gs.getD q 0 = rq at *
 generalize adOf aG q = ag at *
 obtain ⟨ag1,ag2,ag3⟩ := ag
 have dq1 : decide (nG ≤ q) = false := by simp; exact hqR
 go_enter Try.func61,Try.ntmps61
 go_upto_region 1 with fail
 go_cut [7] (fun v7 wx => ∃ (ya : Option Addr) (yc : Nat),v7 = .slice ya K yc ∧ Hid (Below w.heap.size w wx) ∧ Hid (wx.ownsRow (w.heap.size + 1) 3 1 (.slice ya K yc) K ((row.map Int.ofNat).map (Value.int .i64))))
 case first =>
  go_region_with (first
   | (go_at_call 72; (with_reducible refine jt.mono ?_); intro e w6 hq6; obtain ⟨ya,yc,rfl,hb6,ho6⟩ := HT.out e w6 hq6; have HB6 : Hid _ := hb6; have HO6 : Hid _ := ho6; clear hq6 hb6 ho6)
   | fail)
  all_goals
   go_wp2_with fail
   go_meet
   exact ⟨_,_,rfl,HB6,HO6⟩
 case rest =>
 obtain ⟨ya,yc,rfl,HB6,HO6⟩ := hcut
 generalize wc = w6 at *
 clear jt HT c0 c1 c2 c3 hcg hixg
 have HO0 : Hid (w6.ownsRow (w.heap.size + 1) 3 1 (.slice ya K yc) K ((rwTo row cur 0).map (Value.int .i64))) := by rw [q5v]; exact HO6.out
 clear HO6
 go_wp2
 go_loopw [26] (fun i wr => ∃ k : Nat,k ≤ K ∧ i = .int .i64 (k : Int) ∧ Hid (wr.ownsRow (w.heap.size + 1) 3 1 (.slice ya K yc) K ((rwTo row cur k).map (Value.int .i64))) ∧ Hid (Below (w.heap.size + 1) w6 wr)) (fun i _ => K - (intOf i).toNat)
 case atStart => exact ⟨0,Nat.zero_le _,rfl,HO0,Below.refl _ _⟩
 case round =>
  obtain ⟨k,hk,rfl,HO,HW⟩ := hrel
  clear HO0
  by_cases hlt : k < K
  ·have hkr : k < row.length := by rw [HRR.out]; exact hlt
   obtain ⟨gw,cw,ev,hgw,hnc,hcv,hfv,hown⟩ := q5Z HO.out hlt (.int .i64 (cur.getD (row.getD k 0) 0))
   injection ev with ev1 _ ev3
   subst ev1 ev3
   have hcv2 : wr.cell? ⟨gw,k,none⟩ = some (.int .i64 ((row.getD k 0 : Nat) : Int)) := by
    have h2 : k < (rwTo row cur k).length := by rw [q67]; exact hkr
    rw [hcv,List.getElem?_map,List.getElem?_eq_getElem h2,← q8 h2 0,q6B hkr]; rfl
   have HO2 : Hid ((wr.setCell ⟨gw,k,none⟩ (.int .i64 (cur.getD (row.getD k 0) 0))).ownsRow (w.heap.size + 1) 3 1 (.slice (some ⟨gw,0,none⟩) K yc) K ((rwTo row cur (k + 1)).map (Value.int .i64))) := by
    rw [← q5u hkr,List.map_set]; exact hown
   have HW2 : Hid (Below (w.heap.size + 1) w6 (wr.setCell ⟨gw,k,none⟩ (.int .i64 (cur.getD (row.getD k 0) 0)))) := HW.out.setCell hgw _
   have hix : ∀ w',(Instr.indexAt 23 (.slice (some ⟨gw,0,none⟩) K yc) (.int .i64 (k : Int))).run Try.prog w' = .ok (.pointer (some ⟨gw,k,none⟩)) w' := fun w' => by
    have := qt (P := Try.prog) (T := 23) Try.underlying23 qb (a := some ⟨gw,0,none⟩) (cap := yc) (n := K) (fun e => by cases e) k w' hlt
    simpa [adOf,q9] using this
   have htn := HRL.out k hlt
   have hi2 := fun w' => q1b g nA (row.getD k 0) htn w'
   have hgl := HUU.out.lt
   have hnu : NuB wr g cur := ⟨(HW.out.block g (by omega)).trans ((HB6.out.block g hgl).trans HUU.out.row),HUU.out.len⟩
   have hc2 := hnu.row.cell (i := row.getD k 0) (by rw [hnu.len]; omega)
   clear hcv hown HO hnu hkr
   generalize row.getD k 0 = t at *
   generalize cur.getD t 0 = z at *
   have dt0 : decide ((t : Int) < 0) = false := by simp
   have dt1 : decide (nA ≤ t) = false := by simp; exact htn
   go_wp2
   go_roundw
   case rel => exact ⟨k + 1,by omega,by go_num,HO2,HW2⟩
   case measure => simp [intOf]; omega
  ·obtain rfl : k = K := by omega
   have HE : Hid _ := HQ.out ya yc wr (HB6.out.trans (HW.out.mono (by omega))) (by
    have := HO.out
    rw [show k = row.length from HRR.out.symm,q66,← HE0.out,HRR.out] at this
    exact qu this (by omega))
   clear HO HW HQ
   go_wp2
   exact HE.out
def nuC (c : Nat → Nat) (n : Nat) (F : List Nat) : List Int := (List.range 256).map fun i => if i < n then (if c i ∈ F.map c then ((nmP c F i : Nat) : Int) else -1) else 0
theorem qN (c : Nat → Nat) (n : Nat) (F : List Nat) : (nuC c n F).length = 256 := by rw [nuC,List.length_map,List.length_range]
theorem q2B (c : Nat → Nat) (n : Nat) (F : List Nat) {i : Nat} (h : i < 256) : (nuC c n F).getD i 0 = if i < n then (if c i ∈ F.map c then ((nmP c F i : Nat) : Int) else -1) else 0 := by
 rw [q8 (by rw [qN]; exact h)]; simp [nuC]
def noC (k : Nat) : List Int := (List.range 256).map fun i => if i < k then -1 else 0
theorem qx (k : Nat) : (noC k).length = 256 := by rw [noC,List.length_map,List.length_range]
theorem q4d (k : Nat) {i : Nat} (h : i < 256) : (noC k).getD i 0 = if i < k then -1 else 0 := by
 rw [q8 (by rw [qx]; exact h)]; simp [noC]
theorem q5T : noC 0 = List.replicate 256 0 := by
 apply List.ext_getElem (by rw [qx,List.length_replicate])
 intro i h1 h2
 rw [qx] at h1
 rw [← q8 (by rw [qx]; exact h1) 0,q4d 0 h1,List.getElem_replicate,if_neg (by omega)]
theorem q5S {k : Nat} : (noC k).set k (-1) = noC (k + 1) := by
 apply List.ext_getElem (by rw [List.length_set,qx,qx])
 intro i h1 h2
 have h3 := h2
 rw [qx] at h3
 rw [← q8 h2 0,q4d _ h3,List.getElem_set]
 replace h2 := h3
 by_cases e : k = i
 ·subst e; rw [if_pos rfl,if_pos (by omega)]
 ·rw [if_neg e,← q8 (by rw [qx]; exact h2) 0,q4d _ h2]
  by_cases h3 : i < k
  ·rw [if_pos h3,if_pos (by omega)]
  ·rw [if_neg h3,if_neg (by omega)]
theorem q6s (c : Nat → Nat) (n : Nat) : noC n = nuC c n [] := by simp [noC,nuC]
theorem q6F {C : List Nat} {c : Nat → Nat} {n q : Nat} {F : List Nat} (hc : c = fun s => C.getD s 0) (hq : c q ∉ F.map c) : sprC C (C.getD q 0) ((F.length : Nat) : Int) n (nuC c n F) = nuC c n (F ++ [q]) := by
 apply List.ext_getElem (by rw [qk,qN,qN])
 intro i h1 h2
 rw [qN] at h2
 have hl : i < (nuC c n F).length := by rw [qN]; exact h2
 rw [← q8 h1 0,← q8 (by rw [qN]; exact h2) 0,qY _ _ _ _ _ hl,q2B _ _ _ h2,q2B _ _ _ h2]
 have ei : C.getD i 0 = c i := by rw [hc]
 have eq : C.getD q 0 = c q := by rw [hc]
 rw [ei,eq]
 by_cases hn : i < n
 ·rw [if_pos hn,if_pos hn]
  have hmem : c i ∈ (F ++ [q]).map c ↔ c i ∈ F.map c ∨ c i = c q := by simp
  by_cases e : c i = c q
  ·have hni : c i ∉ F.map c := by rw [e]; exact hq
   rw [if_pos ⟨hn,e⟩,if_pos (hmem.2 (.inr e)),nmP,List.map_append,List.idxOf_append,if_neg hni]
   simp [e]
  ·rw [if_neg (fun h => e h.2)]
   by_cases hm : c i ∈ F.map c
   ·rw [if_pos hm,if_pos (hmem.2 (.inl hm)),q4I (List.prefix_append F [q]) hm]
   ·rw [if_neg hm,if_neg (fun h => (hmem.1 h).elim hm e)]
 ·rw [if_neg hn,if_neg hn,if_neg (fun h => hn h.1)]
theorem q3o {g : Nat} {w0 w w' : World} (h : OnG g w w') (hg : w0.heap.size ≤ g) (hb : Below w0.heap.size w0 w) : Below w0.heap.size w0 w' :=
 hb.trans (h.below (fun k hk => by omega) hb.size)
theorem q5o {g : Nat} {w w1 w' : World} (h : OnG g w w1) (hb : Below w1.heap.size w1 w') : OnG g w w' := h.trans (Fr.ofBelow hb)
theorem q5U {g : Nat} {w w5 w7 : World} {ob : Option Nat} (h : OnG g w w5) (o : Obj) (hg : (w5.alloc o).grownBy w7 ob) (hob : ∀ k,ob = some k → w.heap.size ≤ k) : OnG g w w7 := by
 have hb := q5 w5 o
 refine ⟨hg.os.trans (hb.os.trans h.os),hg.tape.trans (hb.tape.trans h.tape),hg.output.trans (hb.output.trans h.output),Nat.le_trans h.size (Nat.le_trans hb.size hg.size),fun k hk hf => ?_,h.foot⟩
 have h5 : k < w5.heap.size := Nat.lt_of_lt_of_le hk h.size
 rw [hg.block k (Nat.lt_of_lt_of_le h5 hb.size) (fun e => by have := hob k e.symm; omega),hb.block k h5]
 exact h.keep k hk hf
theorem RowI.grown {w w' : World} {e b : Nat} {cur : List Int} {ob : Option Nat} (h : RowI w e b cur) (hg : w.grownBy w' ob) (hne : ob ≠ some b) : RowI w' e b cur := (hg.block b h.lt (fun e => hne e.symm)).trans h
structure RnM (w : World) (g gO : Nat) (C : List Nat) (aM : Option Addr) (cM : Nat) (Q : List Nat) (base : Nat) (c : Nat → Nat) (n : Nat) (F : List Nat) (v : Value) (wr : World) : Prop where
 on : OnG g w wr
 num : NuB wr g (nuC c n F)
 of : RowI wr 3 gO (C.map Int.ofNat)
 met : ZSl wr aM Q.length cM (Q.map Int.ofNat)
 fst : wr.ownsRow base 3 1 v F.length ((F.map Int.ofNat).map (Value.int .i64))
 bs : base ≤ wr.heap.size
structure RnK (w : World) (g gO : Nat) (aM : Option Addr) (L base : Nat) : Prop where
 g1 : g < base
 g2 : gO ≠ g
 g3 : gO < base
 wb : w.heap.size ≤ base
 m1 : ∀ k,k < L → (adOf aM k).block ≠ g
 m2 : ∀ k,k < L → (adOf aM k).block < base
theorem RnM.push {w : World} {g gO : Nat} {C : List Nat} {aM : Option Addr} {cM : Nat} {Q : List Nat} {base : Nat} {c : Nat → Nat} {n : Nat} {F : List Nat} {v : Value} {wr w5 w7 : World} (h : RnM w g gO C aM cM Q base c n F v wr) (hK : RnK w g gO aM Q.length base) (h5 : OnG g wr w5) {q : Nat} (hN : NuB w5 g (nuC c n (F ++ [q]))) {o : Obj} {v7 : Value}
  (hq : w7.ownsRow base 3 1 v7 (F.length + 1) ((F.map Int.ofNat ++ [(q : Int)]).map (Value.int .i64))) (hg : (w5.alloc o).grownBy w7 v.ownBlock) : RnM w g gO C aM cM Q base c n (F ++ [q]) v7 w7 := by
 have hob : ∀ k,v.ownBlock = some k → base ≤ k := qp h.fst
 have hb := q5 w5 o
 have keep : ∀ b,b < wr.heap.size → b ≠ g → b < base → w7.heap[b]? = wr.heap[b]? := fun b h1 h2 h3 => by
  have h6 : b < w5.heap.size := Nat.lt_of_lt_of_le h1 h5.size
  rw [hg.block b (Nat.lt_of_lt_of_le h6 hb.size) (fun e => by have := hob b e.symm; omega),hb.block b h6]
  exact h5.keep b h1 h2
 refine ⟨q5U (h.on.trans h5) o hg (fun k e => by have := hob k e; have := hK.wb; omega),⟨(hN.row.up hb).grown hg (fun e => by have := hob g e; have := hK.g1; omega),hN.len⟩,(keep gO h.of.lt hK.g2 hK.g3).trans h.of,?_,by rw [List.length_append,List.map_append]; exact hq,Nat.le_trans h.bs (Nat.le_trans h5.size (Nat.le_trans hb.size hg.size))⟩
 exact ⟨h.met.hlen,h.met.hcap,h.met.bd,h.met.idx,fun k hk => by
  have h1 := h.met.cell k hk
  unfold World.cell? at h1 ⊢
  rw [keep _ (h.met.blk k hk) (hK.m1 k hk) (hK.m2 k hk)]; exact h1,fun k hk => Nat.lt_of_lt_of_le (h.met.blk k hk) (Nat.le_trans h5.size (Nat.le_trans hb.size hg.size)),h.met.nn⟩
def RnuR (p : Int) (nA : Nat) (bs : List Bool) (N : List Gd) (gs : List Int) (g : Nat) (w : World) (e : Ending) (w' : World) : Prop :=
 OnG g w w' ∧ ∃ k c F a cap,manyP (rwA p N gs) bs nA k = manyP (rwA p N gs) bs nA (k + 1) ∧ c = (fun s => (clsP (rwA p N gs) bs nA k).getD s 0) ∧ F = ddP c (rchP (rwA p N gs) nA 0 [0]) ∧ e = .returned (.slice a F.length cap) ∧ ZSl w' a F.length cap (F.map Int.ofNat) ∧ NuB w' g (nuC c nA F)
theorem q3H (p : Int) (aA : Option Addr) (nA cA : Nat) (aG : Option Addr) (nG cG : Nat) (aN : Option Addr) (nN cN : Nat) (bs : List Bool) (N : List Gd) (gs : List Int) (g : Nat) (w0 w : World) (hb : Below w0.heap.size w0 w) (hg : w0.heap.size ≤ g) (hZ : NuB w g (List.replicate 256 0)) (hM : MayG p nA N gs) (hB : BoSl w0 aA nA cA bs) (hN : NdSl w0 aN nN cN N) (hG : ZSl w0 aG nG cG gs) (hok : ∀ z ∈ gs,I64 z) :
  Calls Try.prog 58 #[.agg #[.int .i64 p,.slice aA nA cA,.slice aG nG cG,.slice aN nN cN],.slice (some ⟨g,0,none⟩) nA 256] w (RnuR p nA bs N gs g w) := by
 obtain ⟨Z,eZ⟩ : ∃ Z,Z = RnuR p nA bs N gs g w := ⟨_,rfl⟩
 have HZ : Hid (∀ e w',RnuR p nA bs N gs g w e w' → Z e w') := fun e w' h => by rw [eZ]; exact h
 rw [← eZ]
 clear eZ
 have h256 := hM.s2
 have h1n := hM.s1
 have hgw := hZ.lt
 have hb1 := q5 w (.cells #[.int .i64 p,.slice aA nA cA,.slice aG nG cG,.slice aN nN cN] 26 (0,0))
 have HB0 : Hid _ := hb
 have HG0 : Hid _ := hg
 have HON : Hid (OnG g w (w.alloc (.cells #[.int .i64 p,.slice aA nA cA,.slice aG nG cG,.slice aN nN cN] 26 (0,0)))) := Fr.ofBelow hb1
 have HAU : Hid ((w.alloc (.cells #[.int .i64 p,.slice aA nA cA,.slice aG nG cG,.slice aN nN cN] 26 (0,0))).heap[w.heap.size]? = _) := (MapKept.heap_alloc w (.cells #[.int .i64 p,.slice aA nA cA,.slice aG nG cG,.slice aN nN cN] 26 (0,0))).1
 have HNU : Hid (NuB (w.alloc (.cells #[.int .i64 p,.slice aA nA cA,.slice aG nG cG,.slice aN nN cN] 26 (0,0))) g (noC 0)) := by rw [q5T]; exact hZ.up hb1
 have HCL : Hid (∀ w',Below w0.heap.size w0 w' → Calls Try.prog 25 #[.agg #[.int .i64 p,.slice aA nA cA,.slice aG nG cG,.slice aN nN cN]] w' (CaR p nA bs N gs w')) := fun w' h => q2k p aA nA cA aG nG cG aN nN cN bs N gs w' (hB.up h) (hN.up h) (hG.up h) hok
 have HRE : Hid (∀ w',Below w0.heap.size w0 w' → Calls Try.prog 26 #[.agg #[.int .i64 p,.slice aA nA cA,.slice aG nG cG,.slice aN nN cN]] w' (RchA p nA N gs w')) := fun w' h => q2l p aA nA cA aG nG cG aN nN cN bs N gs w' (hB.up h) (hN.up h) (hG.up h) hok
 have HM : Hid _ := hM
 clear hb hg hb1 hB hN hG hok hZ hM
 generalize hw1 : w.alloc (.cells #[.int .i64 p,.slice aA nA cA,.slice aG nG cG,.slice aN nN cN] 26 (0,0)) = w1 at *
 have HW1 : Hid _ := hw1
 clear hw1
 go_enter Try.func58,Try.ntmps58
 go_wp2
 rw [HW1.out]
 go_loopw [15] (fun i wr => ∃ k : Nat,k ≤ nA ∧ i = .int .i64 (k : Int) ∧ Hid (NuB wr g (noC k)) ∧ Hid (OnG g w1 wr)) (fun i _ => nA - (intOf i).toNat)
 case atStart => exact ⟨0,Nat.zero_le _,rfl,HNU,q2h _ _⟩
 case round =>
  obtain ⟨k,hk,rfl,HN,HW⟩ := hrel
  clear HNU
  by_cases hlt : k < nA
  ·have hi2 := fun w' => q1b g nA k hlt w'
   have hc2 := HN.out.row.cell (i := k) (by rw [qx]; omega)
   have hf2 := HN.out.row.frozen k
   have HN2 : Hid (NuB (wr.setCell ⟨g,k,none⟩ (.int .i64 (-1))) g (noC (k + 1))) := by rw [← q5S]; exact HN.out.set k (-1)
   have HW2 : Hid _ := qX HW.out k (.int .i64 (-1))
   clear HN HW
   generalize (noC k).getD k 0 = z at *
   go_wp2
   go_roundw
   case rel => exact ⟨k + 1,by omega,by go_num,HN2,HW2⟩
   case measure => simp [intOf]; omega
  ·obtain rfl : k = nA := by omega
   have hon : OnG g w wr := HON.out.trans HW.out
   have hbw := q3o hon HG0.out HB0.out
   have hs1 : w1.heap.size = w.heap.size + 1 := by rw [← HW1.out]; simp
   have hau : wr.heap[w.heap.size]? = some (.cells #[.int .i64 p,.slice aA k cA,.slice aG nG cG,.slice aN nN cN] 26 (0,0)) := (HW.out.keep w.heap.size (by omega) (by omega)).trans HAU.out
   have HAU2 : Hid _ := hau
   obtain ⟨c0,c1,c2,c3⟩ : AuB wr w.heap.size p aA k cA aG nG cG aN nN cN := ⟨q7 hau 0,q7 hau 1,q7 hau 2,q7 hau 3⟩
   have jc := HCL.out wr hbw
   have HON2 : Hid _ := hon
   have HBW : Hid _ := hbw
   have HN3 : Hid _ := HN.out
   clear hon hbw hau HN HW HAU HON
   go_wp2_with fail
   refine jc.mono ?_
   rintro e w3 ⟨hb3,⟨hM,_⟩ | ⟨_,j,gO,hgO,hmj,rfl,hrow⟩⟩
   ·exact absurd HM.out hM
   have hbw3 := HBW.out.trans (hb3.mono HBW.out.size)
   have hau3 := (hb3.block w.heap.size (Array.getElem?_eq_some_iff.1 HAU2.out).1).trans HAU2.out
   obtain ⟨d0,d1,d2,d3⟩ : AuB w3 w.heap.size p aA k cA aG nG cG aN nN cN := ⟨q7 hau3 0,q7 hau3 1,q7 hau3 2,q7 hau3 3⟩
   have jr := HRE.out w3 hbw3
   have HON3 : Hid _ := q5o HON2.out hb3
   have HN4 : Hid _ := HN3.out.up hb3
   have HOF : Hid _ := hrow
   have HMJ : Hid _ := hmj
   have HGO : Hid (gO < w3.heap.size ∧ gO ≠ g) := ⟨hrow.lt,by have := HN3.out.lt; omega⟩
   have HSZ : Hid (g < w3.heap.size) := HN4.out.lt
   clear jc hb3 hbw3 hau3 hrow hmj hgO HON2 HBW HN3 c0 c1 c2 c3
   go_wp2_with fail
   refine jr.mono ?_
   rintro e w4 ⟨hb4,⟨hM,_⟩ | ⟨_,aM,cM,rfl,hmet,hmn⟩⟩
   ·exact absurd HM.out hM
   obtain ⟨C,hC⟩ : ∃ C,C = clsP (rwA p N gs) bs k j := ⟨_,rfl⟩
   obtain ⟨c,hc⟩ : ∃ c : Nat → Nat,c = fun s => C.getD s 0 := ⟨_,rfl⟩
   have hCl : C.length = k := by rw [hC,q43]
   have HZ2 : Hid (∀ F a cap w',OnG g w w' → F = ddP c (rchP (rwA p N gs) k 0 [0]) → ZSl w' a F.length cap (F.map Int.ofNat) → NuB w' g (nuC c k F) → Z (.returned (.slice a F.length cap)) w') := fun F a cap w' q1 q2 q3 q4 => HZ.out _ _ ⟨q1,j,c,F,a,cap,HMJ.out,by rw [hc,hC],q2,rfl,q3,q4⟩
   have hQn := (q34 (HM.out.rows (2 ^ p.toNat)) HM.out.s1).lt
   have hQd := (q34 (HM.out.rows (2 ^ p.toNat)) HM.out.s1).nd
   have HCLT : Hid (∀ s,s < k → C.getD s 0 < 256) := fun s hs => by rw [hC]; exact Nat.lt_of_lt_of_le (q4x _ _ _ _ hs) h256
   generalize rchP (rwA p N gs) k 0 [0] = Q at *
   rw [← hC] at HOF
   have hQl := qF hQd hQn
   have HQn : Hid _ := hQn
   have HK : Hid (RnK w g gO aM Q.length w4.heap.size) := ⟨by have := HSZ.out; have := hb4.size; omega,HGO.out.2,Nat.lt_of_lt_of_le HGO.out.1 hb4.size,Nat.le_trans HON3.out.size hb4.size,fun k hk => by have := hmn k hk; have := HSZ.out; omega,fun k hk => hmet.blk k hk⟩
   have HR0 : Hid (RnM w g gO C aM cM Q w4.heap.size c k (ddP c (Q.take 0)) (.slice none 0 0) w4) := ⟨q5o HON3.out hb4,by
    have := HN4.out.up hb4
    rw [q6s c] at this
    exact this,RowI.up (e := 3) HOF.out hb4,hmet,⟨rfl,.inl ⟨rfl,rfl⟩⟩,Nat.le_refl _⟩
   have HCC : Hid _ := hc
   have HCL2 : Hid _ := hCl
   clear jr hb4 hmet hmn d0 d1 d2 d3 HOF HGO HSZ HON3 HN4 HMJ hC hc hCl hQn hQd HM HZ HCL HRE HAU2
   generalize w4.heap.size = base at *
   go_wp2
   go_loopw [10,34] (fun v i wr => ∃ (m : Nat) (F : List Nat),m ≤ Q.length ∧ i = .int .i64 (m : Int) ∧ Hid (F = ddP c (Q.take m)) ∧ Hid (RnM w g gO C aM cM Q base c k F v wr)) (fun _ i _ => Q.length - (intOf i).toNat)
   case atStart => exact ⟨0,_,Nat.zero_le _,rfl,rfl,HR0⟩
   case round =>
    obtain ⟨m,F,hm,rfl,HF,HR⟩ := hrel
    clear HR0
    obtain ⟨va,vc,rfl,hU,hUb,_⟩ := qG HR.out.fst Try.underlying23 qb
    by_cases hmQ : m < Q.length
    ·have hix := fun w' => HR.out.met.idx Q.length m w' hmQ (Nat.le_refl _)
     have hce := HR.out.met.cell m hmQ
     rw [qz hmQ] at hce
     have hqn := HQn.out _ (qU hmQ)
     have HFN : Hid (ddP c (Q.take (m + 1)) = putF c F (Q.getD m 0)) := by show _ = _; rw [q1k hmQ,q1S,← HF.out]; rfl
     generalize Q.getD m 0 = q at *
     generalize adOf aM m = ad at *
     obtain ⟨ag,ao,az⟩ := ad
     have hi2 := fun w' => q1b g k q hqn w'
     have hc2 := HR.out.num.row.cell (i := q) (by rw [qN]; omega)
     rw [q2B _ _ _ (by omega),if_pos hqn] at hc2
     have dq0 : decide ((q : Int) < 0) = false := by simp
     have dq1 : decide (k ≤ q) = false := by simp; exact hqn
     by_cases hin : c q ∈ F.map c
     ·rw [if_pos hin] at hc2
      have HF2 : Hid (F = ddP c (Q.take (m + 1))) := by show _ = _; rw [HFN.out,putF,if_pos hin]
      have dn : (((nmP c F q : Nat) : Int) == -1) = false := by simp
      clear HF HFN hin hU hUb
      generalize ((nmP c F q : Nat) : Int) = zz at *
      go_wp2
      go_roundw
      case rel => exact ⟨m + 1,F,by omega,by go_num,HF2,HR⟩
      case measure => simp [intOf]; omega
     ·rw [if_neg hin] at hc2
      have HF2 : Hid (F ++ [q] = ddP c (Q.take (m + 1))) := by show _ = _; rw [HFN.out,putF,if_neg hin]
      have hFl : F.length ≤ 256 := by
       have h1 : (F.map c).Nodup := by rw [HF.out]; exact q1N c _
       have := qF (n := 256) h1 (fun x hx => by
        obtain ⟨s,hs,rfl⟩ := List.mem_map.1 hx
        rw [HF.out] at hs
        have hs2 := List.mem_of_mem_take (q4A hs)
        have := HCLT.out s (HQn.out s hs2)
        rw [HCC.out]; exact this)
       simpa using this
      have hgk : RowI wr 3 gO (C.map Int.ofNat) := HR.out.of
      have hzs : ZSl wr (some ⟨gO,0,none⟩) k k (C.map Int.ofNat) := by
       have hl : (C.map Int.ofNat).length = k := by rw [List.length_map]; exact HCL2.out
       have := RowI.zsl (n := k) hgk Try.underlying23 qb (by omega) (by unfold maxLen; omega)
       rw [List.take_of_length_le (by omega),hl] at this
       exact this
      have hix3 := fun w' => hzs.idx k q w' hqn (Nat.le_refl _)
      have hce3 := hzs.cell q hqn
      rw [qz (by rw [HCL2.out]; exact hqn)] at hce3
      have had : adOf (some (⟨gO,0,none⟩ : Addr)) q = ⟨gO,q,none⟩ := by simp [adOf,q9]
      rw [had] at hix3 hce3
      have js := q2Y g k (some ⟨gO,0,none⟩) k C (C.getD q 0) F.length (nuC c k F) wr HR.out.num hzs (fun i hi => by
       have : (adOf (some (⟨gO,0,none⟩ : Addr)) i).block = gO := by simp [adOf,q9]
       rw [this]; exact HK.out.g2) h256
      rw [q6F HCC.out hin] at js
      have hob : ∀ kk,(Value.slice va F.length vc).ownBlock = some kk → base ≤ kk := qp HR.out.fst
      have HSA : Hid (∀ w5,OnG g wr w5 → (w5.alloc (.cells #[.int .i64 (q : Int)] 3)).ownsRow base 3 1 (.slice va F.length vc) F.length ((F.map Int.ofNat).map (Value.int .i64)) ∧ (w5.alloc (.cells #[.int .i64 (q : Int)] 3)).cell? ⟨w5.heap.size,0,none⟩ = some (.int .i64 (q : Int)) ∧ base ≤ (w5.alloc (.cells #[.int .i64 (q : Int)] 3)).heap.size) := fun w5 h5 =>
       ⟨World.ownsRow.alloc (h5.own HR.out.fst (fun kk e he => by have := hob kk e; have := HK.out.g1; omega)) _,q7 (MapKept.heap_alloc w5 _).1 0,by have := HR.out.bs; have := h5.size; simp; omega⟩
      have HPU : Hid (∀ w5 w7 v7,OnG g wr w5 → NuB w5 g (nuC c k (F ++ [q])) → w7.ownsRow base 3 1 v7 (F.length + 1) ((F.map Int.ofNat ++ [(q : Int)]).map (Value.int .i64)) → (w5.alloc (.cells #[.int .i64 (q : Int)] 3)).grownBy w7 (Value.slice va F.length vc).ownBlock → RnM w g gO C aM cM Q base c k (F ++ [q]) v7 w7) := fun w5 w7 v7 q1 q2 q3 q4 => HR.out.push HK.out q1 q2 q3 q4
      have dn : ((-1 : Int) == -1) = true := rfl
      have hF2 : F.length + 1 ≤ 2000000 := by omega
      generalize hcq : C.getD q 0 = cq at *
      clear HF HFN hin hU hUb hgk hzs HR hob hcq had
      go_wp2_with fail
      refine js.mono ?_
      rintro e w5 ⟨rfl,hN5,hO5⟩
      obtain ⟨s1,s2,s3⟩ := HSA.out w5 hO5
      have HN5 : Hid _ := hN5
      have HO5 : Hid _ := hO5
      have HS1 : Hid _ := s1
      clear js hN5 hO5 HSA s1 hix hce hi2 hc2 hix3 hce3
      go_wp2_with (at_builtin; refine qJ rfl _ _ rfl base _ F.length (F.map Int.ofNat) rfl HS1.out w5.heap.size (q : Int) rfl s2 hF2 s3 ?_)
      intro v7 w7 hq7 hg7
      have HR7 : Hid _ := HPU.out w5 w7 v7 HO5.out HN5.out (by rw [List.map_append,List.map_map]; exact hq7) hg7
      clear hq7 hg7 HS1 s2 s3 HO5 HN5 HPU
      go_wp2
      go_roundw
      case rel => exact ⟨m + 1,_,by omega,by go_num,HF2,HR7⟩
      case measure => simp [intOf]; omega
    ·obtain rfl : m = Q.length := by omega
     have HE : Hid _ := HZ2.out F va vc wr HR.out.on (by rw [HF.out,List.take_length]) hU HR.out.num
     clear HF HR hU hUb HZ2
     go_wp2
     exact HE.out
end Go.Proofs.Ytehddcdgpamaaaa
namespace Go.Proofs.Ytehddcdgpamaaaa
open Go.RowKit Go.Maps
theorem StG.type {w : World} {F : Nat → Prop} {g n : Nat} {N : List Gd} (h : StG w F g n N) {b : Nat} (hb : F b) {cs : Array Value} {T : TypeId} (hc : w.heap[b]? = some (.cells cs T (0,0))) : T = 109 ∨ T = 57 := by
 obtain ⟨v,mb,h1,h2,h3,h4⟩ := h.ex
 rcases (h4 b).1 hb with rfl | rfl | e
 ·unfold stO at h1; rw [h1] at hc; injection hc with hc; injection hc with _ hc _; exact .inl hc.symm
 ·obtain ⟨es,c,hm⟩ := h3.isMap
  rw [hm] at hc; cases hc
 ·rcases h2.2 with ⟨rfl,_⟩ | ⟨g',cap,cur,rfl,_,hg,_⟩
  ·cases e
  ·injection e with e
   dsimp only at e
   subst e
   rw [hg] at hc; injection hc with hc; injection hc with _ hc _; exact .inr hc.symm
theorem q1h {w : World} {base e size n b : Nat} {v : Value} {xs : List Value} (h : w.ownsRow base e size v n xs) (hb : v.ownBlock = some b) : ∃ cs,w.heap[b]? = some (.cells cs e (0,0)) := by
 rcases h.2 with ⟨rfl,_⟩ | ⟨g',cap,cur,rfl,_,hg,_⟩
 ·cases hb
 ·injection hb with hb
  dsimp only at hb
  subst hb
  exact ⟨cur,hg⟩
theorem StG.notOwn {w : World} {F : Nat → Prop} {g n : Nat} {N : List Gd} (hS : StG w F g n N) {base e size k : Nat} {v : Value} {xs : List Value} (h : w.ownsRow base e size v k xs) (h1 : e ≠ 109) (h2 : e ≠ 57) : ∀ b,v.ownBlock = some b → ¬ F b := fun b hb hf => by
 obtain ⟨cs,hc⟩ := q1h h hb
 rcases hS.type hf hc with e | e
 ·exact h1 e
 ·exact h2 e
theorem q3q {w : World} {base e size k base' e' size' k' : Nat} {v v' : Value} {xs xs' : List Value} (h : w.ownsRow base e size v k xs) (h' : w.ownsRow base' e' size' v' k' xs') (he : e ≠ e') : ∀ b,v.ownBlock = some b → v'.ownBlock ≠ some b := fun b hb hb' => by
 obtain ⟨cs,hc⟩ := q1h h hb
 obtain ⟨cs',hc'⟩ := q1h h' hb'
 rw [hc] at hc'
 injection hc' with hc'
 injection hc' with _ hc' _
 exact he hc'
theorem q3r {w w' : World} {base e size k : Nat} {v : Value} {xs : List Value} {row : Option Nat} (h : w.ownsRow base e size v k xs) (hg : w.grownBy w' row) (hn : ∀ b,v.ownBlock = some b → row ≠ some b) : w'.ownsRow base e size v k xs :=
 qj h fun b hb => hg.block b (h.lt b hb).2 (fun e => hn b hb e.symm)
theorem StG.grown {w w' : World} {F : Nat → Prop} {g n : Nat} {N : List Gd} (hS : StG w F g n N) {base e size k : Nat} {v : Value} {xs : List Value} (h : w.ownsRow base e size v k xs) (h1 : e ≠ 109) (h2 : e ≠ 57) (hg : w.grownBy w' v.ownBlock) : StG w' F g n N :=
 hS.far fun b hb => hg.block b (hS.lt b hb) (fun e => hS.notOwn h h1 h2 b e.symm hb)
theorem q14 {w : World} {aub : Nat} {cs : Array Value} {base e size k : Nat} {v : Value} {xs : List Value} (h : w.heap[aub]? = some (.cells cs 26 (0,0))) (ho : w.ownsRow base e size v k xs) (he : e ≠ 26) : v.ownBlock ≠ some aub := fun hb => by
 obtain ⟨cs',hc⟩ := q1h ho hb
 rw [h] at hc; injection hc with hc; injection hc with _ hc _; exact he hc.symm
end Go.Proofs.Ytehddcdgpamaaaa
namespace Go.Proofs.Ytehddcdgpamaaaa
open Go.RowKit Go.Maps Go.Sort
theorem q4V : (Try.prog.info? 82).map (fun i => (i.zero,i.size)) = some (some (.agg (Array.replicate 256 (.int .i64 0))),256) := by kernel_rfl
theorem q6y : ((List.replicate 256 (0 : Int)).map (Value.int .i64)).toArray = Array.replicate 256 (.int .i64 0) := by
 rw [List.map_replicate,List.toArray_replicate]
theorem q4W (w : World) : (zeroValue 82).run Try.prog w = .ok (.agg ((List.replicate 256 (0 : Int)).map (Value.int .i64)).toArray) w := by rw [q6y]; exact (zero_of_info q4V).1 w
theorem q4t (g n : Nat) (hn : n ≤ 256) (w : World) : (Instr.sliceAt 82 (.pointer (some ⟨g,0,none⟩)) none (some (.int .i64 (n : Int))) none).run Try.prog w = .ok (.slice (some ⟨g,0,none⟩) n 256) w := by
 simp [Instr.sliceAt,Instr.slice,run_underlying Try.underlying82,q4v qb,go_sem]
 intro h
 omega
theorem q5E {p : Int} {nA : Nat} {bs : List Bool} {N : List Gd} {gs : List Int} {c : Nat → Nat} {Q F : List Nat} (hM : MayG p nA N gs) (hP : MinP nA (2 ^ p.toNat) (rwA p N gs) bs c Q F) {i : Nat} (hi : i < F.length) :
  addG p.toNat (stoM p.toNat ((rowC c F (rwA p N gs)).take i)).2 (((rowC c F (rwA p N gs)).getD i []).map Int.ofNat) = (((adM p.toNat 0 (fnL ((rowC c F (rwA p N gs)).getD i [])) (stoM p.toNat ((rowC c F (rwA p N gs)).take i)).2).1,0),(stoM p.toNat ((rowC c F (rwA p N gs)).take (i + 1))).2) := by
 have hl := hP.lists
 have hKl : (rowC c F (rwA p N gs)).length = F.length := hP.rows.len
 have hiK : i < (rowC c F (rwA p N gs)).length := by omega
 have hm : (rowC c F (rwA p N gs)).getD i [] ∈ rowC c F (rwA p N gs) := by rw [q8 hiK]; exact List.getElem_mem _
 have hA := q1w hM hl _ hP.from (i + 1) (by omega)
 have hfew := hA.len
 have h4 := hM.few
 have h256 := hM.s2
 have hFl := hP.len
 rw [q1j _ _ hiK] at hfew ⊢
 obtain ⟨h1,h2⟩ := hl _ hm
 have e : (((rowC c F (rwA p N gs)).getD i []).map Int.ofNat).map Int.toNat = (rowC c F (rwA p N gs)).getD i [] := by
  rw [List.map_map]
  exact List.map_id'' (fun x => by simp) _
 generalize (rowC c F (rwA p N gs)).getD i [] = l at *
 unfold addG stoF
 unfold stoF at hfew
 dsimp only at hfew ⊢
 rw [e,if_neg,if_neg (by omega)]
 rintro (h | h)
 ·exact h (by rw [List.length_map]; exact h1)
 ·refine h fun v hv => ?_
  obtain ⟨x,hx,rfl⟩ := List.mem_map.1 hv
  have := h2 x hx
  have e : Int.ofNat x = (x : Int) := rfl
  omega
theorem q6A {p : Int} {nA : Nat} {bs : List Bool} {N : List Gd} {gs : List Int} {c : Nat → Nat} {Q F : List Nat} (hM : MayG p nA N gs) (hP : MinP nA (2 ^ p.toNat) (rwA p N gs) bs c Q F) {i : Nat} (hi : i < F.length) :
  rwN (rwA p N gs) (F.getD i 0) (nuC c nA F) = ((rowC c F (rwA p N gs)).getD i []).map Int.ofNat := by
 rw [q1X hi,rwN,List.map_map]
 apply List.map_congr_left
 intro t ht
 obtain ⟨l,hl,rfl⟩ := (q1a hP.hR (hP.ltn hi)).1 ht
 have hq := hP.hQ.cl _ (hP.inQ hi) l hl
 have hn := hP.hQ.lt _ hq
 have h256 := hM.s2
 rw [q2B _ _ _ (by omega),if_pos hn,if_pos (hP.mem hq)]
 rfl
theorem MayG.ok64 {p : Int} {ns : Nat} {N : List Gd} {gs : List Int} (h : MayG p ns N gs) : ∀ z ∈ gs,I64 z := fun z hz => by
 obtain ⟨j,hj,rfl⟩ := List.getElem_of_mem hz
 have := q2e h (q := j) hj
 rwa [q8 hj] at this
structure SmM (wb wr : World) (m0 g1 n : Nat) (Fs : Nat → Prop) (p : Int) (av gv : Value) (i : Nat) (bs : List Bool) (rs : List Int) (N : List Gd) : Prop where
 blk : wr.heap[m0]? = some (.cells #[.int .i64 p,av,gv,.slice none 0 0] 26 (0,0))
 ac : wr.ownsRow wb.heap.size 4 1 av i (bs.map Value.bool)
 gu : wr.ownsRow wb.heap.size 3 1 gv i (rs.map (Value.int .i64))
 st : StG wr Fs g1 n N
 fge : ∀ k,Fs k → wb.heap.size ≤ k
 mge : wb.heap.size ≤ m0
 bel : Below wb.heap.size wb wr
variable {wb wr : World} {m0 g1 n : Nat} {Fs : Nat → Prop} {p : Int} {av gv : Value} {i : Nat} {bs : List Bool} {rs : List Int} {N : List Gd}
theorem SmM.m0lt (h : SmM wb wr m0 g1 n Fs p av gv i bs rs N) : m0 < wr.heap.size := (Array.getElem?_eq_some_iff.1 h.blk).1
theorem SmM.m0F (h : SmM wb wr m0 g1 n Fs p av gv i bs rs N) : ¬ Fs m0 := fun hf => by
 rcases h.st.type hf h.blk with e | e
 ·exact absurd e (by decide)
 ·exact absurd e (by decide)
theorem SmM.up (h : SmM wb wr m0 g1 n Fs p av gv i bs rs N) {w' : World} (hb : Below wr.heap.size wr w') : SmM wb w' m0 g1 n Fs p av gv i bs rs N :=
 ⟨(hb.block _ h.m0lt).trans h.blk,qi h.ac hb,qi h.gu hb,h.st.up hb,h.fge,h.mge,h.bel.trans (hb.mono h.bel.size)⟩
theorem SmM.add (h : SmM wb wr m0 g1 n Fs p av gv i bs rs N) {w' : World} {F' : Nat → Prop} {N' : List Gd} (hf : Fr wr w' Fs F') (hs : StG w' F' g1 n N') : SmM wb w' m0 g1 n F' p av gv i bs rs N' :=
 ⟨(hf.keep _ h.m0lt h.m0F).trans h.blk,hf.own h.ac (h.st.notOwn h.ac (by decide) (by decide)),hf.own h.gu (h.st.notOwn h.gu (by decide) (by decide)),hs,hf.ge h.fge h.bel.size,h.mge,h.bel.trans (hf.below h.fge h.bel.size)⟩
theorem SmM.c1 (h : SmM wb wr m0 g1 n Fs p av gv i bs rs N) : wr.cell? ⟨m0,1,none⟩ = some av := q7 h.blk 1
theorem SmM.acc (h : SmM wb wr m0 g1 n Fs p av gv i bs rs N) {w1 w2 : World} {av' : Value} {z : Bool} (hb1 : Below wr.heap.size wr w1) (hg : w1.grownBy w2 av.ownBlock) (hown : w2.ownsRow wb.heap.size 4 1 av' (i + 1) ((bs ++ [z]).map Value.bool)) :
  w2.heap[m0]? = some (.cells #[.int .i64 p,av,gv,.slice none 0 0] 26 (0,0)) ∧
   (w2.setCell ⟨m0,1,none⟩ av').heap[m0]? = some (.cells #[.int .i64 p,av',gv,.slice none 0 0] 26 (0,0)) ∧
   (w2.setCell ⟨m0,1,none⟩ av').ownsRow wb.heap.size 4 1 av' (i + 1) ((bs ++ [z]).map Value.bool) ∧ (w2.setCell ⟨m0,1,none⟩ av').ownsRow wb.heap.size 3 1 gv i (rs.map (Value.int .i64)) ∧ StG (w2.setCell ⟨m0,1,none⟩ av') Fs g1 n N ∧ Below wb.heap.size wb (w2.setCell ⟨m0,1,none⟩ av') := by
 have h1 := h.up hb1
 have h5 := (hg.block m0 h1.m0lt (fun e => q14 h1.blk h1.ac (by decide) e.symm)).trans h1.blk
 have hg2 := q3r h1.gu hg (fun b hb' e => q3q h1.ac h1.gu (by decide) b e hb')
 have hs2 := h1.st.grown h1.ac (by decide) (by decide) hg
 have hset : (w2.setCell ⟨m0,1,none⟩ av').heap[m0]? = some (.cells #[.int .i64 p,av',gv,.slice none 0 0] 26 (0,0)) := by
  rw [heap_setCell_same w2 m0 1 _ _ _ h5]; rfl
 have hmF : ¬ Fs m0 := h.m0F
 refine ⟨h5,hset,qj hown fun b hb' => Below.heap_setCell _ _ _ _ (fun e => q14 h5 hown (by decide) (by dsimp only at e; rw [← e]; exact hb')),qj hg2 fun b hb' => Below.heap_setCell _ _ _ _ (fun e => q14 h5 hg2 (by decide) (by dsimp only at e; rw [← e]; exact hb')),hs2.far fun b hb' => Below.heap_setCell _ _ _ _ (fun e => by dsimp only at e; exact hmF (e ▸ hb')),?_⟩
 exact (h1.bel.grown hg h1.bel.size (fun q e => qp h1.ac q e)).setCell (by dsimp only; exact h.mge) _
theorem SmM.gus {w1 w2 : World} {gv' : Value} {z : Int} (hblk : wr.heap[m0]? = some (.cells #[.int .i64 p,av,gv,.slice none 0 0] 26 (0,0))) (hac : wr.ownsRow wb.heap.size 4 1 av (i + 1) (bs.map Value.bool)) (hgu : wr.ownsRow wb.heap.size 3 1 gv i (rs.map (Value.int .i64))) (hst : StG wr Fs g1 n N) (hfge : ∀ k,Fs k → wb.heap.size ≤ k) (hmge : wb.heap.size ≤ m0) (hbel : Below wb.heap.size wb wr)
  (hb1 : Below wr.heap.size wr w1) (hg : w1.grownBy w2 gv.ownBlock) (hown : w2.ownsRow wb.heap.size 3 1 gv' (i + 1) ((rs ++ [z]).map (Value.int .i64))) :
  w2.heap[m0]? = some (.cells #[.int .i64 p,av,gv,.slice none 0 0] 26 (0,0)) ∧ SmM wb (w2.setCell ⟨m0,2,none⟩ gv') m0 g1 n Fs p av gv' (i + 1) bs (rs ++ [z]) N := by
 have k1 := (hb1.block _ (Array.getElem?_eq_some_iff.1 hblk).1).trans hblk
 have k2 := qi hac hb1
 have k3 := qi hgu hb1
 have k4 := hst.up hb1
 have kb := hbel.trans (hb1.mono hbel.size)
 have h5 := (hg.block m0 (Array.getElem?_eq_some_iff.1 k1).1 (fun e => q14 k1 k3 (by decide) e.symm)).trans k1
 have hb2 := q3r k2 hg (fun b hb' e => q3q k3 k2 (by decide) b e hb')
 have hs2 := k4.grown k3 (by decide) (by decide) hg
 have hset : (w2.setCell ⟨m0,2,none⟩ gv').heap[m0]? = some (.cells #[.int .i64 p,av,gv',.slice none 0 0] 26 (0,0)) := by
  rw [heap_setCell_same w2 m0 2 _ _ _ h5]; rfl
 have hmF : ¬ Fs m0 := fun hf => by
  rcases hst.type hf hblk with e | e
  ·exact absurd e (by decide)
  ·exact absurd e (by decide)
 refine ⟨h5,hset,qj hb2 fun b hb' => Below.heap_setCell _ _ _ _ (fun e => q14 h5 hb2 (by decide) (by dsimp only at e; rw [← e]; exact hb')),qj hown fun b hb' => Below.heap_setCell _ _ _ _ (fun e => q14 h5 hown (by decide) (by dsimp only at e; rw [← e]; exact hb')),hs2.far fun b hb' => Below.heap_setCell _ _ _ _ (fun e => by dsimp only at e; exact hmF (e ▸ hb')),hfge,hmge,?_⟩
 exact (kb.grown hg kb.size (fun q e => qp k3 q e)).setCell (by dsimp only; exact hmge) _
theorem q41 {w : World} {ops : Array Oper} {o : Oper} {a : Act} {K : Act → World → Prop} {Q : Exit → Act → World → Prop} {E : Prop} (hw : Region.wanted o (yielded ops a.tmps) = true) (s x : Operand)
  (ho : o.op = .call { callee := .builtin .append,args := #[s,x],argTypes := #[22,22] }) (base : Nat)
  (v : Value) (n : Nat) (bs : List Bool) (z : Bool) (g' : Nat) (hs : a.eval s = v) (hx : a.eval x = .slice (some ⟨g',0,none⟩) 1 1) (hown : w.ownsRow base 4 1 v n (bs.map Value.bool)) (hB : w.heap[g']? = some (.cells #[.bool z] 4 (0,0))) (hn : n ≤ 1000000) (hbase : base ≤ w.heap.size)
  (h : ∀ v' w',w'.ownsRow base 4 1 v' (n + 1) ((bs ++ [z]).map Value.bool) → w.grownBy w' v.ownBlock → K (a.put o.dst v') w') :
  if Region.wanted o (yielded ops a.tmps) = true then Oper.wp Try.prog o a w K Q else E := by
 rw [if_pos hw]
 have hI : (Try.prog.info? 4).map (fun i => (i.zero,i.size,i.bytes)) = some (some (.bool false),1,1) := by kernel_rfl
 obtain ⟨i,hi,hz0,hz1,hz2⟩ := info_parts hI
 obtain ⟨v',w',hr,h2,h3,_,_⟩ := run_append_own_at (P := Try.prog) w base 22 o.type 4 i _ 1 1 Try.underlying22 hi hz0 hz1 hz2 rfl (by decide) v n _ hown ⟨g',0,none⟩ 1 1 [.bool z] rfl (fun j u hj => by
  rw [q9,Nat.zero_add,q7 hB]
  match j with
  | 0 => simpa using hj
  | j + 1 => simp at hj) (fun u hu => by simp at hu; subst hu; rfl) (by unfold maxLen; omega) (by omega) hbase
 unfold Oper.wp execOp
 simp only [ho,resolve,invoke,builtin,Sem.run_bind,Sem.run_pure,Result.andThen_ok,List.map_toArray,List.map_cons,List.map_nil,hs,hx,hr]
 exact h v' w' (by rw [List.map_append]; exact h2) h3
end Go.Proofs.Ytehddcdgpamaaaa
