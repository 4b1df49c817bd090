/- Texts of the proof, put together: what it uses. -/
import Derived.Test.YtcnkgokfjafgkaaZ08
import Derived.Test.YtcnkgokfjafgkaaZ11
import Derived.Test.YtcnkgokfjafgkaaZ14
set_option maxRecDepth 100000
set_option maxHeartbeats 16000000
namespace Go.Proofs.Ytcnkgokfjafgkaa
open Go.RowKit Go.Maps
variable {D : PgD} {w : World} {vi vw vq : Value} {vs : List Value} {of : List Nat} {ins : List (List Nat)} {ws : List Bool} {qu : List Nat}
theorem PgW.ofc (h : PgW D w vi vw vq vs of ins ws qu) {s : Nat} (hs : s < D.S) : w.cell? ⟨D.go,s,none⟩ = some (.int .i64 ((of.getD s 0 : Nat) : Int)) ∧ w.frozen? ⟨D.go,s,none⟩ = false := by
 have hl : s < of.length := by rw [h.ol]; exact hs
 have := h.fo.cell (i := s) (by rw [List.length_map]; exact hl)
 rw [qD hl] at this
 exact ⟨this,h.fo.fz s⟩
theorem PgW.inc (h : PgW D w vi vw vq vs of ins ws qu) {c : Nat} (hc : c < ins.length) : ∃ g ci a cap,vi = .slice (some ⟨g,0,none⟩) ins.length ci ∧ w.cell? ⟨g,c,none⟩ = some (.slice a (ins.getD c []).length cap) ∧ LsB w D.go vq a (ins.getD c []) := by
 obtain ⟨a,cap,h1,h2⟩ := h.ls c hc
 rcases h.fi.2 with ⟨_,h0⟩ | ⟨g,ci,cur,rfl,_,hcell,_,_,_,htk⟩
 ·omega
 ·refine ⟨g,ci,a,cap,rfl,?_,h2⟩
  rw [← htk,List.getElem?_take,if_pos (by omega)] at h1
  simp [World.cell?,hcell]
  simpa using h1
structure SpL (w1 wr : World) (v9 v10 : Value) (st lv : List Nat) : Prop where
 bel : Below w1.heap.size w1 wr
 o9 : wr.ownsRow w1.heap.size 3 1 v9 st.length (izV st)
 o10 : wr.ownsRow w1.heap.size 3 1 v10 lv.length (izV lv)
 ne : ∀ k,v9.ownBlock = some k → v10.ownBlock ≠ some k
theorem SpL.sym {w1 wr : World} {v9 v10 : Value} {st lv : List Nat} (h : SpL w1 wr v9 v10 st lv) : SpL w1 wr v10 v9 lv st := ⟨h.bel,h.o10,h.o9,fun k h1 h2 => h.ne k h2 h1⟩
theorem SpL.put {w1 wr w5 : World} {v9 v10 : Value} {st lv : List Nat} (h : SpL w1 wr v9 v10 st lv) {o : Obj} {g c x : Nat} (ho : w5.ownsRow w1.heap.size 3 1 (.slice (some ⟨g,0,none⟩) (st.length + 1) c) (st.length + 1) (izV (st ++ [x]))) (hg : (wr.alloc o).grownBy w5 v9.ownBlock) (hl : v9.ownBlock = some g ∨ g = (wr.alloc o).heap.size) : SpL w1 w5 (.slice (some ⟨g,0,none⟩) (st.length + 1) c) v10 (st ++ [x]) lv := by
 have hb := q7 h.bel (q5 wr o)
 have hge := qm h.o9
 refine ⟨hb.grown hg hb.size (fun k e => hge k e),by rw [List.length_append,List.length_singleton]; exact ho,qb (World.ownsRow.alloc h.o10 o) (fun k hk => ?_),fun k hk hk2 => ?_⟩
 ·have hlt := (h.o10.lt k hk).2
  exact hg.block k (by simp; omega) (fun e => h.ne k e.symm hk)
 ·have e : g = k := by injection hk
  subst e
  rcases hl with hl | hl
  ·exact h.ne g hl hk2
  ·have := (h.o10.lt g hk2).2
   simp at hl; omega
theorem q8A {of' : List Nat} {c : Nat} {l : List Nat} {k : Nat} (hk : k < l.length) : styH of' c (l.take (k + 1)) = if of'.getD (l.getD k 0) 0 = c then styH of' c (l.take k) ++ [l.getD k 0] else styH of' c (l.take k) := by
 rw [qB hk,styH,List.filter_append,styH]
 by_cases e : of'.getD (l.getD k 0) 0 = c
 ·rw [if_pos e]; simp [-List.getD_eq_getElem?_getD,e]
 ·rw [if_neg e]; simp [-List.getD_eq_getElem?_getD,e]
theorem q9e {of' : List Nat} {c : Nat} {l : List Nat} {k : Nat} (hk : k < l.length) : lvH of' c (l.take (k + 1)) = if of'.getD (l.getD k 0) 0 = c then lvH of' c (l.take k) else lvH of' c (l.take k) ++ [l.getD k 0] := by
 rw [qB hk,lvH,List.filter_append,lvH]
 by_cases e : of'.getD (l.getD k 0) 0 = c
 ·rw [if_pos e]; simp [-List.getD_eq_getElem?_getD,e]
 ·rw [if_neg e]; simp [-List.getD_eq_getElem?_getD,e]
def SplR (D : PgD) (w : World) (vi vw vq : Value) (of : List Nat) (ins : List (List Nat)) (ws : List Bool) (qu X : List Nat) (c : Nat) (e : Ending) (w' : World) : Prop :=
 e = .returned (.tuple #[]) ∧ ∃ ge,(ws.getD c false = true → ge = true) ∧ PgR D w vi vw vq (sofH of X c ins.length) (spiH (sofH of X c ins.length) c ins) (swH ws c ge) (qu ++ [if ge then ins.length else c]) w'
theorem q5r (h : PgW D w vi vw vq vs of ins ws qu) (c : Nat) (hc : c < ins.length) (hwl : ws.length = ins.length) (a : Option Addr) (capX : Nat) (X : List Nat) (hX : LsB w D.go vq a X) (hXs : ∀ x ∈ X,x < D.S) (hXl : X.length ≤ 100000) (hil : ins.length ≤ 100000) (hql : qu.length ≤ 100000) (hm : ∀ s ∈ ins.getD c [],s < D.S) (hll : (ins.getD c []).length ≤ 100000) :
  Calls Try.prog 76 #[.pointer (some ⟨D.b,0,none⟩),.int .i64 (c : Int),.slice a X.length capX] w (SplR D w vi vw vq of ins ws qu X c) := by
 obtain ⟨Z,eZ⟩ : ∃ Z,Z = SplR D w vi vw vq of ins ws qu X c := ⟨_,rfl⟩
 have HZ : Hid (∀ w' ge,(ws.getD c false = true → ge = true) → PgR D w vi vw vq (sofH of X c ins.length) (spiH (sofH of X c ins.length) c ins) (swH ws c ge) (qu ++ [if ge then ins.length else c]) w' → Z (.returned (.tuple #[])) w') := fun w' ge h1 h2 => by rw [eZ]; exact ⟨rfl,ge,h1,h2⟩
 rw [← eZ]
 clear eZ
 obtain ⟨ia,ic,rfl⟩ := qe h.fi
 obtain ⟨_,_,c2,_,_,_⟩ := h.c
 have H0 : Hid _ := h
 have HX : Hid (LsB w D.go vq a X) := hX
 have HXS : Hid _ := hXs
 have HM : Hid _ := hm
 have HWL : Hid _ := hwl
 clear h hX hXs hm hwl
 generalize hn : ins.length = n at *
 have HN : Hid _ := hn
 clear hn
 generalize hXX : X.length = L at *
 have HXX : Hid _ := hXX
 clear hXX
 go_enter Try.func76,Try.ntmps76
 go_wp2
 clear c2
 go_loopw [20] (fun i wr => ∃ k : Nat,k ≤ L ∧ i = .int .i64 (k : Int) ∧ Hid (PgW D wr (.slice ia n ic) vw vq vs (sofH of (X.take k) c n) ins ws qu) ∧ Hid (Fr w wr (PgF D (.slice ia n ic) vw vq) (PgF D (.slice ia n ic) vw vq))) (fun i _ => L - (intOf i).toNat)
 case atStart => exact ⟨0,Nat.zero_le _,rfl,H0,Fr.ofBelow (Below.refl _ _)⟩
 case round =>
  obtain ⟨k,hk,rfl,HP,HF⟩ := hrel
  by_cases hlt : k < L
  ·obtain ⟨gx,rfl,cx⟩ := LsB.cell (LsB.fr H0.out HX.out HF.out) (i := k) (by rw [HXX.out]; exact hlt)
   have ixx := fun w' => qg gx L capX k hlt w'
   have hxm : X.getD k 0 ∈ X := by rw [qd (by rw [HXX.out]; exact hlt)]; exact List.getElem_mem _
   have hxs := HXS.out _ hxm
   have hsn := q8x of (X.take k) c n (X.getD k 0)
   rw [← qB (by rw [HXX.out]; exact hlt)] at hsn
   have HSN : Hid _ := hsn
   clear hxm hsn
   generalize X.getD k 0 = x at *
   obtain ⟨co,fo⟩ := HP.out.ofc hxs
   obtain ⟨_,c1,_,_,_,_⟩ := HP.out.c
   have ixo := fun w' => qg D.go D.S D.S x hxs w'
   obtain ⟨hset,hfs⟩ := HP.out.setOf x n
   have HSE : Hid _ := hset
   have HSF : Hid _ := hfs
   clear hset hfs
   generalize hv : (sofH of (X.take k) c n).getD x 0 = v at *
   have HV : Hid _ := hv
   clear hv
   by_cases e : v = c
   ·subst e
    have HP2 : Hid (PgW D (wr.setCell ⟨D.go,x,none⟩ (.int .i64 (n : Int))) (.slice ia n ic) vw vq vs (sofH of (X.take (k + 1)) v n) ins ws qu) := by
     show PgW _ _ _ _ _ _ _ _ _ _
     rw [HSN.out,if_pos rfl]; exact HSE.out
    have HF2 : Hid _ := HF.out.trans HSF.out
    clear HP HF HSE HSF HSN HV
    go_wp2
    go_roundw
    case rel => exact ⟨k + 1,by omega,by go_num,HP2,HF2⟩
    case measure => simp [intOf]; omega
   ·have hne : ((v : Int) == (c : Int)) = false := by simp; omega
    have HP2 : Hid (PgW D wr (.slice ia n ic) vw vq vs (sofH of (X.take (k + 1)) c n) ins ws qu) := by
     show PgW _ _ _ _ _ _ _ _ _ _
     rw [HSN.out,if_neg e]; exact HP.out
    clear HP HSE HSF HSN HV
    go_wp2
    go_roundw
    case rel => exact ⟨k + 1,by omega,by go_num,HP2,HF⟩
    case measure => simp [intOf]; omega
  ·obtain rfl : k = L := by omega
   rw [← HXX.out,List.take_length] at HP
   have HSO : Hid (sofH of X c n = sofH of X c n) := rfl
   generalize hso : sofH of X c n = of' at *
   clear HSO hso
   obtain ⟨gi,ci,la,lc,ei,ci2,hls⟩ := HP.out.inc (c := c) (by rw [HN.out]; exact hc)
   rw [HN.out] at ei
   injection ei with ei1 _ ei3
   subst ei1 ei3
   have HLS : Hid (LsB wr D.go vq la (ins.getD c [])) := hls
   have ixi := fun w' => qI gi n ic c hc w'
   obtain ⟨_,c1,c2,_,_,_⟩ := HP.out.c
   clear hls
   generalize hl : ins.getD c [] = l at *
   have HLL : Hid _ := hl
   clear hl
   generalize hlq : l.length = m at *
   have HLQ : Hid _ := hlq
   clear hlq
   go_wp2
   clear ixi ci2 c1 c2
   obtain ⟨w1,hw1⟩ : ∃ w1,w1 = wr := ⟨_,rfl⟩
   subst hw1
   go_loopw [9,10,49] (fun v9 v10 i wr => ∃ k : Nat,k ≤ m ∧ i = .int .i64 (k : Int) ∧ Hid (SpL w1 wr v9 v10 (styH of' c (l.take k)) (lvH of' c (l.take k)))) (fun _ _ i _ => m - (intOf i).toNat)
   case atStart => exact ⟨0,Nat.zero_le _,rfl,⟨Below.refl _ _,⟨rfl,.inl ⟨rfl,rfl⟩⟩,⟨rfl,.inl ⟨rfl,rfl⟩⟩,fun k hk => by cases hk⟩⟩
   case round =>
    obtain ⟨k,hk,rfl,HS⟩ := hrel
    obtain ⟨a9,k9,e9⟩ := qe HS.out.o9
    obtain ⟨a10,k10,e10⟩ := qe HS.out.o10
    subst e9 e10
    by_cases hlt2 : k < m
    ·have hk2 : k < l.length := by rw [HLQ.out]; exact hlt2
     obtain ⟨gx,rfl,cx⟩ := LsB.cell HLS.out (i := k) hk2
     have cx := q8 cx HS.out.bel
     have ixx := fun w' => qg gx m lc k hlt2 w'
     have hxm : l.getD k 0 ∈ l := by rw [qd hk2]; exact List.getElem_mem _
     have hxs := HM.out _ hxm
     have HS1 : Hid _ := q8A (of' := of') (c := c) hk2
     have HS2 : Hid _ := q9e (of' := of') (c := c) hk2
     clear hxm hk2
     generalize l.getD k 0 = x at *
     obtain ⟨co,_⟩ := (HP.out.up HS.out.bel).ofc hxs
     obtain ⟨_,c1,_,_,_,_⟩ := (HP.out.up HS.out.bel).c
     have ixo := fun w' => qg D.go D.S D.S x hxs w'
     have hcl : (wr.alloc (.cells #[.int .i64 (x : Int)] 3)).cell? ⟨wr.heap.size,0,none⟩ = some (.int .i64 (x : Int)) := q6 (MapKept.heap_alloc wr _).1 0
     have hsz : w1.heap.size ≤ (wr.alloc (.cells #[.int .i64 (x : Int)] 3)).heap.size := by have := HS.out.bel.size; simp; omega
     generalize of'.getD x 0 = v at *
     have hst : (styH of' c (l.take k)).length ≤ 100000 := by
      have h1 : (styH of' c (l.take k)).length ≤ (l.take k).length := List.length_filter_le _ _
      rw [List.length_take,HLQ.out] at h1; omega
     have hlv : (lvH of' c (l.take k)).length ≤ 100000 := by
      have h1 : (lvH of' c (l.take k)).length ≤ (l.take k).length := List.length_filter_le _ _
      rw [List.length_take,HLQ.out] at h1; omega
     by_cases e : v = c
     ·subst e
      rw [if_pos rfl] at HS1 HS2
      generalize styH of' v (l.take k) = st at *
      generalize lvH of' v (l.take k) = lv at *
      have hO := World.ownsRow.alloc HS.out.o9 (.cells #[.int .i64 (x : Int)] 3)
      generalize hsl : st.length = sl at *
      have HSL : Hid _ := hsl
      clear hsl
      go_wp2_with (at_builtin; refine qQ rfl _ _ rfl w1.heap.size _ sl st rfl hO wr.heap.size x rfl hcl (by omega) hsz ?_)
      intro g5 c5 w5 hown hgr hloc
      have HS5 : Hid (SpL w1 w5 (.slice (some ⟨g5,0,none⟩) (sl + 1) c5) (.slice a10 lv.length k10) (styH of' v (l.take (k + 1))) (lvH of' v (l.take (k + 1)))) := by
       show SpL _ _ _ _ _ _
       rw [HS1.out,HS2.out,← HSL.out]
       have h1 := HS.out
       rw [← HSL.out] at h1 hgr hloc hown
       exact SpL.put h1 hown hgr (hloc.imp id (fun e => by simpa using e))
      clear hown hgr hloc hO hcl hsz HS1 HS2 cx co c1 HS
      go_wp2
      go_roundw
      case rel => exact ⟨k + 1,by omega,by go_num,HS5⟩
      case measure => simp [intOf]; omega
     ·have hne : ((v : Int) == (c : Int)) = false := by simp; omega
      rw [if_neg e] at HS1 HS2
      generalize styH of' c (l.take k) = st at *
      generalize lvH of' c (l.take k) = lv at *
      have hO := World.ownsRow.alloc HS.out.o10 (.cells #[.int .i64 (x : Int)] 3)
      generalize hsl : lv.length = sl at *
      have HSL : Hid _ := hsl
      clear hsl
      go_wp2_with (at_builtin; refine qQ rfl _ _ rfl w1.heap.size _ sl lv rfl hO wr.heap.size x rfl hcl (by omega) hsz ?_)
      intro g5 c5 w5 hown hgr hloc
      have HS5 : Hid (SpL w1 w5 (.slice a9 st.length k9) (.slice (some ⟨g5,0,none⟩) (sl + 1) c5) (styH of' c (l.take (k + 1))) (lvH of' c (l.take (k + 1)))) := by
       show SpL _ _ _ _ _ _
       rw [HS1.out,HS2.out,← HSL.out]
       have h1 := HS.out
       rw [← HSL.out] at h1 hgr hloc hown
       exact (SpL.put h1.sym hown hgr (hloc.imp id (fun e => by simpa using e))).sym
      clear hown hgr hloc hO hcl hsz HS1 HS2 cx co c1 HS
      go_wp2
      go_roundw
      case rel => exact ⟨k + 1,by omega,by go_num,HS5⟩
      case measure => simp [intOf]; omega
    ·obtain rfl : k = m := by omega
     have htk : l.take k = l := by rw [← HLQ.out,List.take_length]
     rw [htk] at HS ⊢
     have hP1 := HP.out.up HS.out.bel
     have hgo := HP.out.lt D.go (.inr (.inl rfl))
     have hls9 : LsB wr D.go vq a9 (styH of' c l) := q2n HS.out.o9 hgo HP.out.ql
     have hls10 : LsB wr D.go vq a10 (lvH of' c l) := q2n HS.out.o10 hgo HP.out.ql
     have HSPI : Hid (spiH of' c ins = ins.set c (styH of' c l) ++ [lvH of' c l]) := by show _ = _; rw [spiH,HLL.out]
     have HF1 : Hid _ := HF.out.trans (Fr.ofBelow (F := PgF D (.slice (some ⟨gi,0,none⟩) n ic) vw vq) HS.out.bel)
     generalize styH of' c l = st at *
     generalize lvH of' c l = lv at *
     obtain ⟨g',ci',x0,e',cx0,fx0,hP2,hF2⟩ := hP1.setIn (c := c) (by rw [HN.out]; exact hc) k9 hls9
     rw [HN.out] at e'
     injection e' with e1 _ e3
     injection e1 with e1
     injection e1 with e1
     subst e1 e3
     obtain ⟨_,_,c2,_,_,_⟩ := hP1.c
     have hls2 := LsB.fr hP1 hls10 hF2
     have HP2 : Hid _ := hP2
     have HF2 : Hid _ := HF1.out.trans hF2
     have HLS2 : Hid (LsB (wr.setCell ⟨gi,c,none⟩ (.slice a9 st.length k9)) D.go vq a10 lv) := hls2
     have ixi := fun w' => qI gi n ic c hc w'
     obtain ⟨w2,hw2⟩ : ∃ w2,w2 = wr.setCell ⟨gi,c,none⟩ (.slice a9 st.length k9) := ⟨_,rfl⟩
     rw [← hw2] at HP2 HF2 HLS2
     have HW2 : Hid _ := hw2
     have hn2 : (ins.set c st).length = n := by rw [List.length_set,HN.out]
     obtain ⟨_,_,d2,_,_,_⟩ := HP2.out.c
     have hO := World.ownsRow.alloc HP2.out.fi (.cells #[.slice a10 lv.length k10] 23)
     rw [hn2] at hO
     have HN2 : Hid _ := hn2
     have hcl : (w2.alloc (.cells #[.slice a10 lv.length k10] 23)).cell? ⟨w2.heap.size,0,none⟩ = some (.slice a10 lv.length k10) := q6 (MapKept.heap_alloc w2 _).1 0
     clear hP1 hP2 hF2 hls9 hls10 hls2 hgo HS HF HF1 HP H0 HX HLS hw2 hn2
     generalize vs.set c (.slice a9 st.length k9) = vs2 at *
     go_wp2_with (first | (rw [← HW2.out]) | (at_builtin; refine q1p rfl _ _ rfl 0 _ n vs2 rfl hO w2.heap.size a10 lv.length k10 rfl hcl (by omega) (Nat.zero_le _) ?_))
     intro g5 c5 w5 hown hgr hloc
     rw [← HN2.out] at hown
     obtain ⟨hb5,hP5,hF5⟩ := HP2.out.addIn HLS2.out hown hgr (hloc.imp id (fun e => by simpa using e))
     rw [HN2.out,← HSPI.out] at hP5
     rw [HN2.out] at hF5
     have k2 : w5.cell? ⟨D.b,2,none⟩ = some (.slice (some ⟨gi,0,none⟩) n ic) := q6 hb5 2
     have z2 : w5.frozen? ⟨D.b,2,none⟩ = false := frozen_of_row w5 _ 2 _ _ hb5
     obtain ⟨w6,hw6⟩ : ∃ w6,w6 = w5.setCell ⟨D.b,2,none⟩ (.slice (some ⟨g5,0,none⟩) (n + 1) c5) := ⟨_,rfl⟩
     rw [← hw6] at hP5 hF5
     have HW6 : Hid _ := hw6
     have HF6 : Hid _ := HF2.out.trans hF5
     have HP6 : Hid _ := hP5
     obtain ⟨wa,wc,ewv⟩ := qe hP5.fw
     obtain ⟨_,_,_,d3,_,_⟩ := hP5.c
     have hO6 := World.ownsRow.alloc hP5.fw (.cells #[.bool false] 4)
     subst ewv
     have hcl6 : (w6.alloc (.cells #[.bool false] 4)).cell? ⟨w6.heap.size,0,none⟩ = some (.bool false) := q6 (MapKept.heap_alloc w6 _).1 0
     clear hown hgr hloc hb5 hP5 hF5 hO hcl HP2 HF2 HLS2 hw6 ixi c2 cx0 fx0 d2
     have hwn := HWL.out
     rw [hwn] at hO6 d3
     go_wp2_with (first | (rw [← HW6.out]) | (at_builtin; refine q5a rfl _ _ rfl 0 _ n ws rfl hO6 w6.heap.size false rfl hcl6 (by omega) (Nat.zero_le _) ?_))
     intro g7 c7 w7 hown hgr hloc
     rw [← hwn] at hown hgr hloc
     obtain ⟨hb7,hP7,hF7⟩ := HP6.out.addW (y := false) (by simpa using hown) hgr (hloc.imp id (fun e => by simpa using e))
     rw [hwn] at hP7 hF7 hb7
     have k3 : w7.cell? ⟨D.b,3,none⟩ = some (.slice wa n wc) := q6 hb7 3
     have z3 : w7.frozen? ⟨D.b,3,none⟩ = false := frozen_of_row w7 _ 3 _ _ hb7
     obtain ⟨w8,hw8⟩ : ∃ w8,w8 = w7.setCell ⟨D.b,3,none⟩ (.slice (some ⟨g7,0,none⟩) (n + 1) c7) := ⟨_,rfl⟩
     rw [← hw8] at hP7 hF7
     have HW8 : Hid _ := hw8
     have HF8 : Hid _ := HF6.out.trans (by rw [hwn]; exact hF7)
     have HP8 : Hid _ := hP7
     have ccw : w8.cell? ⟨g7,c,none⟩ = some (.bool (ws.getD c false)) := by
      obtain ⟨gw,cw,ew,ccw,_,_,_⟩ := hP7.setW (c := c) (by simp; omega) true
      injection ew with ew1 _ _
      injection ew1 with ew1
      injection ew1 with ew1
      subst ew1
      rw [q1d,if_neg (by omega)] at ccw
      exact ccw
     have d3' := hP7.c.2.2.2.1
     have ixw := fun w' => qt (P := Try.prog) (T := 22) Try.underlying22 q1n (a := some ⟨g7,0,none⟩) (cap := c7) (n := n + 1) (fun e => by cases e) c w' (by omega)
     simp only [adOf,q9,Nat.zero_add] at ixw
     have HFIN : Hid (∀ (ge : Bool) w',(ws.getD c false = true → ge = true) → PgR D w8 (.slice (some ⟨g5,0,none⟩) (n + 1) c5) (.slice (some ⟨g7,0,none⟩) (n + 1) c7) vq of' (spiH of' c ins) ((ws ++ [false]).set (if ge then n else c) true) (qu ++ [if ge then n else c]) w' → Z (.returned (.tuple #[])) w') := fun ge w' hge hR => by
      obtain ⟨vi',vw',vq',vs',h1,h2⟩ := hR
      refine HZ.out w' ge hge ⟨vi',vw',vq',vs',?_,HF8.out.trans h2⟩
      rw [swH,hwn]; exact h1
     have jn := q30 hP7 (c := n) (by simp; omega) hql
     have jc := q30 hP7 (c := c) (by simp; omega) hql
     clear hown hgr hloc hb7 hF7 hO6 hcl6 HP6 HF6 hw8 d3 k2 z2 hP7 HZ HF8 HP8 hwn
     generalize ws.getD c false = bw at *
     cases bw with
     | true =>
      go_wp2_with (rw [← HW8.out])
      refine jn.mono ?_
      rintro e w9 ⟨rfl,hR⟩
      have HE : Hid _ := HFIN.out true w9 (fun _ => rfl) hR
      clear hR HFIN jn jc
      go_wp2
      go_end0
      exact HE.out
     | false =>
      by_cases hle : lv.length ≤ st.length
      ·go_wp2_with (rw [← HW8.out])
       refine jn.mono ?_
       rintro e w9 ⟨rfl,hR⟩
       have HE : Hid _ := HFIN.out true w9 (fun _ => rfl) hR
       clear hR HFIN jn jc
       go_wp2
       go_end0
       exact HE.out
      ·go_wp2_with (rw [← HW8.out])
       refine jc.mono ?_
       rintro e w9 ⟨rfl,hR⟩
       have HE : Hid _ := HFIN.out false w9 (fun h => h) hR
       clear hR HFIN jn jc
       go_wp2
       go_end0
       exact HE.out
variable {D : PgD} {w : World} {vi vw vq : Value} {vs : List Value} {of : List Nat} {ins : List (List Nat)} {ws : List Bool} {qu : List Nat} {S K : Nat} {R : List (List Nat)} {bs : List Bool} {C : List Nat} {kl : Nat}
def mnL (of X : List Nat) (n : Nat) : List Int := (List.range n).map fun c => ((mnH of X c : Nat) : Int)
theorem q74 (of X : List Nat) (n : Nat) : (mnL of X n).length = n := by simp [mnL]
theorem q8c {of X : List Nat} {n c : Nat} (h : c < n) : (mnL of X n).getD c 0 = ((mnH of X c : Nat) : Int) := by
 rw [mnL,List.getD_eq_getElem?_getD,List.getElem?_map,List.getElem?_range h]; rfl
theorem qam (of : List Nat) (n : Nat) : mnL of [] n = List.replicate n 0 := by
 apply List.ext_getElem (by simp [mnL])
 intro i h1 h2
 simp [mnL,mnH]
theorem q9h {of X : List Nat} {n k : Nat} (hk : k < X.length) : (mnL of (X.take k) n).set (of.getD (X.getD k 0) 0) (((mnH of (X.take k) (of.getD (X.getD k 0) 0) : Nat) : Int) + 1) = mnL of (X.take (k + 1)) n := by
 have key : ∀ c,mnH of (X.take (k + 1)) c = mnH of (X.take k) c + if of.getD (X.getD k 0) 0 = c then 1 else 0 := fun c => by
  rw [qB hk,mnH,List.countP_append,mnH]
  congr 1
  rw [List.countP_cons,List.countP_nil]
  simp [-List.getD_eq_getElem?_getD]
 apply List.ext_getElem (by simp [mnL])
 intro i h1 h2
 rw [List.getElem_set]
 simp only [mnL,List.getElem_map,List.getElem_range,key]
 by_cases e : of.getD (X.getD k 0) 0 = i
 ·rw [if_pos e,if_pos e,e]; rfl
 ·rw [if_neg e,if_neg e]; rfl
def PtgL (D : PgD) (S K : Nat) (R : List (List Nat)) (bs : List Bool) (C : List Nat) (k : Nat) (of0 : List Nat) (ins0 : List (List Nat)) (qu0 X : List Nat) (c : Nat) (w0 : World) (vi vw vq : Value) (w' : World) : Prop := ∃ of ins ws qu,PgR D w0 vi vw vq of ins ws qu w' ∧ PartH S K R bs C k of0 ins0 qu0 X c of ins ws qu
theorem q2U (h : PgW D w vi vw vq vs of ins ws qu) (hop : HopH S K R bs C kl of ins ws qu) (hR : RowsP S K R) (hDS : D.S = S) (hS1 : S ≤ 1000) (hq0 : qu.length ≤ 50000) (a : Option Addr) (capX : Nat) (X : List Nat) (hX : LsB w D.go vq a X) (hXs : ∀ x ∈ X,x < S) (hXn : X.Nodup) (ha : ∀ s t,s < S → t < S → AlikeP K R bs s t → (s ∈ X ↔ t ∈ X)) :
  Calls Try.prog 56 #[.pointer (some ⟨D.b,0,none⟩),.slice a X.length capX] w fun e w' => e = .returned (.tuple #[]) ∧ PtgL D S K R bs C kl of ins qu X ins.length w vi vw vq w' := by
 obtain ⟨Z,eZ⟩ : ∃ Z : Ending → World → Prop,Z = fun e w' => e = .returned (.tuple #[]) ∧ PtgL D S K R bs C kl of ins qu X ins.length w vi vw vq w' := ⟨_,rfl⟩
 have HZ : Hid (∀ w',PtgL D S K R bs C kl of ins qu X ins.length w vi vw vq w' → Z (.returned (.tuple #[])) w') := fun w' h1 => by rw [eZ]; exact ⟨rfl,h1⟩
 rw [← eZ]
 clear eZ
 subst hDS
 have hXl : X.length ≤ D.S := qr hXn hXs
 have hfew := hop.prt.few
 obtain ⟨ia,ic,rfl⟩ := qe h.fi
 have c2 := h.c.2.2.1
 have H0 : Hid _ := h
 have HHOP : Hid _ := hop
 have HX : Hid (LsB w D.go vq a X) := hX
 have HXS : Hid _ := hXs
 have HXN : Hid _ := hXn
 have HA : Hid _ := ha
 have HRR : Hid _ := hR
 clear h hX hXs hXn hop ha hR
 have hmk := fun w => qT ins.length (ins.length : Int) rfl (by omega) w
 have HB0 : Hid (Below w.heap.size w (w.alloc (.cells ((List.replicate ins.length (0 : Int)).map (Value.int .i64)).toArray 3))) := q5 _ _
 have HI0 : Hid (IzB (w.alloc (.cells ((List.replicate ins.length (0 : Int)).map (Value.int .i64)).toArray 3)) w.heap.size (mnL of [] ins.length)) := by
  show IzB _ _ _
  rw [qam]; exact (MapKept.heap_alloc w _).1
 rw [show ((List.replicate ins.length (0 : Int)).map (Value.int .i64)).toArray = Array.replicate ins.length (.int .i64 0) by simp] at HB0 HI0
 generalize hn : ins.length = n at *
 have HN : Hid _ := hn
 clear hn
 generalize hXX : X.length = L at *
 have HXX : Hid _ := hXX
 clear hXX
 go_enter Try.func56,Try.ntmps56
 go_wp2
 clear c2 hmk
 go_loopw [17] (fun i wr => ∃ k : Nat,k ≤ L ∧ i = .int .i64 (k : Int) ∧ Hid (IzB wr w.heap.size (mnL of (X.take k) n)) ∧ Hid (Below w.heap.size w wr)) (fun i _ => L - (intOf i).toNat)
 case atStart => exact ⟨0,Nat.zero_le _,rfl,HI0,HB0⟩
 case round =>
  clear HI0 HB0
  obtain ⟨k,hk,rfl,HI,HB⟩ := hrel
  by_cases hlt : k < L
  ·have hk2 : k < X.length := by rw [HXX.out]; exact hlt
   obtain ⟨gx,rfl,cx⟩ := LsB.cell HX.out (i := k) hk2
   have cx := q8 cx HB.out
   have ixx := fun w' => qg gx L capX k hlt w'
   have hxm : X.getD k 0 ∈ X := by rw [qd hk2]; exact List.getElem_mem _
   have hxs := HXS.out _ hxm
   have hvl := HHOP.out.prt.lt _ hxs
   rw [HN.out] at hvl
   have HNX : Hid _ := q9h (of := of) (n := n) hk2
   obtain ⟨co,_⟩ := (H0.out.up HB.out).ofc hxs
   have c1 := (H0.out.up HB.out).c.2.1
   clear hxm
   generalize X.getD k 0 = x at *
   have ixo := fun w' => qg D.go D.S D.S x hxs w'
   generalize of.getD x 0 = v at *
   have ixm := fun w' => qg w.heap.size n n v hvl w'
   have cm := HI.out.cell (i := v) (by rw [q74]; exact hvl)
   rw [q8c hvl] at cm
   have fm := HI.out.fz v
   have hmb : mnH of (X.take k) v ≤ 1000 := by
    have h1 : mnH of (X.take k) v ≤ (X.take k).length := List.countP_le_length
    rw [List.length_take] at h1; omega
   have HI2 : Hid (IzB (wr.setCell ⟨w.heap.size,v,none⟩ (.int .i64 (((mnH of (X.take k) v : Nat) : Int) + 1))) w.heap.size (mnL of (X.take (k + 1)) n)) := by
    show IzB _ _ _
    rw [← HNX.out]; exact HI.out.set _ _
   have HB2 : Hid (Below w.heap.size w (wr.setCell ⟨w.heap.size,v,none⟩ (.int .i64 (((mnH of (X.take k) v : Nat) : Int) + 1)))) := HB.out.setCell (Nat.le_refl _) _
   clear HI HB HNX
   generalize mnH of (X.take k) v = q at *
   go_wp2
   go_roundw
   case rel => exact ⟨k + 1,by omega,by go_num,HI2,HB2⟩
   case measure => simp [intOf]; omega
  ·obtain rfl : k = L := by omega
   have htk : X.take k = X := by rw [← HXX.out,List.take_length]
   rw [htk] at HI
   obtain ⟨w1,hw1⟩ : ∃ w1,w1 = wr := ⟨_,rfl⟩
   subst hw1
   clear htk
   have HP1 : Hid _ := H0.out.up HB.out
   have HX1 : Hid (LsB w1 D.go vq a X) := LsB.fr H0.out HX.out (Fr.ofBelow (F := PgF D (.slice ia n ic) vw vq) HB.out)
   have HGM : Hid (¬ PgF D (.slice ia n ic) vw vq w.heap.size) := fun e => by have := H0.out.lt _ e; omega
   have HPT0 : Hid _ := q6F HHOP.out X
   go_wp2
   go_loopw [36] (fun i wr => ∃ (c : Nat) (of' : List Nat) (ins' : List (List Nat)) (ws' : List Bool) (qu' : List Nat) (vi' vw' vq' : Value) (vs' : List Value),c ≤ n ∧ i = .int .i64 (c : Int) ∧ Hid (PgW D wr vi' vw' vq' vs' of' ins' ws' qu') ∧ Hid (Fr w1 wr (PgF D (.slice ia n ic) vw vq) (PgF D vi' vw' vq')) ∧ Hid (PartH D.S K R bs C kl of ins qu X c of' ins' ws' qu')) (fun i _ => n - (intOf i).toNat)
   case atStart => exact ⟨0,of,ins,ws,qu,_,_,_,_,Nat.zero_le _,rfl,HP1,Fr.ofBelow (Below.refl _ _),HPT0⟩
   case round =>
    clear HPT0
    obtain ⟨c,of',ins',ws',qu',vi',vw',vq',vs',hc,rfl,HP,HF,HPT⟩ := hrel
    have HIM : Hid (IzB wr w.heap.size (mnL of X n)) := HI.out.fr HF.out HGM.out
    by_cases hlt : c < n
    ·have cm := HIM.out.cell (i := c) (by rw [q74]; exact hlt)
     rw [q8c hlt] at cm
     have ixm := fun w' => qg w.heap.size n n c hlt w'
     have hcl : c < ins'.length := by have := HPT.out.le; rw [HN.out] at this; omega
     obtain ⟨gi,ci,la,lc,ei,ci2,_⟩ := HP.out.inc hcl
     subst ei
     have c2 := HP.out.c.2.2.1
     have ixi := fun w' => qI gi ins'.length ci c hcl w'
     have hfew' := HPT.out.hop.prt.few
     have hqq : qu'.length ≤ 100000 := by have := HPT.out.cnt; omega
     have hlnd : (ins'.getD c []).length ≤ D.S := qr (HPT.out.hop.prt.nd c hcl) (fun s hs => ((HPT.out.hop.prt.mem c s hcl).1 hs).1)
     have js := q5r HP.out c hcl HPT.out.hop.wl a capX X (LsB.fr HP1.out HX1.out HF.out) HXS.out (by rw [HXX.out]; omega) (by omega) hqq (fun s hs => ((HPT.out.hop.prt.mem c s hcl).1 hs).1) (by omega)
     have HSK : Hid (¬ (0 < mnH of X c ∧ mnH of X c < (ins'.getD c []).length) → PartH D.S K R bs C kl of ins qu X (c + 1) of' ins' ws' qu') := fun hno => HPT.out.skip HHOP.out.prt HXS.out HXN.out (by rw [HN.out]; exact hlt) hno
     have HSP : Hid (0 < mnH of X c → mnH of X c < (ins'.getD c []).length → ∀ ge : Bool,(ws'.getD c false = true → ge = true) → _) := fun h1 h2 ge hge => HPT.out.split HHOP.out.prt HRR.out HXS.out HXN.out HA.out (by rw [HN.out]; exact hlt) h1 h2 hge
     rw [HXX.out] at js
     clear HPT
     generalize mnH of X c = q at *
     generalize hll : (ins'.getD c []).length = m at *
     have HLM : Hid _ := hll
     clear hll
     by_cases hq : 0 < q
     ·by_cases hqm : q < m
      ·have hS2 := HSP.out hq hqm
       have HS2 : Hid _ := hS2
       clear hS2 HSP HSK
       go_wp2_with fail
       refine js.mono ?_
       rintro e w5 ⟨rfl,ge,hge,vi5,vw5,vq5,vs5,hP5,hF5⟩
       have HP5 : Hid _ := hP5
       have HF5 : Hid _ := HF.out.trans hF5
       have HPT5 : Hid _ := HS2.out ge hge
       clear hP5 hF5 HS2 js HF HP cm ci2 c2 ixi ixm
       go_wp2
       go_roundw
       case rel => exact ⟨c + 1,_,_,_,_,_,_,_,_,by omega,by go_num,HP5,HF5,HPT5⟩
       case measure => simp [intOf]; omega
      ·have HPT5 : Hid _ := HSK.out (by omega)
       clear HSP HSK js
       go_wp2
       go_roundw
       case rel => exact ⟨c + 1,_,_,_,_,_,_,_,_,by omega,by go_num,HP,HF,HPT5⟩
       case measure => simp [intOf]; omega
     ·have HPT5 : Hid _ := HSK.out (by omega)
      clear HSP HSK js
      go_wp2
      go_roundw
      case rel => exact ⟨c + 1,_,_,_,_,_,_,_,_,by omega,by go_num,HP,HF,HPT5⟩
      case measure => simp [intOf]; omega
    ·obtain rfl : c = n := by omega
     have HE : Hid _ := HZ.out wr ⟨of',ins',ws',qu',⟨_,_,_,_,HP.out,(Fr.ofBelow HB.out).trans HF.out⟩,HPT.out⟩
     clear HZ HP HF HPT
     go_wp2
     go_end0
     exact HE.out
theorem q8m {w w' : World} {base e s n : Nat} {v : Value} {vs : List Value} (h : w.ownsRow base e s v n vs) (hb : ∀ g,v.ownBlock = some g → w'.heap[g]? = w.heap[g]?) : w'.ownsRow base e s v n vs := qb h hb
structure FbA (wr : World) (gf : Nat) (vs : List Value) (F : List (List Nat)) : Prop where
 blk : wr.heap[gf]? = some (.cells vs.toArray 118 (0,0))
 len : vs.length = F.length
 own : ∀ (k : Nat) (v : Value),vs[k]? = some v → wr.ownsRow (gf + 1) 3 1 v (F.getD k []).length (izV (F.getD k []))
 ne : ∀ (k k' : Nat) (v v' : Value) (b : Nat),k ≠ k' → vs[k]? = some v → vs[k']? = some v' → v.ownBlock = some b → v'.ownBlock ≠ some b
theorem FbA.lt {wr : World} {gf : Nat} {vs : List Value} {F : List (List Nat)} (h : FbA wr gf vs F) : gf < wr.heap.size := (Array.getElem?_eq_some_iff.1 h.blk).1
theorem FbA.up {wr w' : World} {gf : Nat} {vs : List Value} {F : List (List Nat)} (h : FbA wr gf vs F) (hb : Below wr.heap.size wr w') : FbA w' gf vs F := ⟨(hb.block gf h.lt).trans h.blk,h.len,fun k v hv => qC (h.own k v hv) hb,h.ne⟩
theorem FbA.at {wr : World} {gf : Nat} {vs : List Value} {F : List (List Nat)} (h : FbA wr gf vs F) {t : Nat} (ht : t < F.length) : ∃ a c,vs[t]? = some (.slice a (F.getD t []).length c) ∧ wr.cell? ⟨gf,t,none⟩ = some (.slice a (F.getD t []).length c) ∧ wr.ownsRow (gf + 1) 3 1 (.slice a (F.getD t []).length c) (F.getD t []).length (izV (F.getD t [])) ∧ wr.frozen? ⟨gf,t,none⟩ = false := by
 have hl := h.len
 have hv : vs[t]? = some vs[t] := List.getElem?_eq_getElem (by omega)
 obtain ⟨a,c,e⟩ := qe (h.own t _ hv)
 have ho := h.own t _ hv
 rw [e] at hv ho
 refine ⟨a,c,hv,?_,ho,frozen_of_row wr gf t _ _ h.blk⟩
 rw [q6 h.blk]
 simpa using hv
theorem FbA.put {wr w7 : World} {gf : Nat} {vs : List Value} {F : List (List Nat)} (h : FbA wr gf vs F) {t s : Nat} (ht : t < F.length) {v : Value} (hv : vs[t]? = some v) {o : Obj} {g c : Nat}
  (hq : w7.ownsRow (gf + 1) 3 1 (.slice (some ⟨g,0,none⟩) ((F.getD t []).length + 1) c) ((F.getD t []).length + 1) (izV (F.getD t [] ++ [s]))) (hg : (wr.alloc o).drew.grownBy w7 v.ownBlock) (hl : v.ownBlock = some g ∨ g = (wr.alloc o).drew.heap.size) :
  w7.heap[gf]? = some (.cells vs.toArray 118 (0,0)) ∧ FbA (w7.setCell ⟨gf,t,none⟩ (.slice (some ⟨g,0,none⟩) ((F.getD t []).length + 1) c)) gf (vs.set t (.slice (some ⟨g,0,none⟩) ((F.getD t []).length + 1) c)) (F.set t (F.getD t [] ++ [s])) := by
 have hlen := h.len
 have hgf := h.lt
 have hsz : (wr.alloc o).drew.heap.size = wr.heap.size + 1 := by simp
 have hvo := h.own t v hv
 have hge := qm hvo
 have keep : ∀ b,b < wr.heap.size → v.ownBlock ≠ some b → w7.heap[b]? = wr.heap[b]? := fun b hb hne => by
  rw [hg.block b (by omega) (fun e => hne e.symm)]
  exact (q5 wr o).block b hb
 have hg1 : gf + 1 ≤ g := by
  rcases hl with hl | hl
  ·exact hge g hl
  ·omega
 have hb7 : w7.heap[gf]? = some (.cells vs.toArray 118 (0,0)) := (keep gf hgf (fun e => by have := hge gf e; omega)).trans h.blk
 refine ⟨hb7,?_,by simp [hlen],fun k u hu => ?_,fun k k' u u' b hkk hu hu' hb => ?_⟩
 ·have := heap_setCell_same w7 gf t _ _ (.slice (some ⟨g,0,none⟩) ((F.getD t []).length + 1) c) hb7
  rw [this]
  simp
 ·rw [List.getElem?_set] at hu
  by_cases e : t = k
  ·subst e
   rw [if_pos rfl,if_pos (by omega)] at hu
   injection hu with hu
   subst hu
   rw [qs _ _ _ _ _ ht,if_pos rfl,List.length_append,List.length_singleton]
   exact q1W hq (by dsimp only; omega) _
  ·rw [if_neg e] at hu
   rw [qs _ _ _ _ _ ht,if_neg (fun h => e h.symm)]
   have ho := h.own k u hu
   have hgk := qm ho
   refine q1W (q8m ho (fun q hq1 => keep q (ho.lt q hq1).2 (h.ne k t u v q (Ne.symm e) hu hv hq1))) (by dsimp only; omega) _
 ·have hold : ∀ {k : Nat} {u : Value} {b : Nat},t ≠ k → vs[k]? = some u → u.ownBlock = some b → b < wr.heap.size := fun {k u b} _ hu hb => ((h.own k u hu).lt b hb).2
  rw [List.getElem?_set] at hu hu'
  by_cases e : t = k
  ·subst e
   rw [if_pos rfl,if_pos (by omega)] at hu
   injection hu with hu
   subst hu
   have e' : t ≠ k' := hkk
   rw [if_neg e'] at hu'
   injection hb with hb
   dsimp only at hb
   subst hb
   intro hb'
   rcases hl with hl | hl
   ·exact h.ne t k' v u' g hkk hv hu' hl hb'
   ·have := hold e' hu' hb'; omega
  ·rw [if_neg e] at hu
   by_cases e' : t = k'
   ·subst e'
    rw [if_pos rfl,if_pos (by omega)] at hu'
    injection hu' with hu'
    subst hu'
    intro hb'
    injection hb' with hb'
    dsimp only at hb'
    subst hb'
    rcases hl with hl | hl
    ·exact h.ne t k v u g (Ne.symm hkk) hv hu hl hb
    ·have := hold e hu hb; omega
   ·rw [if_neg e'] at hu'
    exact h.ne k k' u u' b hkk hu hu' hb
theorem qa4 (w : World) : FbA (w.alloc (.cells (List.replicate 256 (Value.slice none 0 0)).toArray 118)) w.heap.size (List.replicate 256 (Value.slice none 0 0)) (List.replicate 256 []) := by
 refine ⟨(MapKept.heap_alloc w _).1,by rw [List.length_replicate,List.length_replicate],fun k v hv => ?_,fun k k' v v' b _ hv _ hb => ?_⟩
 ·rw [List.getElem?_replicate] at hv
  split at hv
  ·injection hv with hv
   subst hv
   have e : (List.replicate 256 ([] : List Nat)).getD k [] = [] := by rw [List.getD_eq_getElem?_getD,List.getElem?_replicate]; split <;> rfl
   rw [e]
   exact ⟨rfl,.inl ⟨rfl,rfl⟩⟩
  ·cases hv
 ·rw [List.getElem?_replicate] at hv
  split at hv
  ·injection hv with hv
   subst hv
   cases hb
  ·cases hv
theorem q3J : (Try.prog.info? 118).map (fun i => (i.zero,i.size)) = some (some (.agg (Array.replicate 256 (.slice none 0 0))),256) := by kernel_rfl
theorem q7j : (Try.prog.info? 118).map (·.size) = some 256 := (zero_of_info q3J).2
theorem q7k (w : World) : (zeroValue 118).run Try.prog w = .ok (.agg (Array.replicate 256 (.slice none 0 0))) w := (zero_of_info q3J).1 w
theorem q7Q (g x : Nat) (hx : x < 256) (w : World) : (Instr.indexAt 118 (.pointer (some ⟨g,0,none⟩)) (.int .u8 (x : Int))).run Try.prog w = .ok (.pointer (some ⟨g,x,none⟩)) w := by
 simp [Instr.indexAt,run_underlying Try.underlying118,asIntOf,q15 (show (Try.prog.info? 23).map (·.size) = some 1 by kernel_rfl),hx,Result.andThen,go_sem,q9]
theorem q7u : (Try.prog.info? 93).map (·.size) = some 2 := by kernel_rfl
theorem q7T (g n c i : Nat) (hi : i < n) (w : World) : (Instr.indexAt 91 (.slice (some ⟨g,0,none⟩) n c) (.int .i64 (i : Int))).run Try.prog w = .ok (.pointer (some ⟨g,2 * i,none⟩)) w := by
 have := qab (P := Try.prog) (T := 91) Try.underlying91 q7u (g := g) (cap := c) (n := n) i w hi
 simpa [Nat.mul_comm] using this
theorem q7t : (Try.prog.info? 91).map (·.size) = some 1 := by kernel_rfl
theorem q4F (g n c i : Nat) (hi : i < n) (w : World) : (Instr.indexAt 62 (.slice (some ⟨g,0,none⟩) n c) (.int .i64 (i : Int))).run Try.prog w = .ok (.pointer (some ⟨g,i,none⟩)) w := by
 have := qt (P := Try.prog) (T := 62) Try.underlying62 q7t (a := some ⟨g,0,none⟩) (cap := c) (n := n) (fun e => by cases e) i w hi
 simpa [adOf,q9] using this
theorem BwM.at {w : World} {g S : Nat} {B : List (List (Nat × Nat))} (h : BwM w g S B) {s : Nat} (hs : s < S) : ∃ a cap,w.cell? ⟨g,s,none⟩ = some (.slice a (B.getD s []).length cap) ∧ ∀ (k : Nat) (x : Nat × Nat),(B.getD s [])[k]? = some x → ∃ gi,a = some ⟨gi,0,none⟩ ∧ w.cell? ⟨gi,2 * k,none⟩ = some (.int .i32 (x.1 : Int)) ∧ w.cell? ⟨gi,2 * k + 1,none⟩ = some (.int .u8 (x.2 : Int)) := by
 obtain ⟨cur,h1,h2⟩ := h
 obtain ⟨a,cap,h3,h4⟩ := h2 s hs
 refine ⟨a,cap,by rw [q6 h1]; exact h3,fun k x hx => ?_⟩
 have hk := (List.getElem?_eq_some_iff.1 hx).1
 obtain ⟨gi,cu,h5,h6,h7⟩ := h4 (by omega)
 obtain ⟨h8,h9⟩ := h7 k x hx
 exact ⟨gi,h5,by rw [q6 h6]; exact h8,by rw [q6 h6]; exact h9⟩
theorem q7w {w : World} {o : Oper} {a : Act} {K : Act → World → Prop} {Q : Exit → Act → World → Prop} (s x : Operand)
  (ho : o.op = .call { callee := .builtin .append,args := #[s,x],argTypes := #[23,23] }) (base : Nat)
  (v : Value) (n : Nat) (N : List Nat) (y g' : Nat) (hs : a.eval s = v) (hx : a.eval x = .slice (some ⟨g',0,none⟩) 1 1) (hown : w.ownsRow base 3 1 v n (izV N)) (hB : w.cell? ⟨g',0,none⟩ = some (.int .i64 (y : Int))) (hn : n ≤ 1000000) (hbase : base ≤ w.heap.size)
  (h : ∀ g cap w',w'.ownsRow base 3 1 (.slice (some ⟨g,0,none⟩) (n + 1) cap) (n + 1) (izV (N ++ [y])) → w.grownBy w' v.ownBlock → (v.ownBlock = some g ∨ g = w.heap.size) → K (a.put o.dst (.slice (some ⟨g,0,none⟩) (n + 1) cap)) w') : o.wp Try.prog a w K Q := by
 have hI : (Try.prog.info? 3).map (fun i => (i.zero,i.size,i.bytes)) = some (some (.int .i64 0),1,8) := by kernel_rfl
 obtain ⟨i,hi,hz0,hz1,hz2⟩ := info_parts hI
 refine wp_append_lies w s x 23 ho base 3 i _ 1 8 Try.underlying23 hi hz0 hz1 hz2 rfl (by decide) v n _ hs hown ⟨g',0,none⟩ 1 1 [.int .i64 (y : Int)] hx rfl ?_ (fun u hu => by simp at hu; subst hu; rfl) (by decide) (by unfold maxLen; omega) (by omega) hbase _ rfl ?_
 ·intro j u hj
  match j with
  | 0 => simp at hj; rw [← hj,q9]; exact hB
  | j + 1 => simp at hj
 ·intro g cap w' h1 h2 h3 _
  exact h g cap w' (by rw [izV,List.map_append,List.map_append]; exact h1) h2 h3
theorem q2Z {w : World} {ops : Array Oper} {o : Oper} {a : Act} {K : Act → World → Prop} {Q : Exit → Act → World → Prop} {E : Prop} (hw : Region.wanted o (yielded ops a.tmps) = true) (s x : Operand)
  (ho : o.op = .call { callee := .builtin .append,args := #[s,x],argTypes := #[23,23] }) (base : Nat)
  (v : Value) (n : Nat) (N : List Nat) (y g' : Nat) (hs : a.eval s = v) (hx : a.eval x = .slice (some ⟨g',0,none⟩) 1 1) (hown : w.ownsRow base 3 1 v n (izV N)) (hB : w.cell? ⟨g',0,none⟩ = some (.int .i64 (y : Int))) (hn : n ≤ 1000000) (hbase : base ≤ w.heap.size)
  (h : ∀ g cap w',w'.ownsRow base 3 1 (.slice (some ⟨g,0,none⟩) (n + 1) cap) (n + 1) (izV (N ++ [y])) → w.grownBy w' v.ownBlock → (v.ownBlock = some g ∨ g = w.heap.size) → K (a.put o.dst (.slice (some ⟨g,0,none⟩) (n + 1) cap)) w') :
  if Region.wanted o (yielded ops a.tmps) = true then Oper.wp Try.prog o a w K Q else E := by
 rw [if_pos hw]
 exact q7w s x ho base v n N y g' hs hx hown hB hn hbase h
variable {D : PgD} {w : World} {vi vw vq : Value} {vs : List Value} {of : List Nat} {ins : List (List Nat)} {ws : List Bool} {qu : List Nat} {S K : Nat} {R : List (List Nat)} {bs : List Bool} {C : List Nat}
def ByL (D : PgD) (S K : Nat) (R : List (List Nat)) (bs : List Bool) (C : List Nat) (k : Nat) (of0 : List Nat) (ins0 : List (List Nat)) (qu0 : List Nat) (w0 : World) (vi vw vq : Value) (w' : World) : Prop :=
 ∃ of ins ws qu,PgR D w0 vi vw vq of ins ws qu w' ∧ HopH S K R bs C k of ins ws qu ∧ (∀ s t,s < S → t < S → of.getD s 0 = of.getD t 0 → of0.getD s 0 = of0.getD t 0) ∧ qu.length + ins0.length = qu0.length + ins.length ∧ ins0.length ≤ ins.length
def wyTo (B : List (List (Nat × Nat))) (C : List Nat) (k j : Nat) : List (Nat × Nat) := ((C.take k).flatMap fun s => B.getD s []) ++ (B.getD (C.getD k 0) []).take j
theorem q8H (B : List (List (Nat × Nat))) (C : List Nat) : wyTo B C 0 0 = [] := by simp [wyTo]
theorem q8G (B : List (List (Nat × Nat))) (C : List Nat) {k j : Nat} {x : Nat × Nat} (hx : (B.getD (C.getD k 0) [])[j]? = some x) : wyTo B C k (j + 1) = wyTo B C k j ++ [x] := by
 unfold wyTo
 rw [List.take_add_one,hx,List.append_assoc]; rfl
theorem q9T (B : List (List (Nat × Nat))) (C : List Nat) {k : Nat} (hk : k < C.length) : wyTo B C k (B.getD (C.getD k 0) []).length = wyTo B C (k + 1) 0 := by
 unfold wyTo
 rw [List.take_length,qB hk,List.flatMap_append]
 simp [-List.getD_eq_getElem?_getD]
theorem q9R (B : List (List (Nat × Nat))) (C : List Nat) : wyTo B C C.length 0 = C.flatMap fun s => B.getD s [] := by simp [wyTo]
theorem q9S (B : List (List (Nat × Nat))) (C : List Nat) {k j : Nat} (hk : k < C.length) : wyTo B C k j <+: C.flatMap fun s => B.getD s [] := by
 have e : C = C.take k ++ C.getD k 0 :: C.drop (k + 1) := by
  rw [qd hk,← List.drop_eq_getElem_cons hk,List.take_append_drop]
 have h2 : (C.flatMap fun s => B.getD s []) = ((C.take k).flatMap fun s => B.getD s []) ++ (B.getD (C.getD k 0) [] ++ (C.drop (k + 1)).flatMap fun s => B.getD s []) := by
  conv => lhs; rw [e]
  rw [List.flatMap_append,List.flatMap_cons]
 rw [h2,wyTo]
 exact (List.prefix_append_right_inj _).2 ((List.take_prefix _ _).trans (List.prefix_append _ _))
theorem qa6 {Y Y' : List (Nat × Nat)} (h : Y <+: Y') (l : Nat) : (frH Y l).length ≤ (frH Y' l).length := by
 obtain ⟨X,rfl⟩ := h
 simp [frH]
theorem qa5 (h : BkOk S K R D.B) (hC : ∀ s ∈ C,s < S) (hn : C.Nodup) {k j : Nat} (hk : k < C.length) (l : Nat) : (frH (wyTo D.B C k j) l).length ≤ S :=
 Nat.le_trans (qa6 (q9S D.B C hk) l) (qr (q4V h hC hn l) (fun _ hx => ((q6U h hC).1 hx).1))
theorem AlikeP.goB {s t l : Nat} (h : AlikeP K R bs s t) (hl : l < K) : AlikeP K R bs (trP R s l) (trP R t l) := fun u hu => by
 have := h (l :: u) (fun x hx => by
  rcases List.mem_cons.1 hx with rfl | hx
  ·exact hl
  ·exact hu x hx)
 exact this
theorem q7R (arr : Array Value) (x : Nat) (hx : x < 256) (y : Value) (hy : arr[x]? = some y) (w : World) : (Instr.index 118 (.agg arr) (.int .i64 (x : Int))).run Try.prog w = .ok y w := by
 have hsz := q15 (show (Try.prog.info? 23).map (·.size) = some 1 by kernel_rfl) w
 simp [Instr.index,run_underlying Try.underlying118,asIntOf,hsz,hx,Result.andThen,go_sem,part,hy]
theorem q7h (h : PgW D w vi vw vq vs of ins ws qu) (hop : HopH S K R bs C 0 of ins ws qu) (hR : RowsP S K R) (hBk : BkOk S K R D.B) (hDS : D.S = S) (hS1 : S ≤ 256) (hK : K ≤ 256) (hq0 : qu.length ≤ 2000) (a : Option Addr) (capC : Nat) (hC : LsB w D.go vq a C) (hCs : ∀ x ∈ C,x < S) (hCn : C.Nodup) (ha : ∀ s t,s < S → t < S → AlikeP K R bs s t → (s ∈ C ↔ t ∈ C)) (hBs : ∀ s,s < S → (D.B.getD s []).length ≤ 100000) :
  Calls Try.prog 57 #[.pointer (some ⟨D.b,0,none⟩),.slice a C.length capC] w fun e w' => e = .returned (.tuple #[]) ∧ ByL D S K R bs C 256 of ins qu w vi vw vq w' := by
 obtain ⟨Z,eZ⟩ : ∃ Z : Ending → World → Prop,Z = fun e w' => e = .returned (.tuple #[]) ∧ ByL D S K R bs C 256 of ins qu w vi vw vq w' := ⟨_,rfl⟩
 have HZ : Hid (∀ w',ByL D S K R bs C 256 of ins qu w vi vw vq w' → Z (.returned (.tuple #[])) w') := fun w' h1 => by rw [eZ]; exact ⟨rfl,h1⟩
 rw [← eZ]
 clear eZ
 subst hDS
 have hLb : C.length ≤ D.S := qr hCn hCs
 have H0 : Hid _ := h
 have HHOP : Hid _ := hop
 have HC : Hid (LsB w D.go vq a C) := hC
 have HCS : Hid _ := hCs
 have HCN : Hid _ := hCn
 have HA : Hid _ := ha
 have HRR : Hid _ := hR
 have HBK : Hid _ := hBk
 have HBS : Hid _ := hBs
 have hz := fun w => q7k w
 have HB0 : Hid (Below w.heap.size w (w.alloc (.cells (Array.replicate 256 (.slice none 0 0)) 118 (0,0)))) := q5 _ _
 have HF0 : Hid (FbA (w.alloc (.cells (Array.replicate 256 (.slice none 0 0)) 118 (0,0))) w.heap.size (List.replicate 256 (Value.slice none 0 0)) (frL (wyTo D.B C 0 0))) := by
  show FbA _ _ _ _
  rw [q8H,qa7]
  have := qa4 w
  rw [List.toArray_replicate] at this
  exact this
 clear h hC hCs hCn hop ha hR hBk hBs
 generalize hXX : C.length = L at *
 have HXX : Hid _ := hXX
 clear hXX
 generalize hZZ : Array.replicate 256 (Value.slice none 0 0) = ZA at *
 clear hZZ
 go_enter Try.func57,Try.ntmps57
 go_wp2
 clear hz
 go_loopw [13] (fun i wr => ∃ (k : Nat) (vf : List Value),k ≤ L ∧ i = .int .i64 (k : Int) ∧ Hid (FbA wr w.heap.size vf (frL (wyTo D.B C k 0))) ∧ Hid (Below w.heap.size w wr)) (fun i _ => L - (intOf i).toNat)
 case atStart => exact ⟨0,_,Nat.zero_le _,rfl,HF0,HB0⟩
 case round =>
  clear HF0 HB0
  obtain ⟨k,vf,hk,rfl,HF,HB⟩ := hrel
  by_cases hlt : k < L
  ·have hk2 : k < C.length := by rw [HXX.out]; exact hlt
   obtain ⟨gx,rfl,cx⟩ := LsB.cell HC.out (i := k) hk2
   have cx := q8 cx HB.out
   have ixx := fun w' => qg gx L capC k hlt w'
   have hxm : C.getD k 0 ∈ C := by rw [qd hk2]; exact List.getElem_mem _
   have hss := HCS.out _ hxm
   have HWN : Hid (∀ j x,(D.B.getD (C.getD k 0) [])[j]? = some x → wyTo D.B C k (j + 1) = wyTo D.B C k j ++ [x]) := fun j x hx => q8G D.B C hx
   have HWR : Hid _ := q9T D.B C hk2
   clear hxm hk2
   generalize C.getD k 0 = s at *
   have c0 := (H0.out.up HB.out).c.1
   have ixs := fun w' => q4F D.gB D.S D.cB s hss w'
   obtain ⟨ba,bc,cb,hba⟩ := H0.out.bk.at hss
   have cb := q8 cb HB.out
   have HBA : Hid (∀ (j : Nat) (x : Nat × Nat),(D.B.getD s [])[j]? = some x → ∃ gi,ba = some ⟨gi,0,none⟩ ∧ w.cell? ⟨gi,2 * j,none⟩ = some (.int .i32 (x.1 : Int)) ∧ w.cell? ⟨gi,2 * j + 1,none⟩ = some (.int .u8 (x.2 : Int))) := hba
   have hbs := HBS.out s hss
   clear hba
   generalize hm : (D.B.getD s []).length = m at *
   have HM : Hid _ := hm
   clear hm
   go_wp2
   clear cx c0 cb ixx ixs
   go_loopw [25] (fun i wr => ∃ (j : Nat) (vf : List Value),j ≤ m ∧ i = .int .i64 (j : Int) ∧ Hid (FbA wr w.heap.size vf (frL (wyTo D.B C k j))) ∧ Hid (Below w.heap.size w wr)) (fun i _ => m - (intOf i).toNat)
   case atStart => exact ⟨0,vf,Nat.zero_le _,rfl,HF,HB⟩
   case round =>
    clear HF HB
    obtain ⟨j,vf,hj,rfl,HF,HB⟩ := hrel
    by_cases hjm : j < m
    ·have hjl : j < (D.B.getD s []).length := by rw [HM.out]; exact hjm
     obtain ⟨x,hx⟩ : ∃ x,(D.B.getD s [])[j]? = some x := ⟨_,List.getElem?_eq_getElem hjl⟩
     obtain ⟨gi,rfl,cy0,cy1⟩ := HBA.out j x hx
     have cy0 := q8 cy0 HB.out
     have cy1 := q8 cy1 HB.out
     have hxb := (HBK.out.mem s x.1 x.2 hss).1 (List.mem_of_getElem? hx)
     have HW : Hid _ := HWN.out j x hx
     have ixy := fun w' => q7T gi m bc j hjm w'
     obtain ⟨x1,x2⟩ := x
     dsimp only at cy0 cy1 hxb HW
     have hx1 : x1 < 256 := by omega
     have hx2 : x2 < 256 := by omega
     have hb1 := q5 wr (.cells #[.int .i32 (x1 : Int),.int .u8 (x2 : Int)] 93 (0,0))
     have hF1 := HF.out.up hb1
     obtain ⟨fa,fc,hvt,cft,hot,fft⟩ := hF1.at (t := x2) (by rw [q37]; exact hx2)
     have hbx := (MapKept.heap_alloc wr (.cells #[.int .i32 (x1 : Int),.int .u8 (x2 : Int)] 93 (0,0))).1
     have b0 : (wr.alloc (.cells #[.int .i32 (x1 : Int),.int .u8 (x2 : Int)] 93 (0,0))).cell? ⟨wr.heap.size,0,none⟩ = some (.int .i32 (x1 : Int)) := q6 hbx 0
     have b1 : (wr.alloc (.cells #[.int .i32 (x1 : Int),.int .u8 (x2 : Int)] 93 (0,0))).cell? ⟨wr.heap.size,1,none⟩ = some (.int .u8 (x2 : Int)) := q6 hbx 1
     have ixf := fun w' => q7Q w.heap.size x2 hx2 w'
     have hw32 : IntKind.i64.wrap (x1 : Int) = (x1 : Int) := by rw [IntKind.wrap_i64]; omega
     generalize hW1 : wr.alloc (.cells #[.int .i32 (x1 : Int),.int .u8 (x2 : Int)] 93 (0,0)) = W1 at *
     have HW1 : Hid _ := hW1
     have hs1 : W1.heap.size = wr.heap.size + 1 := by rw [← hW1]; simp
     have HBW : Hid _ := q7 HB.out hb1
     clear hW1 hb1 hbx
     have hO : (W1.alloc (.cells #[.int .i64 (x1 : Int)] 3)).drew.ownsRow (w.heap.size + 1) 3 1 (.slice fa ((frL (wyTo D.B C k j)).getD x2 []).length fc) ((frL (wyTo D.B C k j)).getD x2 []).length (izV ((frL (wyTo D.B C k j)).getD x2 [])) := World.ownsRow.alloc hot (.cells #[.int .i64 (x1 : Int)] 3)
     have hcl : (W1.alloc (.cells #[.int .i64 (x1 : Int)] 3)).drew.cell? ⟨W1.heap.size,0,none⟩ = some (.int .i64 (x1 : Int)) := q6 (MapKept.heap_alloc W1 _).1 0
     rw [hs1] at hcl
     have hsz : w.heap.size + 1 ≤ (W1.alloc (.cells #[.int .i64 (x1 : Int)] 3)).drew.heap.size := by have := HBW.out.size; simp; omega
     have hfl : ((frL (wyTo D.B C k j)).getD x2 []).length ≤ 1000000 := by
      rw [q5W hx2]
      have := qa5 (j := j) HBK.out HCS.out HCN.out (k := k) (by rw [HXX.out]; exact hlt) x2
      omega
     have HPUT : Hid (∀ g5 d5 w5,w5.ownsRow (w.heap.size + 1) 3 1 (.slice (some ⟨g5,0,none⟩) (((frL (wyTo D.B C k j)).getD x2 []).length + 1) d5) (((frL (wyTo D.B C k j)).getD x2 []).length + 1) (izV ((frL (wyTo D.B C k j)).getD x2 [] ++ [x1])) → (W1.alloc (.cells #[.int .i64 (x1 : Int)] 3)).drew.grownBy w5 (Value.slice fa ((frL (wyTo D.B C k j)).getD x2 []).length fc).ownBlock → ((Value.slice fa ((frL (wyTo D.B C k j)).getD x2 []).length fc).ownBlock = some g5 ∨ g5 = (W1.alloc (.cells #[.int .i64 (x1 : Int)] 3)).drew.heap.size) → w5.heap[w.heap.size]? = some (.cells vf.toArray 118 (0,0)) ∧ FbA (w5.setCell ⟨w.heap.size,x2,none⟩ (.slice (some ⟨g5,0,none⟩) (((frL (wyTo D.B C k j)).getD x2 []).length + 1) d5)) w.heap.size (vf.set x2 (.slice (some ⟨g5,0,none⟩) (((frL (wyTo D.B C k j)).getD x2 []).length + 1) d5)) (frL (wyTo D.B C k (j + 1))) ∧ Below w.heap.size w (w5.setCell ⟨w.heap.size,x2,none⟩ (.slice (some ⟨g5,0,none⟩) (((frL (wyTo D.B C k j)).getD x2 []).length + 1) d5)) ∧ w5.cell? ⟨wr.heap.size,1,none⟩ = some (.int .u8 (x2 : Int))) := fun g5 d5 w5 q1 q2 q3 => by
      obtain ⟨r1,r2⟩ := hF1.put (t := x2) (s := x1) (by rw [q37]; exact hx2) hvt q1 q2 q3
      have hbb := (q7 HBW.out (q5 W1 (.cells #[.int .i64 (x1 : Int)] 3))).drew
      have hge := qm hot
      refine ⟨r1,?_,(hbb.grown q2 hbb.size (fun q e => by have := hge q e; omega)).setCell (Nat.le_refl _) _,qJ (w0 := (W1.alloc (.cells #[.int .i64 (x1 : Int)] 3)).drew) (q8 b1 ((q5 W1 (.cells #[.int .i64 (x1 : Int)] 3)).drew)) q2 (fun e => by have := ((HF.out.own x2 _ hvt).lt wr.heap.size e.symm).2; omega)⟩
      rw [HW.out,← q97 _ (x1,x2) hx2]
      exact r2
     have HVT : Hid _ := hvt
     have cftb : (W1.alloc (.cells #[.int .i64 (x1 : Int)] 3)).cell? ⟨w.heap.size,x2,none⟩ = some (.slice fa ((frL (wyTo D.B C k j)).getD x2 []).length fc) := q8 cft (q5 _ _)
     clear HF hF1 hot hvt HB HBW HBA hx hxb
     generalize ((frL (wyTo D.B C k j)).getD x2 []).length = fl at *
     generalize (frL (wyTo D.B C k j)).getD x2 [] = FL at *
     go_upto_region 15 with (rw [HW1.out])
     go_region_law ((refine q2Z rfl _ _ rfl (w.heap.size + 1) (.slice fa fl fc) fl FL x1 (wr.heap.size + 1) rfl rfl hO hcl hfl hsz ?_; intro g5 d5 w5 hown5 hgr5 hloc5; have m5 := HPUT.out g5 d5 w5 hown5 hgr5 hloc5; have c5' : w5.cell? ⟨w.heap.size,x2,none⟩ = some (.slice fa fl fc) := (q6 m5.1 x2).trans (by simpa using HVT.out); have z5 : w5.frozen? ⟨w.heap.size,x2,none⟩ = false := frozen_of_row w5 _ x2 _ _ m5.1; have b5 := m5.2.2.2))
     all_goals
      have HF5 : Hid _ := m5.2.1
      have HB5 : Hid _ := m5.2.2.1
      clear b5
      clear m5 hown5 hgr5 hloc5 c5' z5 HPUT hO hcl b0 b1 cft cftb fft
      go_wp2
      go_roundw
      case rel => exact ⟨j + 1,_,by omega,by go_num,HF5,HB5⟩
      case measure => simp [intOf]; omega
    ·obtain rfl : j = m := by omega
     rw [HWR.out] at HF
     go_wp2
     go_roundw
     case rel => exact ⟨k + 1,vf,by omega,by go_num,HF,HB⟩
     case measure => simp [intOf]; omega
  ·obtain rfl : k = L := by omega
   rw [← HXX.out,q9R] at HF
   have HYF : Hid (∀ x l,x ∈ frH (C.flatMap fun s => D.B.getD s []) l ↔ x < D.S ∧ l < K ∧ trP R x l ∈ C) := fun x l => q6U HBK.out HCS.out
   have HYN : Hid _ := q4V HBK.out HCS.out HCN.out
   generalize (C.flatMap fun s => D.B.getD s []) = Y at *
   have HP1 : Hid _ := H0.out.up HB.out
   have HL1 : Hid (∀ l,l < 256 → ∃ fa fc,vf[l]? = some (.slice fa (frH Y l).length fc) ∧ LsB wr D.go vq fa (frH Y l)) := fun l hl => by
    obtain ⟨fa,fc,h1,_,h2,_⟩ := HF.out.at (t := l) (by rw [q37]; exact hl)
    rw [q5W hl] at h1 h2
    exact ⟨fa,fc,h1,q2n h2 (by have := H0.out.lt D.go (.inr (.inl rfl)); omega) (fun k e => by have := H0.out.ql k e; omega)⟩
   have hvl : vf.length = 256 := by have := HF.out.len; rw [q37] at this; exact this
   have HBL : Hid _ := HF.out.blk
   obtain ⟨w1,hw1⟩ : ∃ w1,w1 = wr := ⟨_,rfl⟩
   subst hw1
   have HVL : Hid _ := hvl
   have hsv : vf.toArray.size = 256 := by simpa using hvl
   clear HF hvl
   generalize hVA : vf.toArray = VA at *
   have HVA : Hid _ := hVA
   clear hVA
   go_wp2
   refine wp_load_row 118 _ rfl w.heap.size rfl 118 VA (0,0) _ HBL.out Try.underlying118 rfl (by rw [hsv]; exact q7j) ?_
   go_wp2
   go_loopw [44] (fun i wr => ∃ (l : Nat) (of' : List Nat) (ins' : List (List Nat)) (ws' : List Bool) (qu' : List Nat) (vi' vw' vq' : Value) (vs' : List Value),l ≤ 256 ∧ i = .int .i64 (l : Int) ∧ Hid (PgW D wr vi' vw' vq' vs' of' ins' ws' qu') ∧ Hid (Fr w1 wr (PgF D vi vw vq) (PgF D vi' vw' vq')) ∧ Hid (HopH D.S K R bs C l of' ins' ws' qu') ∧ Hid (∀ s t,s < D.S → t < D.S → of'.getD s 0 = of'.getD t 0 → of.getD s 0 = of.getD t 0) ∧ Hid (qu'.length + ins.length = qu.length + ins'.length ∧ ins.length ≤ ins'.length)) (fun i _ => 256 - (intOf i).toNat)
   case atStart => exact ⟨0,of,ins,ws,qu,_,_,_,_,Nat.zero_le _,rfl,HP1,Fr.ofBelow (Below.refl _ _),HHOP,fun _ _ _ _ h => h,⟨rfl,Nat.le_refl _⟩⟩
   case round =>
    obtain ⟨l,of',ins',ws',qu',vi',vw',vq',vs',hl,rfl,HP,HFR,HHP,HRF,HCT⟩ := hrel
    by_cases hl2 : l < 256
    ·obtain ⟨fa,fc,hvl,hls⟩ := HL1.out l hl2
     have hls2 := LsB.fr HP1.out hls HFR.out
     have hix := fun w' => q7R VA l hl2 (.slice fa (frH Y l).length fc) (by rw [← HVA.out]; simpa using hvl) w'
     have hqq : qu'.length ≤ 50000 := by have := HCT.out.1; have := HHP.out.prt.few; omega
     have jp := q2U HP.out HHP.out HRR.out rfl (by omega) hqq fa fc (frH Y l) hls2 (fun x hx => ((HYF.out x l).1 hx).1) (HYN.out l) (fun s t hs ht hst => by
      rw [HYF.out,HYF.out]
      refine ⟨fun ⟨h1,h2,h3⟩ => ⟨ht,h2,?_⟩,fun ⟨h1,h2,h3⟩ => ⟨hs,h2,?_⟩⟩
      ·exact (HA.out _ _ (HRR.out.lt s l hs h2) (HRR.out.lt t l ht h2) (hst.goB h2)).1 h3
      ·exact (HA.out _ _ (HRR.out.lt s l hs h2) (HRR.out.lt t l ht h2) (hst.goB h2)).2 h3)
     have HN : Hid (∀ w5,PtgL D D.S K R bs C l of' ins' qu' (frH Y l) ins'.length wr vi' vw' vq' w5 → ∃ of5 ins5 ws5 qu5 vi5 vw5 vq5 vs5,PgW D w5 vi5 vw5 vq5 vs5 of5 ins5 ws5 qu5 ∧ Fr w1 w5 (PgF D vi vw vq) (PgF D vi5 vw5 vq5) ∧ HopH D.S K R bs C (l + 1) of5 ins5 ws5 qu5 ∧ (∀ s t,s < D.S → t < D.S → of5.getD s 0 = of5.getD t 0 → of.getD s 0 = of.getD t 0) ∧ (qu5.length + ins.length = qu.length + ins5.length ∧ ins.length ≤ ins5.length)) := fun w5 h5 => by
      obtain ⟨of5,ins5,ws5,qu5,⟨vi5,vw5,vq5,vs5,hp5,hf5⟩,hpt⟩ := h5
      have hd := fun {s t : Nat} (hs : s < D.S) (ht : t < D.S) => hpt.done HHP.out.prt hs ht
      refine ⟨of5,ins5,ws5,qu5,vi5,vw5,vq5,vs5,hp5,HFR.out.trans hf5,hpt.hop.letter (X := frH Y l) (fun s hs hk => ?_) (fun s t hs ht e => ((hd hs ht).1 e).2),fun s t hs ht e => HRF.out s t hs ht ((hd hs ht).1 e).1,?_⟩
      ·rw [HYF.out]; exact ⟨fun h => h.2.2,fun h => ⟨hs,hk,h⟩⟩
      ·have h1 := hpt.cnt
       have h2 := HCT.out
       have h3 := hpt.le
       omega
     clear HRF hls hls2 hvl HFR HHP
     generalize frH Y l = X at *
     go_wp2_with fail
     refine jp.mono ?_
     rintro e w5 ⟨rfl,h5⟩
     obtain ⟨of5,ins5,ws5,qu5,vi5,vw5,vq5,vs5,hp5,hf5,hh5,hr5,hc5⟩ := HN.out w5 h5
     have c2 := hp5.c.2.2.1
     obtain ⟨ia,ic,rfl⟩ := qe hp5.fi
     have hfew := hh5.prt.few
     have HP5 : Hid _ := hp5
     have HF5 : Hid _ := hf5
     have HH5 : Hid _ := hh5
     have HR5 : Hid (∀ s t,s < D.S → t < D.S → of5.getD s 0 = of5.getD t 0 → of.getD s 0 = of.getD t 0) := hr5
     have HC5 : Hid _ := hc5
     have hno : ¬ ((256 : Int) < (ins5.length : Int)) := by omega
     clear hp5 hf5 hh5 hr5 hc5 HN jp h5 hix HP
     generalize ins5.length = n5 at c2 hno hfew ⊢
     go_wp2
     go_roundw
     case rel => exact ⟨l + 1,_,_,_,_,_,_,_,_,by omega,by go_num,HP5,HF5,HH5,HR5,HC5⟩
     case measure => simp [intOf]; omega
    ·obtain rfl : l = 256 := by omega
     have HE : Hid _ := HZ.out wr ⟨of',ins',ws',qu',⟨_,_,_,_,HP.out,(Fr.ofBelow HB.out).trans HFR.out⟩,HHP.out,HRF.out,HCT.out⟩
     clear HZ HP HFR HHP HRF HCT
     go_wp2
     go_end0
     exact HE.out
end Go.Proofs.Ytcnkgokfjafgkaa
