/- Texts of the proof, put together: what it uses. -/
import Derived.Deep.RegionHeld3
import Derived.BigRegion
import Derived.Test.YtcnkgokfjafgkaaX09
import Derived.Test.YtcnkgokfjafgkaaX12
import Derived.Test.YtcnkgokfjafgkaaX14
set_option maxRecDepth 100000
set_option maxHeartbeats 16000000
namespace Go.Proofs.Ytcnkgokfjafgkaa
open Go.RowKit Go.Maps
def BrR (p : Int) (nA : Nat) (N : List Gd) (gs : List Int) (w : World) (e : Ending) (w' : World) : Prop :=
 Below w.heap.size w w' ∧ ∃ g c,e = .returned (.slice (some ⟨g,0,none⟩) nA c) ∧ w.heap.size ≤ g ∧ RwM w' g nA (2 ^ p.toNat) (rwA p N gs)
structure LbR (w wr : World) (K : Nat) (R : List (List Nat)) (k : Nat) (v : Value) (vs : List Value) : Prop where
 own : wr.ownsRow (w.heap.size + 1) 23 1 v k vs
 row : ∀ i,i < k → ∃ gi ci cu,vs[i]? = some (.slice (some ⟨gi,0,none⟩) K ci) ∧ wr.heap[gi]? = some (.cells cu 3 (0,0)) ∧ ∀ l,l < K → cu[l]? = some (.int .i64 ((trP R i l : Nat) : Int))
 bel : Below w.heap.size w wr
theorem LbR.fin {w wr : World} {K k : Nat} {R : List (List Nat)} {v : Value} {vs : List Value} (h : LbR w wr K R k v vs) (hk : 0 < k) : ∃ g c,v = .slice (some ⟨g,0,none⟩) k c ∧ w.heap.size ≤ g ∧ RwM wr g k K R := by
 rcases h.own.2 with ⟨_,h0⟩ | ⟨g,cap,cur,rfl,hg,hcell,hnc,hcm,hsz,htk⟩
 ·omega
 ·refine ⟨g,cap,rfl,by omega,cur,hcell,fun i hi => ?_⟩
  obtain ⟨gi,ci,cu,h1,h2,h3⟩ := h.row i hi
  refine ⟨gi,ci,cu,?_,h2,h3⟩
  rw [← htk,List.getElem?_take,if_pos (by omega)] at h1
  simpa using h1
theorem q8Z {w : World} {base K : Nat} {a : Option Addr} {c : Nat} {zs : List Int} (h : w.ownsRow base 3 1 (.slice a K c) K (zs.map (Value.int .i64))) (hK : 0 < K) : ∃ g cu,a = some ⟨g,0,none⟩ ∧ base ≤ g ∧ w.heap[g]? = some (.cells cu 3 (0,0)) ∧ ∀ l,l < K → cu[l]? = some (.int .i64 (zs.getD l 0)) := by
 have hlen : zs.length = K := by have := h.1; simpa using this
 rcases h.2 with ⟨_,h0⟩ | ⟨g,cap,cur,e,hg,hcell,hnc,hcm,hsz,htk⟩
 ·omega
 ·injection e with e _ e3
  subst e; subst e3
  refine ⟨g,cur,rfl,hg,hcell,fun l hl => ?_⟩
  have h1 : (cur.toList.take (K * 1))[l]? = (zs.map (Value.int .i64))[l]? := by rw [htk]
  rw [List.getElem?_take,if_pos (by omega),List.getElem?_map,List.getElem?_eq_getElem (l := zs) (by omega)] at h1
  rw [List.getD_eq_getElem?_getD,List.getElem?_eq_getElem (by omega)]
  simpa using h1
theorem q2B (p : Int) (aA : Option Addr) (nA cA : Nat) (aG : Option Addr) (nG cG : Nat) (aN : Option Addr) (nN cN : Nat) (N : List Gd) (gs : List Int) (w : World) (hM : MayG p nA N gs) (hN : NdSl w aN nN cN N) (hG : ZSl w aG nG cG gs) :
  Calls Try.prog 55 #[.agg #[.int .i64 p,.slice aA nA cA,.slice aG nG cG,.slice aN nN cN]] w (BrR p nA N gs w) := by
 obtain ⟨Q,hQ⟩ : ∃ Q,Q = BrR p nA N gs w := ⟨_,rfl⟩
 have HQ : Hid (∀ v vs wr,LbR w wr (2 ^ p.toNat) (rwA p N gs) nA v vs → Q (.returned v) wr) := fun v vs wr h => by
  rw [hQ]
  obtain ⟨g,c,rfl,h1,h2⟩ := h.fin hM.s1
  exact ⟨h.bel,g,c,rfl,h1,h2⟩
 rw [← hQ]
 clear hQ
 have hnG : nG = nA := by have h1 := hG.hlen; have h2 := hM.len; omega
 subst hnG
 have hb0 := q5 w (.cells #[.int .i64 p,.slice aA nG cA,.slice aG nG cG,.slice aN nN cN] 26 (0,0))
 have HB0 : Hid _ := hb0
 have HV0 : Hid _ := qr w p aA nG cA aG nG cG aN nN cN
 have HM : Hid _ := hM
 have HN : Hid _ := hN
 have HG : Hid _ := hG
 have h256 := hM.s2
 have hc2 := HV0.out.c2
 clear hM hN hG
 go_enter Try.func55,Try.ntmps55
 go_wp2
 go_loopw [3,11] (fun v i wr => ∃ (k : Nat) (vs : List Value),k ≤ nG ∧ i = .int .i64 (k : Int) ∧ Hid (LbR w wr (2 ^ p.toNat) (rwA p N gs) k v vs) ∧ Hid (AuB wr w.heap.size p aA nG cA aG nG cG aN nN cN)) (fun _ i _ => nG - (intOf i).toNat)
 case atStart => exact ⟨0,[],Nat.zero_le _,rfl,⟨⟨rfl,.inl ⟨rfl,rfl⟩⟩,fun i hi => by omega,hb0⟩,HV0⟩
 case round =>
  clear hb0 hc2
  obtain ⟨k,vs,hk,rfl,HL,HV⟩ := hrel
  obtain ⟨va,vc,rfl⟩ := qe HL.out.own
  by_cases hlt : k < nG
  ·have ixg := fun w' => HG.out.idx nG k w' hlt (Nat.le_refl _)
   have cg := (HG.out.up HL.out.bel).cell k hlt
   have c0 := HV.out.c0
   have c3 := HV.out.c3
   have hi64 := q3k HM.out (q := k) (by have h2 := HM.out.len; omega)
   have jt := q1I p aN nN cN N (gs.getD k 0) wr (HN.out.up HL.out.bel) hi64
   have HT : Hid (∀ e w6,TabRO p N (gs.getD k 0) wr e w6 → ∃ g6 c6 cu,e = .returned (.tuple #[.slice (some ⟨g6,0,none⟩) (2 ^ p.toNat) c6,.int .i64 0]) ∧ Below wr.heap.size wr w6 ∧ w6.heap[g6]? = some (.cells cu 3 (0,0)) ∧ wr.heap.size ≤ g6 ∧ ∀ l,l < 2 ^ p.toNat → cu[l]? = some (.int .i64 ((trP (rwA p N gs) k l : Nat) : Int))) := fun e w6 hq2 => by
    have htab := HM.out.tab (K := 2 ^ p.toNat) hlt
    have hRr := (HM.out.rows (2 ^ p.toNat)).row k hlt
    obtain ⟨hb,⟨h1,_⟩ | ⟨_,_,⟨h3,_⟩ | ⟨l,a,c,h3,rfl,h4⟩⟩⟩ := hq2
    ·exact absurd ⟨HM.out.p0,HM.out.p8⟩ h1
    ·rw [htab] at h3; cases h3
    ·rw [htab] at h3; injection h3 with h3; subst h3
     have hl : (((rwA p N gs).getD k []).map Int.ofNat).length = 2 ^ p.toNat := by rw [List.length_map]; exact hRr
     rw [hl] at h4 ⊢
     obtain ⟨g6,cu,rfl,h5,h6,h7⟩ := q8Z h4 (Nat.pow_pos (by decide))
     refine ⟨g6,c,cu,rfl,hb,h6,h5,fun x hx => ?_⟩
     rw [h7 x hx,qC (by rw [hRr]; exact hx)]; rfl
   generalize gs.getD k 0 = rq at *
   generalize adOf aG k = ag at *
   obtain ⟨ag1,ag2,ag3⟩ := ag
   clear HQ
   go_wp2_with fail
   refine jt.mono ?_
   intro e w6 hq6
   obtain ⟨g6,c6,cu,rfl,hb6,hg6,hge6,hrow6⟩ := HT.out e w6 hq6
   have HO6 := qB HL.out.own hb6
   have hsz : w.heap.size + 1 ≤ (w6.alloc (.cells #[.slice (some ⟨g6,0,none⟩) (2 ^ p.toNat) c6] 23)).heap.size := by have h1 := hb6.size; have h2 := HL.out.bel.size; have := World.block_lt_of_cell? _ _ HV.out.c0; simp at this ⊢; omega
   have hcl : (w6.alloc (.cells #[.slice (some ⟨g6,0,none⟩) (2 ^ p.toNat) c6] 23)).cell? ⟨w6.heap.size,0,none⟩ = some (.slice (some ⟨g6,0,none⟩) (2 ^ p.toNat) c6) := q6 (MapKept.heap_alloc w6 _).1 0
   have HN7 : Hid (∀ v7 w7,w7.ownsRow (w.heap.size + 1) 23 1 v7 (k + 1) (vs ++ [.slice (some ⟨g6,0,none⟩) (2 ^ p.toNat) c6]) → (w6.alloc (.cells #[.slice (some ⟨g6,0,none⟩) (2 ^ p.toNat) c6] 23)).grownBy w7 (Value.slice va k vc).ownBlock → LbR w w7 (2 ^ p.toNat) (rwA p N gs) (k + 1) v7 (vs ++ [.slice (some ⟨g6,0,none⟩) (2 ^ p.toNat) c6]) ∧ AuB w7 w.heap.size p aA nG cA aG nG cG aN nN cN) := fun v7 w7 hown hgr => by
    have hb68 := q7 hb6 (q5 w6 (.cells #[.slice (some ⟨g6,0,none⟩) (2 ^ p.toNat) c6] 23))
    have hge := qp HL.out.own
    have keep : ∀ j,j < (w6.alloc (.cells #[.slice (some ⟨g6,0,none⟩) (2 ^ p.toNat) c6] 23)).heap.size → (Value.slice va k vc).ownBlock ≠ some j → w7.heap[j]? = (w6.alloc (.cells #[.slice (some ⟨g6,0,none⟩) (2 ^ p.toNat) c6] 23)).heap[j]? := fun j hj hne => hgr.block j hj (fun e => hne e.symm)
    have hint : ∀ (W : World) (gi : Nat) (cu : Array Value),W.ownsRow (w.heap.size + 1) 23 1 (.slice va k vc) k vs → W.heap[gi]? = some (.cells cu 3 (0,0)) → (Value.slice va k vc).ownBlock ≠ some gi := fun W gi cu ho hc => q13 ho hc (fun cs e => by injection e with _ e _; exact absurd e (by decide))
    have hlen : vs.length = k := by have := HL.out.own.1; omega
    have hau := HV.out.up hb68
    have hbb := (q7 HL.out.bel hb68)
    have c : (Value.slice va k vc).ownBlock ≠ some w.heap.size := fun e => by have := hge _ e; omega
    refine ⟨⟨hown,fun i hi => ?_,hbb.grown hgr hbb.size (fun q e => by have := hge q e; omega)⟩,?_,?_,?_,?_⟩
    ·by_cases hik : i < k
     ·obtain ⟨gi,ci,cu',h1,h2,h3⟩ := HL.out.row i hik
      have h2' := (hb68.block gi (Array.getElem?_eq_some_iff.1 h2).1).trans h2
      refine ⟨gi,ci,cu',by rw [List.getElem?_append_left (by omega)]; exact h1,(keep gi (Array.getElem?_eq_some_iff.1 h2').1 (hint wr gi cu' HL.out.own h2)).trans h2',h3⟩
     ·have ei : i = k := by omega
      subst ei
      have hg6' := ((q5 w6 (.cells #[.slice (some ⟨g6,0,none⟩) (2 ^ p.toNat) c6] 23)).block g6 (Array.getElem?_eq_some_iff.1 hg6).1).trans hg6
      refine ⟨g6,c6,cu,by rw [List.getElem?_append_right (by omega),hlen]; simp,(keep g6 (Array.getElem?_eq_some_iff.1 hg6').1 (hint w6 g6 cu HO6 hg6)).trans hg6',hrow6⟩
    ·exact qI hau.c0 hgr (fun e => c e.symm)
    ·exact qI hau.c1 hgr (fun e => c e.symm)
    ·exact qI hau.c2 hgr (fun e => c e.symm)
    ·exact qI hau.c3 hgr (fun e => c e.symm)
   clear HT jt hq6 hg6 hrow6 ixg cg c0 c3 HL HV hb6
   go_wp2_with (at_builtin; refine q1j rfl _ _ rfl (w.heap.size + 1) _ k vs rfl (World.ownsRow.alloc HO6 _) w6.heap.size (some ⟨g6,0,none⟩) (2 ^ p.toNat) c6 rfl hcl (by omega) hsz ?_)
   intro g7 c7 w7 hown hgr _
   obtain ⟨hL7,hV7⟩ := HN7.out _ w7 hown hgr
   have HL7 : Hid _ := hL7
   have HV7 : Hid _ := hV7
   clear hown hgr hcl hsz HO6 HN7 hL7 hV7
   go_wp2
   go_roundw
   case rel => exact ⟨k + 1,_,by omega,by go_num,HL7,HV7⟩
   case measure => simp [intOf]; omega
  ·obtain rfl : k = nG := by omega
   have HE : Hid _ := HQ.out _ vs wr HL.out
   clear HQ HL HV
   go_wp2
   exact HE.out
theorem NumB.upB {w w' : World} {b n : Nat} {f : Nat × Nat → Option Nat} (h : NumB w b n f) (hb : Below w.heap.size w w') : NumB w' b n f := h.far (hb.block b h.lt)
def BkH (w : World) (g : Nat) (o : Obj) : Prop := w.heap[g]? = some o
theorem BkH.upB {w w' : World} {g : Nat} {o : Obj} (h : BkH w g o) (hb : Below w.heap.size w w') : BkH w' g o := (hb.block g (Array.getElem?_eq_some_iff.1 h).1).trans h
theorem qv (w : World) (o : Obj) : BkH (w.alloc o) w.heap.size o := (MapKept.heap_alloc w o).1
theorem qh {w : World} {g : Nat} {o : Obj} (h : g = w.heap.size) : BkH (w.alloc o) g o := by rw [h]; exact qv w o
theorem q7l {w : World} {g : Nat} (h : g = w.heap.size) : NumB (w.alloc (.map #[] 0)) g 0 (fun _ => none) := by rw [h]; exact q7V w
theorem q3I {W0 w w' : World} {g h : Nat} {x0 x1 x2 x3 y0 y1 y2 y3 : Value} (hb : Below w.heap.size w w')
  (hs : w.cell? ⟨g,0,none⟩ = some x0 ∧ w.cell? ⟨g,1,none⟩ = some x1 ∧ w.cell? ⟨g,2,none⟩ = some x2 ∧ w.cell? ⟨g,3,none⟩ = some x3 ∧ w.cell? ⟨h,0,none⟩ = some y0 ∧ w.cell? ⟨h,1,none⟩ = some y1 ∧ w.cell? ⟨h,2,none⟩ = some y2 ∧ w.cell? ⟨h,3,none⟩ = some y3 ∧ Hid (Below W0.heap.size W0 w)) :
  w'.cell? ⟨g,0,none⟩ = some x0 ∧ w'.cell? ⟨g,1,none⟩ = some x1 ∧ w'.cell? ⟨g,2,none⟩ = some x2 ∧ w'.cell? ⟨g,3,none⟩ = some x3 ∧ w'.cell? ⟨h,0,none⟩ = some y0 ∧ w'.cell? ⟨h,1,none⟩ = some y1 ∧ w'.cell? ⟨h,2,none⟩ = some y2 ∧ w'.cell? ⟨h,3,none⟩ = some y3 ∧ Hid (Below W0.heap.size W0 w') := by
 obtain ⟨h0,h1,h2,h3,h4,h5,h6,h7,h8⟩ := hs
 exact ⟨q8 h0 hb,q8 h1 hb,q8 h2 hb,q8 h3 hb,q8 h4 hb,q8 h5 hb,q8 h6 hb,q8 h7 hb,q7 h8.out hb⟩
theorem bgS_b {W0 w : World} {g h : Nat} {x0 x1 x2 x3 y0 y1 y2 y3 : Value}
  (hs : w.cell? ⟨g,0,none⟩ = some x0 ∧ w.cell? ⟨g,1,none⟩ = some x1 ∧ w.cell? ⟨g,2,none⟩ = some x2 ∧ w.cell? ⟨g,3,none⟩ = some x3 ∧ w.cell? ⟨h,0,none⟩ = some y0 ∧ w.cell? ⟨h,1,none⟩ = some y1 ∧ w.cell? ⟨h,2,none⟩ = some y2 ∧ w.cell? ⟨h,3,none⟩ = some y3 ∧ Hid (Below W0.heap.size W0 w)) : Hid (Below W0.heap.size W0 w) := hs.2.2.2.2.2.2.2.2
def BgnR (p : Int) (nA nB : Nat) (bs cs : List Bool) (N : List Gd) (gs : List Int) (M : List Gd) (hs : List Int) (w : World) (e : Ending) (w' : World) : Prop :=
 Below w.heap.size w w' ∧ ∃ (D : PD) (F : Nat → Prop),e = .returned (.pointer (some ⟨D.b,0,none⟩)) ∧ PrS D w' F [] ∧ D.w0 = w ∧ D.nA = nA ∧ D.nB = nB ∧ D.K = 2 ^ p.toNat ∧ D.bs = bs ∧ D.bs' = cs ∧ D.R = rwA p N gs ∧ D.R' = rwA p M hs
theorem q2A (p : Int) (aA : Option Addr) (nA cA : Nat) (aG : Option Addr) (nG cG : Nat) (aN : Option Addr) (nN cN : Nat) (bA : Option Addr) (mA dA : Nat) (bG : Option Addr) (mG dG : Nat) (bN : Option Addr) (mN dN : Nat) (bs cs : List Bool) (N : List Gd) (gs : List Int) (M : List Gd) (hs : List Int) (w : World)
  (hM : MayG p nA N gs) (hN : NdSl w aN nN cN N) (hG : ZSl w aG nG cG gs) (hB : BoSl w aA nA cA bs) (kM : MayG p mA M hs) (kN : NdSl w bN mN dN M) (kG : ZSl w bG mG dG hs) (kB : BoSl w bA mA dA cs) :
  Calls Try.prog 38 #[.agg #[.int .i64 p,.slice aA nA cA,.slice aG nG cG,.slice aN nN cN],.agg #[.int .i64 p,.slice bA mA dA,.slice bG mG dG,.slice bN mN dN]] w (BgnR p nA mA bs cs N gs M hs w) := by
 obtain ⟨Q,hQ⟩ : ∃ Q,Q = BgnR p nA mA bs cs N gs M hs w := ⟨_,rfl⟩
 have HQ : Hid (∀ W b m gm gA tA gB tB,Below w.heap.size w W → w.heap.size ≤ b → w.heap.size ≤ m → w.heap.size ≤ gm → RwM W gA nA (2 ^ p.toNat) (rwA p N gs) → RwM W gB mA (2 ^ p.toNat) (rwA p M hs) → NumB W m 0 (fun _ => none) → BkH W gm (.cells #[.int .i64 0,.int .i64 0,.int .i64 0,.int .u8 0] 90 (0,0)) →
   BkH W b (.cells #[.slice aA nA cA,.slice bA mA dA,.slice (some ⟨gA,0,none⟩) nA tA,.slice (some ⟨gB,0,none⟩) mA tB,.map (some m),.slice (some ⟨gm,0,none⟩) 1 1] 70 (0,0)) → Q (.returned (.pointer (some ⟨b,0,none⟩))) W) := fun W b m gm gA tA gB tB hb h1 h2 h3 h4 h5 h6 h7 h8 => by
  rw [hQ]
  refine ⟨hb,⟨w,b,m,aA,nA,cA,bA,mA,dA,gA,tA,gB,tB,2 ^ p.toNat,bs,cs,rwA p N gs,rwA p M hs⟩,fun k => k = b ∨ k = m ∨ k = gm,rfl,⟨hb,fun k hk => ?_,fun e he => by simp at he,h4,h5,hB,kB,h6.alike fun x => rfl,.slice (some ⟨gm,0,none⟩) 1 1,h8,⟨rfl,.inr ⟨gm,1,_,rfl,Nat.zero_le _,h7,Nat.le_refl _,by decide,rfl,rfl⟩⟩,fun k => by simp only [Value.ownBlock,Option.some.injEq,eq_comm (a := gm)]⟩,rfl,rfl,rfl,rfl,rfl,rfl,rfl,rfl⟩
  rcases hk with rfl | rfl | rfl <;> assumption
 rw [← hQ]
 clear hQ
 obtain ⟨W1,hW1⟩ : ∃ W1,W1 = (w.alloc (.cells #[.int .i64 p,.slice aA nA cA,.slice aG nG cG,.slice aN nN cN] 26 (0,0))).alloc (.cells #[.int .i64 p,.slice bA mA dA,.slice bG mG dG,.slice bN mN dN] 26 (0,0)) := ⟨_,rfl⟩
 have hb1 : Below w.heap.size w W1 := by rw [hW1]; exact q7 (q5 w _) (q5 _ _)
 have hv0 := (qr w p aA nA cA aG nG cG aN nN cN).up (q5 _ (.cells #[.int .i64 p,.slice bA mA dA,.slice bG mG dG,.slice bN mN dN] 26 (0,0)))
 have hv1 := qr (w.alloc (.cells #[.int .i64 p,.slice aA nA cA,.slice aG nG cG,.slice aN nN cN] 26 (0,0))) p bA mA dA bG mG dG bN mN dN
 rw [← hW1] at hv0 hv1
 rw [show (w.alloc (.cells #[.int .i64 p,.slice aA nA cA,.slice aG nG cG,.slice aN nN cN] 26 (0,0))).heap.size = w.heap.size + 1 by simp] at hv1
 have hs0 : W1.cell? ⟨w.heap.size,0,none⟩ = some (.int .i64 p) ∧ W1.cell? ⟨w.heap.size,1,none⟩ = some (.slice aA nA cA) ∧ W1.cell? ⟨w.heap.size,2,none⟩ = some (.slice aG nG cG) ∧ W1.cell? ⟨w.heap.size,3,none⟩ = some (.slice aN nN cN) ∧ W1.cell? ⟨w.heap.size + 1,0,none⟩ = some (.int .i64 p) ∧ W1.cell? ⟨w.heap.size + 1,1,none⟩ = some (.slice bA mA dA) ∧ W1.cell? ⟨w.heap.size + 1,2,none⟩ = some (.slice bG mG dG) ∧ W1.cell? ⟨w.heap.size + 1,3,none⟩ = some (.slice bN mN dN) ∧ Hid (Below w.heap.size w W1) := ⟨hv0.c0,hv0.c1,hv0.c2,hv0.c3,hv1.c0,hv1.c1,hv1.c2,hv1.c3,hb1⟩
 have HRA : Hid (∀ W,Hid (Below w.heap.size w W) → Calls Try.prog 55 #[.agg #[.int .i64 p,.slice aA nA cA,.slice aG nG cG,.slice aN nN cN]] W fun e w6 => ∃ g c,e = .returned (.slice (some ⟨g,0,none⟩) nA c) ∧ Hid (RwM w6 g nA (2 ^ p.toNat) (rwA p N gs)) ∧ Hid (Below W.heap.size W w6)) := fun W hb => (q2B p aA nA cA aG nG cG aN nN cN N gs W hM (hN.up hb.out) (hG.up hb.out)).mono fun e w6 ⟨h1,g,c,h2,_,h3⟩ => ⟨g,c,h2,h3,h1⟩
 have HRB : Hid (∀ W,Hid (Below w.heap.size w W) → Calls Try.prog 55 #[.agg #[.int .i64 p,.slice bA mA dA,.slice bG mG dG,.slice bN mN dN]] W fun e w6 => ∃ g c,e = .returned (.slice (some ⟨g,0,none⟩) mA c) ∧ Hid (RwM w6 g mA (2 ^ p.toNat) (rwA p M hs)) ∧ Hid (Below W.heap.size W w6)) := fun W hb => (q2B p bA mA dA bG mG dG bN mN dN M hs W kM (kN.up hb.out) (kG.up hb.out)).mono fun e w6 ⟨h1,g,c,h2,_,h3⟩ => ⟨g,c,h2,h3,h1⟩
 have hmm := @run_makeMap Try.prog
 have HW1 : Hid _ := hW1
 have HB1 : Hid _ := hb1
 clear hM hN hG hB kM kN kG kB hv0 hv1 hW1 hb1
 generalize 2 ^ p.toNat = K at *
 generalize rwA p N gs = R at *
 generalize rwA p M hs = R' at *
 go_enter Try.func38,Try.ntmps38
 go_upto_region 15 with (rw [← HW1.out])
 go_region_held3 (fun w' => w'.cell? ⟨w.heap.size,0,none⟩ = some (.int .i64 p) ∧ w'.cell? ⟨w.heap.size,1,none⟩ = some (.slice aA nA cA) ∧ w'.cell? ⟨w.heap.size,2,none⟩ = some (.slice aG nG cG) ∧ w'.cell? ⟨w.heap.size,3,none⟩ = some (.slice aN nN cN) ∧ w'.cell? ⟨w.heap.size + 1,0,none⟩ = some (.int .i64 p) ∧ w'.cell? ⟨w.heap.size + 1,1,none⟩ = some (.slice bA mA dA) ∧ w'.cell? ⟨w.heap.size + 1,2,none⟩ = some (.slice bG mG dG) ∧ w'.cell? ⟨w.heap.size + 1,3,none⟩ = some (.slice bN mN dN) ∧ Hid (Below w.heap.size w w'))
  (first | assumption | exact q3I (q5 _ _) (by assumption) | exact q3I ((Below.refl _ _).drew) (by assumption) | exact hs0 | fail) (first
  | (go_at_call 55; (with_reducible refine (HRA.out _ (bgS_b (by assumption))).mono ?_); rintro e wA ⟨gA,tA,rfl,HGA,HBA⟩; have hsA := q3I HBA.out (by assumption))
  | (go_at_call 55; (with_reducible refine (HRB.out _ (bgS_b (by assumption))).mono ?_); rintro e wB ⟨gB,tB,rfl,HGB,HBB⟩; have hsB := q3I HBB.out (by assumption))
  | fail)
 all_goals
  go_wp2
  have h1 := HBA.out.size
  have h2 := HBB.out.size
  have h3 := HB1.out.size
  (try simp at h1)
  (try simp at h2)
  refine HQ.out _ _ _ _ gA tA gB tB ?_ ?_ ?_ ?_ ?_ ?_ ?_ ?_ (qh ?_)
  ·repeat (first | exact (bgS_b hsB).out | refine q7 ?_ (q5 _ _))
  ·omega
  ·omega
  ·omega
  ·repeat (first | exact HGA.out | refine RwM.up ?_ (q5 _ _) | refine RwM.up ?_ HBB.out)
  ·repeat (first | exact HGB.out | refine RwM.up ?_ (q5 _ _))
  ·repeat (first | exact q7l (by simp) | refine NumB.upB ?_ (q5 _ _) | refine NumB.upB ?_ HBB.out | refine NumB.upB ?_ HBA.out | refine NumB.upB ?_ ((Below.refl _ _).drew))
  ·repeat (first | exact qh (by simp) | refine BkH.upB ?_ (q5 _ _) | refine BkH.upB ?_ HBB.out | refine BkH.upB ?_ HBA.out | refine BkH.upB ?_ ((Below.refl _ _).drew))
  ·simp
structure ClQ (D : PgD) (K : Nat) (R : List (List Nat)) (bs : List Bool) (w wr : World) (vi vw vq : Value) (vs : List Value) (of : List Nat) (ins : List (List Nat)) (ws : List Bool) (qu : List Nat) : Prop where
 pg : PgW D wr vi vw vq vs of ins ws qu
 hop : HopH D.S K R bs [] K of ins ws qu
 acc : ∀ s t,s < D.S → t < D.S → of.getD s 0 = of.getD t 0 → bs.getD s false = bs.getD t false
 mx : qu.length ≤ ins.length
theorem ClQ.fin {D : PgD} {K : Nat} {R : List (List Nat)} {bs : List Bool} {w wr : World} {vi vw vq : Value} {vs : List Value} {of : List Nat} {ins : List (List Nat)} {ws : List Bool} (h : ClQ D K R bs w wr vi vw vq vs of ins ws []) (hw : D.w0 = w) : ClbR D.S K R bs w (.returned (.tuple #[.slice (some ⟨D.go,0,none⟩) D.S D.S,.bool true])) wr := by
 refine ⟨by rw [← hw]; exact h.pg.bel,D.go,of,rfl,by rw [← hw]; exact h.pg.ge _ (.inr (.inl rfl)),h.pg.fo,h.pg.ol,h.hop.done h.acc,fun s hs => ?_⟩
 have := h.hop.prt.lt s hs
 have := h.hop.prt.few
 omega
def clM (D : PgD) (wr : World) : Nat := match wr.cell? ⟨D.b,2,none⟩,wr.cell? ⟨D.b,4,none⟩ with
 | some (.slice _ n _),some (.slice _ m _) => 2 * (D.S + 1 - n) + m
 | _,_ => 0
theorem ClQ.left {D : PgD} {K : Nat} {R : List (List Nat)} {bs : List Bool} {w wr : World} {vi vw vq : Value} {vs : List Value} {of : List Nat} {ins : List (List Nat)} {ws : List Bool} {qu : List Nat} (h : ClQ D K R bs w wr vi vw vq vs of ins ws qu) : clM D wr = 2 * (D.S + 1 - ins.length) + qu.length := by
 obtain ⟨_,_,c2,_,c4,_⟩ := h.pg.c
 obtain ⟨a,c,e⟩ := qe h.pg.fi
 obtain ⟨a',c',e'⟩ := qe h.pg.fq
 unfold clM
 rw [c2,c4,e,e']
theorem q3d (S K : Nat) (R : List (List Nat)) (B : List (List (Nat × Nat))) (bs : List Bool) (gB cB : Nat) (aA : Option Addr) (cA : Nat) (w : World) (hbk : BwM w gB S B) (hB : BoSl w aA S cA bs) (hR : RowsP S K R) (hBk : BkOk S K R B) (hS0 : 0 < S) (hS1 : S ≤ 256) (hK : K ≤ 256) (hBs : ∀ s,s < S → (B.getD s []).length ≤ 100000) :
  Calls Try.prog 41 #[.slice (some ⟨gB,0,none⟩) S cB,.slice aA S cA] w (ClbR S K R bs w) := by
 obtain ⟨Z,eZ⟩ : ∃ Z,Z = ClbR S K R bs w := ⟨_,rfl⟩
 obtain ⟨D,hD⟩ : ∃ D : PgD,D = ⟨w,w.heap.size + 3,w.heap.size,S,gB,cB,B⟩ := ⟨_,rfl⟩
 have d1 : D.w0 = w := by rw [hD]
 have d2 : D.b = w.heap.size + 3 := by rw [hD]
 have d3 : D.go = w.heap.size := by rw [hD]
 have d4 : D.S = S := by rw [hD]
 have d5 : D.gB = gB := by rw [hD]
 have d6 : D.cB = cB := by rw [hD]
 have d7 : D.B = B := by rw [hD]
 have HZ : Hid (∀ wr vi vw vq vs of ins ws,ClQ D K R bs w wr vi vw vq vs of ins ws [] → Z (.returned (.tuple #[.slice (some ⟨D.go,0,none⟩) S S,.bool true])) wr) := fun wr vi vw vq vs of ins ws h => by
  rw [eZ]
  have := h.fin d1
  rw [d4] at this; exact this
 rw [← eZ]
 clear eZ
 obtain ⟨w4,hw4⟩ : ∃ w4,w4 = (((w.alloc (.cells (Array.replicate S (.int .i64 0)) 3)).alloc (.cells #[.slice none 0 0] 23)).alloc (.cells #[.bool false] 4)).alloc (.cells #[.slice (some ⟨gB,0,none⟩) S cB,.slice (some ⟨w.heap.size,0,none⟩) S S,.slice (some ⟨w.heap.size + 1,0,none⟩) 1 1,.slice (some ⟨w.heap.size + 1 + 1,0,none⟩) 1 1,.slice none 0 0] 96 (0,0)) := ⟨_,rfl⟩
 have hbw : Below w.heap.size w w4 := by rw [hw4]; exact q7 (q7 (q7 (q5 w _) (q5 _ _)) (q5 _ _)) (q5 _ _)
 have HL0 : Hid (ClL D w w4 (w.heap.size + 1) (w.heap.size + 1 + 1) 0 (.slice none 0 0) (.slice none 0 0) (acH bs 0)) := by
  refine ⟨?_,?_,?_,?_,⟨rfl,.inl ⟨rfl,rfl⟩⟩,⟨rfl,.inl ⟨rfl,rfl⟩⟩,(fun k hk => by cases hk),hbw,d3,rfl,rfl,d2⟩
  ·have h1 : BkH w4 w.heap.size (.cells (Array.replicate S (.int .i64 0)) 3) := by
    rw [hw4]; exact (((qv w _).upB (q5 _ _)).upB (q5 _ _)).upB (q5 _ _)
   rw [d3,d4]
   unfold IzB
   rw [show ((List.replicate S (0 : Int)).map (Value.int .i64)).toArray = Array.replicate S (.int .i64 0) by simp]
   exact h1
  ·have h1 : BkH w4 (w.heap.size + 1) (.cells #[.slice none 0 0] 23) := by
    rw [hw4]; exact ((qh (by simp)).upB (q5 _ _)).upB (q5 _ _)
   exact h1
  ·have h1 : BkH w4 (w.heap.size + 1 + 1) (.cells #[.bool false] 4) := by
    rw [hw4]; exact (qh (by simp)).upB (q5 _ _)
   exact h1
  ·have h1 : BkH w4 (w.heap.size + 3) (.cells #[.slice (some ⟨gB,0,none⟩) S cB,.slice (some ⟨w.heap.size,0,none⟩) S S,.slice (some ⟨w.heap.size + 1,0,none⟩) 1 1,.slice (some ⟨w.heap.size + 1 + 1,0,none⟩) 1 1,.slice none 0 0] 96 (0,0)) := by
    rw [hw4]; exact qh (by simp)
   rw [d2,pgO,d5,d4,d6,d3]
   exact h1
 have hmk := fun w => qR S (S : Int) rfl (by omega) w
 rw [show ((List.replicate S (0 : Int)).map (Value.int .i64)).toArray = Array.replicate S (.int .i64 0) by simp] at hmk
 have HW4 : Hid _ := hw4
 have HBO : Hid _ := hB
 have HBW : Hid (BwM w D.gB D.S D.B) := by rw [d5,d4,d7]; exact hbk
 have HRR : Hid (RowsP D.S K R) := by rw [d4]; exact hR
 have HBK : Hid (BkOk D.S K R D.B) := by rw [d4,d7]; exact hBk
 have HBS : Hid (∀ s,s < D.S → (D.B.getD s []).length ≤ 100000) := by rw [d4,d7]; exact hBs
 have HD1 : Hid _ := d1
 have HD2 : Hid _ := d2
 have HD4 : Hid _ := d4
 clear hw4 hB hbk hR hBk hBs hbw hD d1 d3 d5 d6 d7 d4 d2
 go_enter Try.func41,Try.ntmps41
 go_wp2_with (rw [← HW4.out])
 clear hmk
 rw [show w.heap.size + 1 + 1 + 1 = D.b from HD2.out.symm]
 go_loopw [7,22] (fun v7 i wr => ∃ (k : Nat) (v0 : Value),k ≤ S ∧ i = .int .i64 (k : Int) ∧ Hid (ClL D w wr (w.heap.size + 1) (w.heap.size + 1 + 1) k v0 v7 (acH bs k))) (fun _ i _ => S - (intOf i).toNat)
 case atStart => exact ⟨0,_,Nat.zero_le _,rfl,HL0⟩
 case round =>
  clear HL0
  obtain ⟨k,v0,hk,rfl,HL⟩ := hrel
  obtain ⟨a0,c0,e0⟩ := qe HL.out.o0
  obtain ⟨a7,c7,e7⟩ := qe HL.out.o7
  subst e0 e7
  by_cases hlt : k < S
  ·obtain ⟨ixa,ca⟩ := (HBO.out.up HL.out.bel).getB hlt
   have c2 : wr.cell? ⟨D.b,2,none⟩ = some (.slice (some ⟨w.heap.size + 1,0,none⟩) 1 1) := q6 HL.out.blk 2
   have ci : wr.cell? ⟨w.heap.size + 1,0,none⟩ = some (.slice a0 k c0) := q6 HL.out.fi 0
   have hO : (wr.alloc (.cells #[.int .i64 (k : Int)] 3)).drew.ownsRow (w.heap.size + 4) 3 1 (.slice a0 k c0) k (izV (List.range k)) := World.ownsRow.alloc HL.out.o0 _
   have hcl : (wr.alloc (.cells #[.int .i64 (k : Int)] 3)).drew.cell? ⟨wr.heap.size,0,none⟩ = some (.int .i64 (k : Int)) := q6 (MapKept.heap_alloc wr _).1 0
   have hsz : w.heap.size + 4 ≤ (wr.alloc (.cells #[.int .i64 (k : Int)] 3)).drew.heap.size := by
    have h1 := (Array.getElem?_eq_some_iff.1 HL.out.blk).1
    have h2 := HL.out.lo.2.2.2
    simp; omega
   have c2b := q8 c2 (q5 wr (.cells #[.int .i64 (k : Int)] 3))
   have cib := q8 ci (q5 wr (.cells #[.int .i64 (k : Int)] 3))
   have HPUT : Hid _ := fun g c w5 q1 q2 q3 => HL.out.put0 (o := .cells #[.int .i64 (k : Int)] 3) (w5 := w5) (g := g) (c := c) q1 q2 q3
   have HAC : Hid _ := q8o bs k
   have hal := q9u bs k
   clear HL
   generalize bs.getD k false = y at *
   generalize adOf aA k = ad at *
   obtain ⟨ag,ao,az⟩ := ad
   go_upto_region 15 with fail
   go_region_law ((refine q2N rfl _ _ rfl (w.heap.size + 4) (.slice a0 k c0) k (List.range k) k wr.heap.size rfl rfl hO hcl (by omega) hsz ?_; intro g5 d5 w5 hown5 hgr5 hloc5; have m5 := HPUT.out g5 d5 w5 hown5 hgr5 hloc5; have c5' : w5.cell? ⟨w.heap.size + 1,0,none⟩ = some (.slice a0 k c0) := q6 m5.1 0; have z5 : w5.frozen? ⟨w.heap.size + 1,0,none⟩ = false := frozen_of_row w5 _ 0 _ _ m5.1; have b5 : w5.cell? ⟨D.b,2,none⟩ = some (.slice (some ⟨w.heap.size + 1,0,none⟩) 1 1) := q6 m5.2.1 2))
   all_goals
    have HL5 : Hid _ := m5.2.2
    clear m5 hown5 hgr5 hloc5 c5' z5 b5 HPUT hO hcl c2 ci c2b cib hsz ixa ca
    generalize w5.setCell ⟨w.heap.size + 1,0,none⟩ (.slice (some ⟨g5,0,none⟩) (k + 1) d5) = w6 at *
    cases y with
    | false =>
     have HL6 : Hid (ClL D w w6 (w.heap.size + 1) (w.heap.size + 1 + 1) (k + 1) (.slice (some ⟨g5,0,none⟩) (k + 1) d5) (.slice a7 (acH bs k).length c7) (acH bs (k + 1))) := by
      show ClL _ _ _ _ _ _ _ _ _
      rw [HAC.out]; exact HL5.out
     clear HL5 HAC
     go_wp2
     go_roundw
     case rel => exact ⟨k + 1,_,by omega,by go_num,HL6⟩
     case measure => simp [intOf]; omega
    | true =>
     have hO7 := World.ownsRow.alloc HL5.out.o7 (.cells #[.int .i64 (k : Int)] 3)
     have hcl7 : (w6.alloc (.cells #[.int .i64 (k : Int)] 3)).cell? ⟨w6.heap.size,0,none⟩ = some (.int .i64 (k : Int)) := q6 (MapKept.heap_alloc w6 _).1 0
     have hsz7 : w.heap.size + 4 ≤ (w6.alloc (.cells #[.int .i64 (k : Int)] 3)).heap.size := by
      have h1 := (Array.getElem?_eq_some_iff.1 HL5.out.blk).1
      have h2 := HL5.out.lo.2.2.2
      simp; omega
     have HP7 : Hid (∀ g c w7,w7.ownsRow (w.heap.size + 4) 3 1 (.slice (some ⟨g,0,none⟩) ((acH bs k).length + 1) c) ((acH bs k).length + 1) (izV (acH bs k ++ [k])) → (w6.alloc (.cells #[.int .i64 (k : Int)] 3)).grownBy w7 (Value.slice a7 (acH bs k).length c7).ownBlock → ((Value.slice a7 (acH bs k).length c7).ownBlock = some g ∨ g = w6.heap.size + 1) → ClL D w w7 (w.heap.size + 1) (w.heap.size + 1 + 1) (k + 1) (.slice (some ⟨g5,0,none⟩) (k + 1) d5) (.slice (some ⟨g,0,none⟩) ((acH bs k).length + 1) c) (acH bs (k + 1))) := fun g c w7 q1 q2 q3 => by
      rw [HAC.out]; exact HL5.out.put7 q1 q2 (q3.imp id (fun e => by simpa using e))
     clear HL5 HAC
     generalize acH bs k = ac at *
     generalize hacl : ac.length = al at *
     clear hacl
     go_wp2_with (at_builtin; refine qO rfl _ _ rfl (w.heap.size + 4) _ al ac rfl hO7 w6.heap.size k rfl hcl7 (by omega) hsz7 ?_)
     intro g9 c9 w9 hown hgr hloc
     have HL9 : Hid _ := HP7.out g9 c9 w9 hown hgr (hloc.imp id (fun e => by simpa using e))
     clear hown hgr hloc hO7 hcl7 hsz7 HP7
     go_wp2
     go_roundw
     case rel => exact ⟨k + 1,_,by omega,by go_num,HL9⟩
     case measure => simp [intOf]; omega
  ·obtain rfl : k = S := by omega
   have hL := HL.out
   rw [← HD4.out] at hL
   obtain ⟨a7',c7',e7',hP,hls⟩ := hL.fin HD1.out HBW.out
   rw [HD4.out] at e7'
   injection e7' with e71 _ e73
   subst e71 e73
   have HP : Hid _ := hP
   have jp := q2I hP (q3L (K := K) (R := R) (bs := bs) (by rw [HD4.out]; exact hS0) [] K) HRR.out rfl (by rw [HD4.out]; omega) (by simp) a7 c7 (acH bs D.S) hls (fun x hx => (q2e.1 hx).1) (q7C _ _) (fun s t hs ht hst => by
    rw [q2e,q2e]
    have := hst [] (fun _ h => by cases h)
    have e : bs.getD s false = bs.getD t false := this
    rw [e]
    exact ⟨fun h => ⟨ht,h.2⟩,fun h => ⟨hs,h.2⟩⟩)
   rw [HD4.out] at jp
   have HN : Hid (∀ w5,PtgL D k K R bs [] K (List.replicate k 0) [List.range k] [] (acH bs k) 1 wr (.slice (some ⟨w.heap.size + 1,0,none⟩) 1 1) (.slice (some ⟨w.heap.size + 1 + 1,0,none⟩) 1 1) (.slice none 0 0) w5 → ∃ vi vw vq vs of ins ws qu,ClQ D K R bs w w5 vi vw vq vs of ins ws qu) := fun w5 h5 => by
    obtain ⟨of5,ins5,ws5,qu5,⟨vi5,vw5,vq5,vs5,hp5,hf5⟩,hpt⟩ := h5
    have hst := q3L (K := K) (R := R) (bs := bs) hS0 [] K
    refine ⟨vi5,vw5,vq5,vs5,of5,ins5,ws5,qu5,hp5,by rw [HD4.out]; exact hpt.hop,fun s t hs ht e => ?_,?_⟩
    ·rw [HD4.out] at hs ht
     have := ((hpt.done hst.prt hs ht).1 e).2
     rw [q2e,q2e] at this
     cases h1 : bs.getD s false <;> cases h2 : bs.getD t false <;> simp [-List.getD_eq_getElem?_getD,h1,h2,hs,ht] at this ⊢
    ·have := hpt.cnt
     simp at this
     omega
   clear hL hP hls HL HP
   go_wp2_with fail
   refine jp.mono ?_
   rintro e w5 ⟨rfl,h5⟩
   obtain ⟨vi5,vw5,vq5,vs5,of5,ins5,ws5,qu5,hQ5⟩ := HN.out w5 h5
   have HQ0 : Hid _ := hQ5
   clear h5 HN jp hQ5
   go_wp2
   go_loopw [10] (fun _ wr => ∃ (vi vw vq : Value) (vs : List Value) (of : List Nat) (ins : List (List Nat)) (ws : List Bool) (qu : List Nat),Hid (ClQ D K R bs w wr vi vw vq vs of ins ws qu)) (fun _ wr => clM D wr)
   case atStart => exact ⟨vi5,vw5,vq5,vs5,of5,ins5,ws5,qu5,HQ0⟩
   case round =>
    clear HQ0
    obtain ⟨vi,vw,vq,vs,of,ins,ws,qu,HQ⟩ := hrel
    have hfew := HQ.out.hop.prt.few
    rw [HD4.out] at hfew
    have hmx := HQ.out.mx
    obtain ⟨ia,ic,rfl⟩ := qe HQ.out.pg.fi
    by_cases hqe : qu = []
    ·subst hqe
     obtain ⟨qa,qc,rfl⟩ := qe HQ.out.pg.fq
     obtain ⟨_,c1,c2,_,c4,_⟩ := HQ.out.pg.c
     have HE : Hid _ := HZ.out wr _ _ _ _ _ _ _ HQ.out
     rw [HD4.out] at c1
     have hno : ¬ ((256 : Int) < (ins.length : Int)) := by omega
     clear HZ HQ
     generalize ins.length = n5 at *
     go_wp2
     exact HE.out
    ·obtain ⟨qq,c,rfl⟩ : ∃ qq c,qu = qq ++ [c] := ⟨qu.dropLast,qu.getLast hqe,(List.dropLast_concat_getLast hqe).symm⟩
     have hc : c < ins.length := HQ.out.hop.ql c (by simp)
     have hcw : c < ws.length := by rw [HQ.out.hop.wl]; exact hc
     obtain ⟨_,_,c2,_,c4,fz⟩ := HQ.out.pg.c
     have f4 := fz 4
     obtain ⟨gq,cq,rfl,hcap,ccq,hP1,hF1⟩ := HQ.out.pg.popQ
     obtain ⟨_,_,_,c3,_,_⟩ := hP1.c
     obtain ⟨gw,cw,rfl,ccw,fcw,hP2,hF2⟩ := hP1.setW hcw false
     obtain ⟨gi,ci,la,lc,ei,cci,hls⟩ := hP2.inc hc
     injection ei with ei1 _ ei3
     subst ei1 ei3
     have hH := HQ.out.hop.pop HRR.out
     have hmem := fun s => HQ.out.hop.prt.mem c s hc
     have jb := q6W hP2 hH HRR.out HBK.out rfl (by rw [HD4.out]; omega) hK (by simp at hmx; omega) la lc hls (fun x hx => ((hmem x).1 hx).1) (HQ.out.hop.prt.nd c hc) (fun s t hs ht hst => by
      rw [hmem,hmem,HQ.out.hop.far s t hs ht hst]
      exact ⟨fun h => ⟨ht,h.2⟩,fun h => ⟨hs,h.2⟩⟩) HBS.out
     have HM0 : Hid _ := HQ.out.left
     have HN : Hid (∀ w9,ByL D D.S K R bs (ins.getD c []) 256 of ins qq ((wr.setCell ⟨D.b,4,none⟩ (.slice (some ⟨gq,0,none⟩) qq.length cq)).setCell ⟨gw,c,none⟩ (.bool false)) (.slice (some ⟨gi,0,none⟩) ins.length ic) (.slice (some ⟨gw,0,none⟩) ws.length cw) (.slice (some ⟨gq,0,none⟩) qq.length cq) w9 → ∃ vi vw vq vs of' ins' ws' qu',ClQ D K R bs w w9 vi vw vq vs of' ins' ws' qu' ∧ clM D w9 < clM D wr) := fun w9 h9 => by
      obtain ⟨of9,ins9,ws9,qu9,⟨vi9,vw9,vq9,vs9,hp9,hf9⟩,hh9,hr9,hc9,hi9⟩ := h9
      have hcl : ClQ D K R bs w w9 vi9 vw9 vq9 vs9 of9 ins9 ws9 qu9 := ⟨hp9,hh9.end' hK [],fun s t hs ht e => HQ.out.acc s t hs ht (hr9 s t hs ht e),by simp at hmx; omega⟩
      refine ⟨_,_,_,_,_,_,_,_,hcl,?_⟩
      rw [hcl.left,HM0.out]
      have h1 := hcl.hop.prt.few
      have h2 := HQ.out.hop.prt.few
      simp
      omega
     have ixq := fun w' => qg gq (qq.length + 1) cq qq.length (by omega) w'
     have ixw := fun w' => qw (P := Try.prog) (T := 22) Try.underlying22 q1i (a := some ⟨gw,0,none⟩) (cap := cw) (n := ws.length) (fun e => by cases e) c w' hcw
     simp only [adOf,q9,Nat.zero_add] at ixw
     have ixi := fun w' => qH gi ins.length ic c hc w'
     have c2b := hP2.c.2.2.1
     have hql : qq.length ≤ 2000 := by simp at hmx; omega
     have hle : ((ins.length : Int) ≤ 256) := by omega
     obtain ⟨w1,hw1⟩ : ∃ w1,w1 = wr.setCell ⟨D.b,4,none⟩ (.slice (some ⟨gq,0,none⟩) qq.length cq) := ⟨_,rfl⟩
     rw [← hw1] at c3 ccw fcw jb HN c2b cci
     obtain ⟨w2,hw2⟩ : ∃ w2,w2 = w1.setCell ⟨gw,c,none⟩ (.bool false) := ⟨_,rfl⟩
     rw [← hw2] at jb HN c2b cci
     have HW1 : Hid _ := hw1
     have HW2 : Hid _ := hw2
     clear hP1 hF1 hP2 hF2 hls hH hmem HQ fz hw1 hw2 hmx HM0 HZ
     generalize hqlen : qq.length = m at *
     clear hqlen
     generalize ins.length = n5 at *
     go_wp2_with (first | (rw [← HW1.out]) | (rw [← HW2.out]))
     refine jb.mono ?_
     rintro e w9 ⟨rfl,h9⟩
     obtain ⟨vi9,vw9,vq9,vs9,of9,ins9,ws9,qu9,hQ9,hlt9⟩ := HN.out w9 h9
     have HQ9 : Hid _ := hQ9
     have HLT : Hid _ := hlt9
     clear h9 HN jb hQ9 hlt9
     go_wp2
     go_roundw
     case rel => exact ⟨vi9,vw9,vq9,vs9,of9,ins9,ws9,qu9,HQ9⟩
     case measure => exact HLT.out
def encW (Y : List (Nat × Nat)) : List Value := Y.flatMap fun x => [.int .i32 (x.1 : Int),.int .u8 (x.2 : Int)]
theorem q7N (t : Nat × Nat) (Y : List (Nat × Nat)) : encW (t :: Y) = .int .i32 (t.1 : Int) :: .int .u8 (t.2 : Int) :: encW Y := rfl
theorem q8A (X Y : List (Nat × Nat)) : encW (X ++ Y) = encW X ++ encW Y := by simp [encW]
theorem q5B : ∀ (Y : List (Nat × Nat)) (k : Nat) (x : Nat × Nat),Y[k]? = some x → (encW Y)[2 * k]? = some (.int .i32 (x.1 : Int)) ∧ (encW Y)[2 * k + 1]? = some (.int .u8 (x.2 : Int))
 | [],k,x,h => by simp at h
 | t :: Y,0,x,h => by simp at h; subst h; exact ⟨rfl,rfl⟩
 | t :: Y,k + 1,x,h => by
  have := q5B Y k x (by simpa using h)
  rw [q7N,show 2 * (k + 1) = 2 * k + 1 + 1 by omega,show 2 * k + 1 + 1 + 1 = (2 * k + 1) + 1 + 1 by omega]
  simpa using this
theorem q8B (Y : List (Nat × Nat)) : ∀ u ∈ encW Y,u.oneCell' = true := by
 intro u hu
 unfold encW at hu
 obtain ⟨c,_,hc⟩ := List.mem_flatMap.1 hu
 simp at hc
 rcases hc with rfl | rfl <;> rfl
structure GbM (base : Nat) (wr : World) (vb : Value) (vs : List Value) (B : List (List (Nat × Nat))) : Prop where
 out : wr.ownsRow base 91 1 vb B.length vs
 own : ∀ (k : Nat) (v : Value),vs[k]? = some v → wr.ownsRow base 93 2 v (B.getD k []).length (encW (B.getD k []))
 ne : ∀ (k k' : Nat) (v v' : Value) (b : Nat),k ≠ k' → vs[k]? = some v → vs[k']? = some v' → v.ownBlock = some b → v'.ownBlock ≠ some b
variable {base : Nat} {wr : World} {vb : Value} {vs : List Value} {B : List (List (Nat × Nat))}
theorem q9G (base : Nat) (wr : World) : GbM base wr (.slice none 0 0) [] [] := ⟨⟨rfl,.inl ⟨rfl,rfl⟩⟩,fun k v hv => by simp at hv,fun k k' v v' b _ hv => by simp at hv⟩
theorem GbM.len (h : GbM base wr vb vs B) : vs.length = B.length := by have := h.out.1; omega
theorem GbM.fr (h : GbM base wr vb vs B) {w' : World} {F F' : Nat → Prop} (hf : Fr wr w' F F') (hz : NoW wr F) : GbM base w' vb vs B := by
 refine ⟨qb h.out (fun k hk => ?_),fun k v hv => qb (h.own k v hv) (fun j hj => ?_),h.ne⟩
 ·obtain ⟨cs,hc⟩ := qx h.out hk
  exact hf.keep k (Array.getElem?_eq_some_iff.1 hc).1 (fun e => (hz k e cs).1 hc)
 ·obtain ⟨cs,hc⟩ := qx (h.own k v hv) hj
  exact hf.keep j (Array.getElem?_eq_some_iff.1 hc).1 (fun e => (hz j e cs).2 hc)
theorem GbM.nil (h : GbM base wr vb vs B) {o : Obj} {w5 : World} {g c : Nat} (ho : w5.ownsRow base 91 1 (.slice (some ⟨g,0,none⟩) (B.length + 1) c) (B.length + 1) (vs ++ [.slice none 0 0])) (hg : (wr.alloc o).grownBy w5 vb.ownBlock) : GbM base w5 (.slice (some ⟨g,0,none⟩) (B.length + 1) c) (vs ++ [.slice none 0 0]) (B ++ [[]]) := by
 have hl := h.len
 have e : ∀ s,(B ++ [[]]).getD s [] = B.getD s [] := fun s => by
  rw [q1a]
  split
  ·rename_i e
   rw [e,List.getD_eq_getElem?_getD,List.getElem?_eq_none (Nat.le_refl _)]; rfl
  ·rfl
 have cut : ∀ {k : Nat} {v : Value},(vs ++ [Value.slice none 0 0])[k]? = some v → vs[k]? = some v ∨ v = .slice none 0 0 ∧ k = B.length := fun {k v} hv => by
  rw [List.getElem?_append] at hv
  split at hv
  ·exact .inl hv
  ·have := (List.getElem?_eq_some_iff.1 hv).1
   simp at this
   have e0 : k - vs.length = 0 := by omega
   rw [e0] at hv
   simp at hv
   exact .inr ⟨hv.symm,by omega⟩
 refine ⟨by rw [List.length_append,List.length_singleton]; exact ho,fun k v hv => ?_,fun k k' v v' b hkk hv hv' hb => ?_⟩
 ·rw [e]
  rcases cut hv with hv | ⟨rfl,hk⟩
  ·have hov := h.own k v hv
   exact qb hov (fun j hj => qt hg (hov.lt j hj).2 (qE hov h.out (by decide) hj))
  ·rw [hk,List.getD_eq_getElem?_getD,List.getElem?_eq_none (Nat.le_refl _)]
   exact ⟨rfl,.inl ⟨rfl,rfl⟩⟩
 ·rcases cut hv with hv | ⟨rfl,_⟩
  ·rcases cut hv' with hv' | ⟨rfl,_⟩
   ·exact h.ne k k' v v' b hkk hv hv' hb
   ·intro e; cases e
  ·cases hb
theorem GbM.at (h : GbM base wr vb vs B) {t : Nat} (ht : t < B.length) : ∃ gb cb a c,vb = .slice (some ⟨gb,0,none⟩) B.length cb ∧ base ≤ gb ∧ wr.cell? ⟨gb,t,none⟩ = some (.slice a (B.getD t []).length c) ∧ vs[t]? = some (.slice a (B.getD t []).length c) ∧ wr.ownsRow base 93 2 (.slice a (B.getD t []).length c) (B.getD t []).length (encW (B.getD t [])) := by
 have hl := h.len
 have hv : vs[t]? = some vs[t] := List.getElem?_eq_getElem (by omega)
 obtain ⟨a,c,e⟩ := qe (h.own t _ hv)
 have ho := h.own t _ hv
 rw [e] at hv ho
 rcases h.out.2 with ⟨_,h0⟩ | ⟨gb,cb,cur,rfl,hgb,hcell,_,_,_,htk⟩
 ·omega
 ·refine ⟨gb,cb,a,c,rfl,hgb,?_,hv,ho⟩
  rw [← htk,List.getElem?_take,if_pos (by omega)] at hv
  simp [World.cell?,hcell]
  simpa using hv
theorem GbM.put (h : GbM base wr vb vs B) {gb cb : Nat} (hvb : vb = .slice (some ⟨gb,0,none⟩) B.length cb) {t : Nat} (ht : t < B.length) {v : Value} (hv : vs[t]? = some v) {o : Obj} {w5 : World} {g c : Nat} {x : Nat × Nat} (ho : w5.ownsRow base 93 2 (.slice (some ⟨g,0,none⟩) ((B.getD t []).length + 1) c) ((B.getD t []).length + 1) (encW (B.getD t [] ++ [x]))) (hg : (wr.alloc o).grownBy w5 v.ownBlock) (hl : v.ownBlock = some g ∨ g = (wr.alloc o).heap.size) :
  (∃ u,w5.cell? ⟨gb,t,none⟩ = some u) ∧ w5.frozen? ⟨gb,t,none⟩ = false ∧ GbM base (w5.setCell ⟨gb,t,none⟩ (.slice (some ⟨g,0,none⟩) ((B.getD t []).length + 1) c)) vb (vs.set t (.slice (some ⟨g,0,none⟩) ((B.getD t []).length + 1) c)) (B.set t (B.getD t [] ++ [x])) ∧ base ≤ gb := by
 have hlen := h.len
 have hz : (wr.alloc o).heap.size = wr.heap.size + 1 := by simp
 have hvo := h.own t v hv
 have kp : ∀ j,j < wr.heap.size → v.ownBlock ≠ some j → w5.heap[j]? = wr.heap[j]? := fun j hj hne => qt hg hj hne
 have hob : vb.ownBlock = some gb := by rw [hvb]; rfl
 have hgb := (h.out.lt gb hob)
 have hvb' : v.ownBlock ≠ some gb := fun e => qE hvo h.out (by decide) e hob
 have hout5 : w5.ownsRow base 91 1 vb B.length vs := qb h.out (fun j hj => by
  have e : j = gb := by rw [hob] at hj; injection hj with hj; exact hj.symm
  subst e
  exact kp j hgb.2 hvb')
 obtain ⟨g',c',e',hge',_,hcv,hfv,hown⟩ := q2q hout5 ht (.slice (some ⟨g,0,none⟩) ((B.getD t []).length + 1) c)
 have eg : g' = gb := by
  rw [hvb] at e'
  injection e' with e' _ _
  injection e' with e'
  injection e' with e'
  exact e'.symm
 subst eg
 have st : ∀ j,j ≠ g' → (w5.setCell ⟨g',t,none⟩ (.slice (some ⟨g,0,none⟩) ((B.getD t []).length + 1) c)).heap[j]? = w5.heap[j]? := fun j hj => Below.heap_setCell _ _ _ _ (by dsimp only; exact hj)
 have ggb : g ≠ g' := fun e => by
  rcases hl with hl | hl
  ·exact hvb' (e ▸ hl)
  ·have := hgb.2; omega
 have hold : ∀ {k : Nat} {u : Value} {b : Nat},vs[k]? = some u → u.ownBlock = some b → b < wr.heap.size ∧ b ≠ g' := fun {k u b} hu hb => ⟨((h.own k u hu).lt b hb).2,fun e => qE (h.own k u hu) h.out (by decide) hb (e ▸ hob)⟩
 refine ⟨⟨_,hcv.trans (List.getElem?_eq_getElem (by omega))⟩,hfv,⟨by rw [List.length_set]; exact hown,fun k u hu => ?_,fun k k' u u' b hkk hu hu' hb => ?_⟩,hge'⟩
 ·rw [List.getElem?_set] at hu
  by_cases e : t = k
  ·subst e
   rw [if_pos rfl,if_pos (by omega)] at hu
   injection hu with hu
   subst hu
   rw [qs _ _ _ _ _ ht,if_pos rfl,List.length_append,List.length_singleton]
   refine qb ho (fun j hj => st j ?_)
   have e : g = j := by injection hj
   omega
  ·rw [if_neg e] at hu
   rw [qs _ _ _ _ _ ht,if_neg (fun h => e h.symm)]
   have hou := h.own k u hu
   exact qb hou (fun j hj => (st j (hold hu hj).2).trans (kp j (hold hu hj).1 (h.ne k t u v j (Ne.symm e) hu hv hj)))
 ·rw [List.getElem?_set] at hu hu'
  by_cases e : t = k
  ·subst e
   rw [if_pos rfl,if_pos (by omega)] at hu
   injection hu with hu
   subst hu
   rw [if_neg hkk] at hu'
   have e2 : g = b := by injection hb
   subst e2
   intro hb'
   rcases hl with hl | hl
   ·exact h.ne t k' v u' g hkk hv hu' hl hb'
   ·have := (hold hu' hb').1; omega
  ·rw [if_neg e] at hu
   by_cases e' : t = k'
   ·subst e'
    rw [if_pos rfl,if_pos (by omega)] at hu'
    injection hu' with hu'
    subst hu'
    intro hb'
    have e2 : g = b := by injection hb'
    subst e2
    rcases hl with hl | hl
    ·exact h.ne t k v u g (Ne.symm hkk) hv hu hl hb
    ·have := (hold hu hb).1; omega
   ·rw [if_neg e'] at hu'
    exact h.ne k k' u u' b hkk hu hu' hb
theorem GbM.bw (h : GbM base wr vb vs B) (hS : 0 < B.length) : ∃ g c,vb = .slice (some ⟨g,0,none⟩) B.length c ∧ base ≤ g ∧ BwM wr g B.length B := by
 rcases h.out.2 with ⟨_,h0⟩ | ⟨gb,cb,cur,rfl,hgb,hcell,_,_,_,htk⟩
 ·omega
 ·refine ⟨gb,cb,rfl,hgb,cur,hcell,fun s hs => ?_⟩
  have hl := h.len
  have hv : vs[s]? = some vs[s] := List.getElem?_eq_getElem (by omega)
  have ho := h.own s _ hv
  obtain ⟨a,c,e⟩ := qe ho
  rw [e] at hv ho
  refine ⟨a,c,?_,fun hp => ?_⟩
  ·rw [← htk,List.getElem?_take,if_pos (by omega)] at hv
   simpa using hv
  ·rcases ho.2 with ⟨_,h0⟩ | ⟨gi,ci,cu,e2,_,hci,_,_,_,htk2⟩
   ·omega
   ·injection e2 with e2 _ _
    refine ⟨gi,cu,e2,hci,fun k x hx => ?_⟩
    have hk := (List.getElem?_eq_some_iff.1 hx).1
    obtain ⟨h1,h2⟩ := q5B _ k x hx
    rw [← htk2,List.getElem?_take,if_pos (by omega)] at h1 h2
    exact ⟨by simpa using h1,by simpa using h2⟩
theorem q4U {w : World} {ops : Array Oper} {rest : List Oper} {o : Oper} {a : Act} {Q : Exit → Act → World → Prop} (hgd : o.guard = none) (s x : Operand)
  (ho : o.op = .call { callee := .builtin .append,args := #[s,x],argTypes := #[62,62] }) (base : Nat)
  (v : Value) (n : Nat) (vs : List Value) (hs : a.eval s = v) (hown : w.ownsRow base 91 1 v n vs) (g' : Nat) (hx : a.eval x = .slice (some ⟨g',0,none⟩) 1 1) (hc : w.cell? ⟨g',0,none⟩ = some (.slice none 0 0))
  (hn : n + 1 ≤ 2000000) (hbase : base ≤ w.heap.size)
  (h : ∀ g c w',w'.ownsRow base 91 1 (.slice (some ⟨g,0,none⟩) (n + 1) c) (n + 1) (vs ++ [.slice none 0 0]) → w.grownBy w' v.ownBlock → (v.ownBlock = some g ∨ g = w.heap.size) → wpList Try.prog ops Q rest (a.put o.dst (.slice (some ⟨g,0,none⟩) (n + 1) c)) w') : wpList Try.prog ops Q (o :: rest) a w := by
 have hI : (Try.prog.info? 91).map (fun i => (i.zero,i.size,i.bytes)) = some (some (.slice none 0 0),1,24) := by kernel_rfl
 obtain ⟨i,hi,hz0,hz1,hz2⟩ := info_parts hI
 refine wpList_append_lies w hgd s x 62 ho base 91 i _ 1 24 Try.underlying62 hi hz0 hz1 hz2 rfl (by decide) v n _ hs hown ⟨g',0,none⟩ 1 1 [.slice none 0 0] hx rfl ?_ (fun u hu => by simp at hu; subst hu; rfl) (by decide) (by unfold maxLen; omega) (by omega) hbase _ rfl ?_
 ·intro j u hj
  match j with
  | 0 => simp at hj; rw [← hj,q9]; exact hc
  | j + 1 => simp at hj
 ·intro g c w' h1 h2 h3 _
  exact h g c w' h1 h2 h3
theorem q4V {w : World} {ops : Array Oper} {rest : List Oper} {o : Oper} {a : Act} {Q : Exit → Act → World → Prop} (hgd : o.guard = none) (s x : Operand)
  (ho : o.op = .call { callee := .builtin .append,args := #[s,x],argTypes := #[91,91] }) (base : Nat)
  (v : Value) (n : Nat) (Y : List (Nat × Nat)) (y : Nat × Nat) (hs : a.eval s = v) (hown : w.ownsRow base 93 2 v n (encW Y)) (g' : Nat) (hx : a.eval x = .slice (some ⟨g',0,none⟩) 1 1) (hB : w.heap[g']? = some (.cells #[.int .i32 (y.1 : Int),.int .u8 (y.2 : Int)] 93 (0,0)))
  (hn : n + 1 ≤ 100000000) (hbase : base ≤ w.heap.size)
  (h : ∀ g c w',w'.ownsRow base 93 2 (.slice (some ⟨g,0,none⟩) (n + 1) c) (n + 1) (encW (Y ++ [y])) → w.grownBy w' v.ownBlock → (v.ownBlock = some g ∨ g = w.heap.size) → wpList Try.prog ops Q rest (a.put o.dst (.slice (some ⟨g,0,none⟩) (n + 1) c)) w') : wpList Try.prog ops Q (o :: rest) a w := by
 have hI : (Try.prog.info? 93).map (fun i => (i.zero,i.size,i.bytes)) = some (some (.agg #[.int .i32 0,.int .u8 0]),2,8) := by kernel_rfl
 obtain ⟨i,hi,hz0,hz1,hz2⟩ := info_parts hI
 refine wpList_append_lies w hgd s x 91 ho base 93 i _ 2 8 Try.underlying91 hi hz0 hz1 hz2 rfl (by decide) v n _ hs hown ⟨g',0,none⟩ 1 1 (encW [y]) hx rfl (fun j u hj => ?_) (q8B [y]) (by decide) (by unfold maxLen; omega) (by omega) hbase _ rfl ?_
 ·rw [q9,Nat.zero_add,q6 hB]
  simpa [encW] using hj
 ·intro g c w' h1 h2 h3 _
  exact h g c w' (by rw [q8A]; exact h1) h2 h3
end Go.Proofs.Ytcnkgokfjafgkaa
namespace Go.Proofs.Ytcnkgokfjafgkaa
open Go.RowKit Go.Maps Go.Sort
def rwN (R : List (List Nat)) (q : Nat) (cur : List Int) : List Int := (R.getD q []).map fun t => cur.getD t 0
def rwTo (row : List Nat) (cur : List Int) (k : Nat) : List Int := (row.take k).map (fun t => cur.getD t 0) ++ (row.drop k).map Int.ofNat
theorem q9f (row : List Nat) (cur : List Int) (k : Nat) : (rwTo row cur k).length = row.length := by
 rw [rwTo,List.length_append,List.length_map,List.length_map,List.length_take,List.length_drop]; omega
theorem q87 (row : List Nat) (cur : List Int) : rwTo row cur 0 = row.map Int.ofNat := by simp [rwTo]
theorem q9e (row : List Nat) (cur : List Int) : rwTo row cur row.length = row.map fun t => cur.getD t 0 := by simp [rwTo]
theorem qa9 {row : List Nat} {cur : List Int} {k : Nat} (h : k < row.length) : (rwTo row cur k).getD k 0 = ((row.getD k 0 : Nat) : Int) := by
 have h1 : ((row.take k).map (fun t => cur.getD t 0)).length = k := by rw [List.length_map,List.length_take]; omega
 rw [rwTo,List.getD_eq_getElem?_getD,List.getElem?_append_right (by omega),h1,Nat.sub_self,List.getElem?_map,List.getElem?_drop,Nat.add_zero,List.getElem?_eq_getElem h,qd h]
 rfl
theorem q86 {row : List Nat} {cur : List Int} {k : Nat} (h : k < row.length) : (rwTo row cur k).set k (cur.getD (row.getD k 0) 0) = rwTo row cur (k + 1) := by
 have h1 : ((row.take k).map (fun t => cur.getD t 0)).length = k := by rw [List.length_map,List.length_take]; omega
 rw [rwTo,rwTo,List.set_append_right _ _ (by omega),h1,Nat.sub_self,qD h,List.map_append,List.append_assoc]
 congr 1
 rw [List.drop_eq_getElem_cons h]
 rfl
theorem q5g (p : Int) (aA : Option Addr) (nA cA : Nat) (aG : Option Addr) (nG cG : Nat) (aN : Option Addr) (nN cN : Nat) (N : List Gd) (gs : List Int) (q g : Nat) (cur : List Int) (w : World) (hM : MayG p nA N gs) (hN : NdSl w aN nN cN N) (hG : ZSl w aG nG cG gs) (hU : NuB w g cur) (hq : q < nA) :
  Calls Try.prog 53 #[.agg #[.int .i64 p,.slice aA nA cA,.slice aG nG cG,.slice aN nN cN],.int .i64 (q : Int),.slice (some ⟨g,0,none⟩) nA 256] w fun e w' => Below w.heap.size w w' ∧ ∃ a c,e = .returned (.slice a (2 ^ p.toNat) c) ∧ w'.ownsRow w.heap.size 3 1 (.slice a (2 ^ p.toNat) c) (2 ^ p.toNat) ((rwN (rwA p N gs) q cur).map (Value.int .i64)) := by
 obtain ⟨Q,hQ⟩ : ∃ Q : Ending → World → Prop,Q = fun e w' => Below w.heap.size w w' ∧ ∃ a c,e = .returned (.slice a (2 ^ p.toNat) c) ∧ w'.ownsRow w.heap.size 3 1 (.slice a (2 ^ p.toNat) c) (2 ^ p.toNat) ((rwN (rwA p N gs) q cur).map (Value.int .i64)) := ⟨_,rfl⟩
 have HQ : Hid (∀ a c w',Below w.heap.size w w' → w'.ownsRow w.heap.size 3 1 (.slice a (2 ^ p.toNat) c) (2 ^ p.toNat) ((rwN (rwA p N gs) q cur).map (Value.int .i64)) → Q (.returned (.slice a (2 ^ p.toNat) c)) w') := fun a c w' h1 h2 => by rw [hQ]; exact ⟨h1,a,c,rfl,h2⟩
 rw [← hQ]
 clear hQ
 have hb0 := q5 w (.cells #[.int .i64 p,.slice aA nA cA,.slice aG nG cG,.slice aN nN cN] 26 (0,0))
 have HB0 : Hid _ := hb0
 have HV0 : Hid _ := qr w p aA nA cA aG nG cG aN nN cN
 have hqR : q < nG := by have h1 := hG.hlen; have h2 := hM.len; omega
 have hixg := fun w' => hG.idx nG q w' hqR (Nat.le_refl _)
 have hcg := (hG.up hb0).cell q hqR
 have hi64 := q3k hM (q := q) (by have h2 := hM.len; omega)
 have hk256 := hM.k256
 have h256 := hM.s2
 have hRr := (hM.rows (2 ^ p.toNat)).row q hq
 have HRL : Hid (∀ k,k < 2 ^ p.toNat → ((rwA p N gs).getD q []).getD k 0 < nA) := fun k hk => (hM.rows (2 ^ p.toNat)).lt q k hq hk
 have htab := hM.tab (K := 2 ^ p.toNat) hq
 have jt := q1I p aN nN cN N (gs.getD q 0) (w.alloc (.cells #[.int .i64 p,.slice aA nA cA,.slice aG nG cG,.slice aN nN cN] 26 (0,0))).drew ((hN.up hb0).up ((Below.refl _ _).drew)) hi64
 have HT : Hid (∀ e w6,TabRO p N (gs.getD q 0) (w.alloc (.cells #[.int .i64 p,.slice aA nA cA,.slice aG nG cG,.slice aN nN cN] 26 (0,0))).drew e w6 → ∃ a c,e = .returned (.tuple #[.slice a (2 ^ p.toNat) c,.int .i64 0]) ∧ Below w.heap.size w w6 ∧ w6.ownsRow (w.heap.size + 1) 3 1 (.slice a (2 ^ p.toNat) c) (2 ^ p.toNat) ((((rwA p N gs).getD q []).map Int.ofNat).map (Value.int .i64))) := fun e w6 hq2 => by
  obtain ⟨hb,⟨h1,_⟩ | ⟨_,_,⟨h3,_⟩ | ⟨l,a,c,h3,rfl,h4⟩⟩⟩ := hq2
  ·exact absurd ⟨hM.p0,hM.p8⟩ h1
  ·rw [htab] at h3; cases h3
  ·rw [htab] at h3; injection h3 with h3; subst h3
   have hl : (((rwA p N gs).getD q []).map Int.ofNat).length = 2 ^ p.toNat := by rw [List.length_map]; exact hRr
   rw [hl] at h4 ⊢
   refine ⟨a,c,rfl,q7 hb0 (q7 ((Below.refl _ _).drew) hb),?_⟩
   simpa using h4
 have HE0 : Hid (rwN (rwA p N gs) q cur = ((rwA p N gs).getD q []).map fun t => cur.getD t 0) := rfl
 have HUU : Hid _ := hU
 have HRR : Hid _ := hRr
 clear hM hN hG hU hb0 hRr htab hi64
 generalize (rwA p N gs).getD q [] = row at *
 generalize rwN (rwA p N gs) q cur = res at *
 generalize 2 ^ p.toNat = K at *
 obtain ⟨c0,c1,c2,c3⟩ := HV0.out
 generalize gs.getD q 0 = rq at *
 generalize adOf aG q = ag at *
 obtain ⟨ag1,ag2,ag3⟩ := ag
 have dq1 : decide (nG ≤ q) = false := by simp; exact hqR
 go_enter Try.func53,Try.ntmps53
 go_upto_region 1 with fail
 go_cut [7] (fun v7 wx => ∃ (ya : Option Addr) (yc : Nat),v7 = .slice ya K yc ∧ Hid (Below w.heap.size w wx) ∧ Hid (wx.ownsRow (w.heap.size + 1) 3 1 (.slice ya K yc) K ((row.map Int.ofNat).map (Value.int .i64))))
 case first =>
  go_region_with (first
   | (go_at_call 74; (with_reducible refine jt.mono ?_); intro e w6 hq6; obtain ⟨ya,yc,rfl,hb6,ho6⟩ := HT.out e w6 hq6; have HB6 : Hid _ := hb6; have HO6 : Hid _ := ho6; clear hq6 hb6 ho6)
   | fail)
  all_goals
   go_wp2_with fail
   go_meet
   exact ⟨_,_,rfl,HB6,HO6⟩
 case rest =>
 obtain ⟨ya,yc,rfl,HB6,HO6⟩ := hcut
 generalize wc = w6 at *
 clear jt HT c0 c1 c2 c3 hcg hixg
 have HO0 : Hid (w6.ownsRow (w.heap.size + 1) 3 1 (.slice ya K yc) K ((rwTo row cur 0).map (Value.int .i64))) := by rw [q87]; exact HO6.out
 clear HO6
 go_wp2
 go_loopw [26] (fun i wr => ∃ k : Nat,k ≤ K ∧ i = .int .i64 (k : Int) ∧ Hid (wr.ownsRow (w.heap.size + 1) 3 1 (.slice ya K yc) K ((rwTo row cur k).map (Value.int .i64))) ∧ Hid (Below (w.heap.size + 1) w6 wr)) (fun i _ => K - (intOf i).toNat)
 case atStart => exact ⟨0,Nat.zero_le _,rfl,HO0,Below.refl _ _⟩
 case round =>
  obtain ⟨k,hk,rfl,HO,HW⟩ := hrel
  clear HO0
  by_cases hlt : k < K
  ·have hkr : k < row.length := by rw [HRR.out]; exact hlt
   obtain ⟨gw,cw,ev,hgw,hnc,hcv,hfv,hown⟩ := q2q HO.out hlt (.int .i64 (cur.getD (row.getD k 0) 0))
   injection ev with ev1 _ ev3
   subst ev1 ev3
   have hcv2 : wr.cell? ⟨gw,k,none⟩ = some (.int .i64 ((row.getD k 0 : Nat) : Int)) := by
    have h2 : k < (rwTo row cur k).length := by rw [q9f]; exact hkr
    rw [hcv,List.getElem?_map,List.getElem?_eq_getElem h2,← qd h2 0,qa9 hkr]; rfl
   have HO2 : Hid ((wr.setCell ⟨gw,k,none⟩ (.int .i64 (cur.getD (row.getD k 0) 0))).ownsRow (w.heap.size + 1) 3 1 (.slice (some ⟨gw,0,none⟩) K yc) K ((rwTo row cur (k + 1)).map (Value.int .i64))) := by
    rw [← q86 hkr,List.map_set]; exact hown
   have HW2 : Hid (Below (w.heap.size + 1) w6 (wr.setCell ⟨gw,k,none⟩ (.int .i64 (cur.getD (row.getD k 0) 0)))) := HW.out.setCell hgw _
   have hix : ∀ w',(Instr.indexAt 23 (.slice (some ⟨gw,0,none⟩) K yc) (.int .i64 (k : Int))).run Try.prog w' = .ok (.pointer (some ⟨gw,k,none⟩)) w' := fun w' => by
    have := qw (P := Try.prog) (T := 23) Try.underlying23 qf (a := some ⟨gw,0,none⟩) (cap := yc) (n := K) (fun e => by cases e) k w' hlt
    simpa [adOf,q9] using this
   have htn := HRL.out k hlt
   have hi2 := fun w' => q2F g nA (row.getD k 0) htn w'
   have hgl := HUU.out.lt
   have hnu : NuB wr g cur := ⟨(HW.out.block g (by omega)).trans ((HB6.out.block g hgl).trans HUU.out.row),HUU.out.len⟩
   have hc2 := hnu.row.cell (i := row.getD k 0) (by rw [hnu.len]; omega)
   clear hcv hown HO hnu hkr
   generalize row.getD k 0 = t at *
   generalize cur.getD t 0 = z at *
   have dt0 : decide ((t : Int) < 0) = false := by simp
   have dt1 : decide (nA ≤ t) = false := by simp; exact htn
   go_wp2
   go_roundw
   case rel => exact ⟨k + 1,by omega,by go_num,HO2,HW2⟩
   case measure => simp [intOf]; omega
  ·obtain rfl : k = K := by omega
   have HE : Hid _ := HQ.out ya yc wr (HB6.out.trans (HW.out.mono (by omega))) (by
    have := HO.out
    rw [show k = row.length from HRR.out.symm,q9e,← HE0.out,HRR.out] at this
    exact qy this (by omega))
   clear HO HW HQ
   go_wp2
   exact HE.out
end Go.Proofs.Ytcnkgokfjafgkaa
