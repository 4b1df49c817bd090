/- Texts of the proof, put together: what it uses. -/
import Derived.BigQuiet
import Derived.Lib.QuietBelow
import Derived.Test.YtllebfffmmnoeaaZ00
import Derived.Test.YtllebfffmmnoeaaZ02
import Derived.Test.YtllebfffmmnoeaaZ07
import Derived.Test.YtllebfffmmnoeaaZ09
set_option maxRecDepth 100000
set_option maxHeartbeats 16000000
namespace Go.Proofs.Ytllebfffmmnoeaa
open Go.RowKit Go.Maps
def PtgR (K : Nat) (R : List (List Nat)) (bs : List Bool) (p q : Nat) (w : World) (e : Ending) (w' : World) : Prop :=
 Below w.heap.size w w' ∧ ∃ ts is a c,e = .returned (.tuple #[.slice a ts.length c,.bool is]) ∧ PartA K R bs p q ts is ∧ w'.ownsRow w.heap.size 54 1 (.slice a ts.length c) ts.length (ltV ts)
theorem q1y (aA : Option Addr) (cA : Nat) (aT : Option Addr) (cT n K : Nat) (bs : List Bool) (R : List (List Nat)) (p q : Nat) (w : World) (hM : MvS w aA cA aT cT n bs R) (hR : RowsP n K R) (hK : K ≤ 256) (h256 : n ≤ 256) (hp : p < n) (hq : q < n) :
  Calls Try.prog 32 #[.agg #[.slice aA n cA,.slice aT n cT],.int .i64 (p : Int),.int .i64 (q : Int)] w (PtgR K R bs p q w) := by
 obtain ⟨Z,eZ⟩ : ∃ Z,Z = PtgR K R bs p q w := ⟨_,rfl⟩
 have HZ : Hid (∀ w' ts is a c,Below w.heap.size w w' → PartA K R bs p q ts is → w'.ownsRow w.heap.size 54 1 (.slice a ts.length c) ts.length (ltV ts) → Z (.returned (.tuple #[.slice a ts.length c,.bool is])) w') := fun w' ts is a c hb h1 h2 => by rw [eZ]; exact ⟨hb,ts,is,a,c,rfl,h1,h2⟩
 rw [← eZ]
 clear eZ
 obtain ⟨NN,hNN⟩ : ∃ NN,NN = n * n := ⟨_,rfl⟩
 have hNb : NN ≤ 65536 := by rw [hNN]; exact Nat.mul_le_mul h256 h256
 have hnn1 : IntKind.i64.wrap ((n : Int) * (n : Int)) = (NN : Int) := by rw [hNN,← Int.natCast_mul,IntKind.wrap_i64]; omega
 have hnn2 : ((n : Int) * (n : Int)) = (NN : Int) := by rw [hNN,Int.natCast_mul]
 obtain ⟨PN,hPN⟩ : ∃ PN,PN = p * n := ⟨_,rfl⟩
 have hPl : PN + q < NN := by rw [hPN,hNN]; exact qP hp hq
 have hpn1 : IntKind.i64.wrap ((p : Int) * (n : Int)) = (PN : Int) := by rw [hPN,← Int.natCast_mul,IntKind.wrap_i64]; omega
 have hpn2 : ((p : Int) * (n : Int)) = (PN : Int) := by rw [hPN,Int.natCast_mul]
 have hmk := fun w => q1x NN NN (NN : Int) (NN : Int) rfl rfl (Nat.le_refl _) (by omega) w
 obtain ⟨C,hC⟩ : ∃ C,C = ((zB NN).map Value.bool).toArray := ⟨_,rfl⟩
 have hix0 : ∀ w',(Instr.indexAt 22 (.slice (some ⟨w.heap.size + 1,0,none⟩) NN NN) (.int .i64 ((PN : Int) + (q : Int)))).run Try.prog w' = .ok (.pointer (some ⟨w.heap.size + 1,PN + q,none⟩)) w' := fun w' => by
  have := qz (w.heap.size + 1) NN (PN + q) hPl w'
  simpa using this
 have hm2 : MetR ((w.alloc (.cells #[.slice aA n cA,.slice aT n cT] 60 (0,0))).alloc (.cells C 4)) (w.heap.size + 1) n [] := by
  have := q41 (w.alloc (.cells #[.slice aA n cA,.slice aT n cT] 60 (0,0))) n
  rw [← hNN,← hC] at this
  simpa using this
 obtain ⟨cm,fm⟩ := hm2.at hp hq
 have hm3 := hm2.put (x := (p,q,0,0)) hp hq
 dsimp only at hm3
 rw [← hPN] at cm fm hm3
 rw [← hC] at hmk
 have HM0 : Hid (PtM w ((((w.alloc (.cells #[.slice aA n cA,.slice aT n cT] 60 (0,0))).alloc (.cells C 4)).setCell ⟨w.heap.size + 1,PN + q,none⟩ (.bool true)).alloc (.cells #[.int .i64 (p : Int),.int .i64 (q : Int),.int .i64 0,.int .u8 0] 83)) aA cA aT cT n (.slice (some ⟨w.heap.size + 2,0,none⟩) 1 1) [(p,q,0,0)]) := by
  have h1 := (qi w (.slice aA n cA) (.slice aT n cT)).up (q6 _ (.cells C 4))
  have hb2 : Below w.heap.size w ((w.alloc (.cells #[.slice aA n cA,.slice aT n cT] 60 (0,0))).alloc (.cells C 4)) := q5 (q6 w _) (q6 _ _)
  have hb3 : Below w.heap.size w (((w.alloc (.cells #[.slice aA n cA,.slice aT n cT] 60 (0,0))).alloc (.cells C 4)).setCell ⟨w.heap.size + 1,PN + q,none⟩ (.bool true)) := hb2.setCell (by dsimp only; omega) _
  have hnb := (MapKept.heap_alloc (((w.alloc (.cells #[.slice aA n cA,.slice aT n cT] 60 (0,0))).alloc (.cells C 4)).setCell ⟨w.heap.size + 1,PN + q,none⟩ (.bool true)) (.cells #[.int .i64 (p : Int),.int .i64 (q : Int),.int .i64 0,.int .u8 0] 83)).1
  refine ⟨MvB.up ((Below.heap_setCell _ _ _ _ (by dsimp only; omega)).trans h1) (q6 _ _),hm3.up (q6 _ _),⟨rfl,.inr ⟨w.heap.size + 2,1,_,rfl,Nat.le_refl _,by simpa using hnb,Nat.le_refl _,by decide,rfl,rfl⟩⟩,q5 hb3 (q6 _ _)⟩
 have HQ0 : Hid (QuP n K R bs p q 0 0 [(p,q,0,0)]) := q3L hp hq
 have hmv := qi w (.slice aA n cA) (.slice aT n cT)
 have m1 := hmv.c1
 have HHM : Hid _ := hM
 have HR : Hid _ := hR
 have HNN : Hid _ := hNN
 clear hC hm2 hm3 hmv hM hR hNN hPN
 go_enter Try.func32,Try.ntmps32
 go_wp2
 have HM4 : Hid (PtM w (((w.alloc (.cells #[.slice aA n cA,.slice aT n cT] 60 (0,0))).alloc (.cells (C.setIfInBounds (PN + q) (.bool true)) 4)).alloc (.cells #[.int .i64 (p : Int),.int .i64 (q : Int),.int .i64 0,.int .u8 0] 83)) aA cA aT cT n (.slice (some ⟨w.heap.size + 2,0,none⟩) 1 1) [(p,q,0,0)]) := by
  have e := HM0.out
  simp [go_sem] at e
  exact e
 clear HM0 m1 fm cm hix0 hmk hpn1 hpn2 hnn1 hnn2
 go_loopw [10,11] (fun v i wr => ∃ (j : Nat) (Q : List PrP),i = .int .i64 (j : Int) ∧ Hid (QuP n K R bs p q j 0 Q) ∧ Hid (PtM w wr aA cA aT cT n v Q) ∧ j ≤ Q.length) (fun _ i _ => NN - (intOf i).toNat)
 case atStart => exact ⟨0,[(p,q,0,0)],rfl,HQ0,HM4,Nat.zero_le _⟩
 case round =>
  obtain ⟨j,Q,rfl,HQ,HPM,hjQ⟩ := hrel
  clear HQ0 HM4
  have hQl : Q.length ≤ NN := by rw [HNN.out]; exact HQ.out.len
  obtain ⟨gq,cq,rfl,hgq1,hgq2⟩ := World.ownsRow.form HPM.out.qo (by have := (List.getElem?_eq_some_iff.1 HQ.out.head).1; omega)
  by_cases hlt : j < Q.length
  ·obtain ⟨x,hx⟩ : ∃ x,Q[j]? = some x := ⟨_,List.getElem?_eq_getElem hlt⟩
   obtain ⟨gq1,cq1,oo,e1,_,_,hix,c0,c1,c2,c3⟩ := PqO.at HPM.out.qo hx
   injection e1 with e1 _ e3
   injection e1 with e1
   injection e1 with e1
   subst e1; subst e3
   have hxl := HQ.out.lt x (q1q hx)
   have HX : Hid _ := hx
   obtain ⟨xp,xq,xf,xb⟩ := x
   dsimp only at c0 c1 c2 c3 hxl
   obtain ⟨hx1,hx2,_,_⟩ := hxl
   have hb1 := q6 wr (.cells #[.int .i64 (xp : Int),.int .i64 (xq : Int),.int .i64 (xf : Int),.int .u8 (xb : Int)] 83 (0,0))
   have HP1 : Hid (PtM w (wr.alloc (.cells #[.int .i64 (xp : Int),.int .i64 (xq : Int),.int .i64 (xf : Int),.int .u8 (xb : Int)] 83 (0,0))) aA cA aT cT n (.slice (some ⟨gq,0,none⟩) Q.length cq) Q) := HPM.out.up hb1
   have HPR : Hid (PrB (wr.alloc (.cells #[.int .i64 (xp : Int),.int .i64 (xq : Int),.int .i64 (xf : Int),.int .u8 (xb : Int)] 83 (0,0))) wr.heap.size (xp,xq,xf,xb)) := q1Y wr (xp,xq,xf,xb)
   have h0 := q7 HPR.out 0
   have h1 := q7 HPR.out 1
   simp only [List.getElem?_toArray,List.getElem?_cons_zero,List.getElem?_cons_succ] at h0 h1
   have m0 := HP1.out.mb.c0
   have m1 := HP1.out.mb.c1
   obtain ⟨ib1,cb1⟩ := (HHM.out.bo.up HP1.out.bel).at xp hx1
   obtain ⟨ib2,cb2⟩ := (HHM.out.bo.up HP1.out.bel).at xq hx2
   have ib1 := fun w' => ib1 n w' hx1
   have ib2 := fun w' => ib2 n w' hx2
   have hbl := HHM.out.bo.hlen
   have gb1 : bs.getD xp false = bs[xp] := by rw [List.getD_eq_getElem?_getD,List.getElem?_eq_getElem (by omega)]; rfl
   have gb2 : bs.getD xq false = bs[xq] := by rw [List.getD_eq_getElem?_getD,List.getElem?_eq_getElem (by omega)]; rfl
   have HGB : Hid (bs.getD xp false = bs[xp] ∧ bs.getD xq false = bs[xq]) := ⟨gb1,gb2⟩
   clear gb1 gb2
   generalize bs[xp] = y1 at *
   generalize bs[xq] = y2 at *
   have HGE : Hid (gq ≠ wr.heap.size) := by show gq ≠ _; omega
   clear hbl hx HPM hb1
   generalize adOf aA xp = ad1 at *
   obtain ⟨a1g,a1o,a1z⟩ := ad1
   generalize adOf aA xq = ad2 at *
   obtain ⟨a2g,a2o,a2z⟩ := ad2
   go_wp2
   generalize hW : wr.alloc (.cells #[.int .i64 (xp : Int),.int .i64 (xq : Int),.int .i64 (xf : Int),.int .u8 (xb : Int)] 83 (0,0)) = wx at *
   have HW : Hid _ := hW
   clear hW
   generalize hG : wr.heap.size = gx at *
   have HG : Hid _ := hG
   clear hG
   by_cases hy : y1 = y2
   ·subst hy
    obtain ⟨rg,ro,rz,ra,rl,rc,hrx,hrc,hrz⟩ := (HHM.out.up HP1.out.bel).row hx1
    have hrl : rl = K := by have := hrz.hlen; rw [List.length_map,HR.out.row xp hx1] at this; exact this.symm
    subst hrl
    clear hrz
    go_quiet (fail)
    go_wp2
    have HL0 : Hid (PtM w (wx.drewN nq) aA cA aT cT n (.slice (some ⟨gq,0,none⟩) Q.length cq) Q) := HP1.out.up (below_drewN (Below.refl _ _) nq)
    have HR0 : Hid (PrB (wx.drewN nq) gx (xp,xq,xf,xb)) := HPR.out.up (below_drewN (Below.refl _ _) nq)
    generalize wx.drewN nq = wz at *
    have HN0 : Hid ((Value.slice (some ⟨gq,0,none⟩) Q.length cq).ownBlock ≠ some gx) := fun e => by injection e with e; exact HGE.out e
    have HGX : Hid (w.heap.size + 2 ≤ gx) := by show _ ≤ _; omega
    clear hrx hrc h0 h1 m0 m1 ib1 ib2 cb1 cb2 HP1 HPR hix c0 c1 c2 c3 HGE hgq1 hgq2
    go_loopw [10,66] (fun v i wy => ∃ (k : Nat) (Q2 : List PrP),k ≤ rl ∧ i = .int .i64 (k : Int) ∧ Hid (QuP n rl R bs p q j k Q2) ∧ Hid (PtM w wy aA cA aT cT n v Q2) ∧ Hid (PrB wy gx (xp,xq,xf,xb)) ∧ Hid (v.ownBlock ≠ some gx) ∧ Hid (Q2[j]? = some (xp,xq,xf,xb))) (fun _ i _ => rl - (intOf i).toNat)
    case atStart => exact ⟨0,Q,Nat.zero_le _,rfl,HQ,HL0,HR0,HN0,HX⟩
    case round =>
     clear HQ HL0 HR0 HN0 HX
     obtain ⟨k,Q2,hk,rfl,HQ,HPM,HPR,HNE,HX⟩ := hrel
     have hQl2 : Q2.length ≤ NN := by rw [HNN.out]; exact HQ.out.len
     obtain ⟨gv,cv,rfl,hgv1,hgv2⟩ := World.ownsRow.form HPM.out.qo (by have := (List.getElem?_eq_some_iff.1 HX.out).1; omega)
     by_cases hkK : k < rl
     ·obtain ⟨rg,ro,rz,ra1,rl1,rc1,hrx,hrc,hrz⟩ := (HHM.out.up HPM.out.bel).row hx1
      obtain ⟨sg,so,sz,sa,sl,sc,hsx,hsc,hsz⟩ := (HHM.out.up HPM.out.bel).row hx2
      have hrl : rl1 = rl := by have := hrz.hlen; rw [List.length_map,HR.out.row xp hx1] at this; exact this.symm
      have hsl : sl = rl := by have := hsz.hlen; rw [List.length_map,HR.out.row xq hx2] at this; exact this.symm
      subst hrl; subst hsl
      have ik1 := fun w' => hrz.idx sl k w' hkK (Nat.le_refl _)
      have ck1 := hrz.cell k hkK
      have ik2 := fun w' => hsz.idx sl k w' hkK (Nat.le_refl _)
      have ck2 := hsz.cell k hkK
      rw [qg (by rw [HR.out.row xp hx1]; exact hkK)] at ck1
      rw [qg (by rw [HR.out.row xq hx2]; exact hkK)] at ck2
      have hs := HR.out.lt xp k hx1 hkK
      have ht := HR.out.lt xq k hx2 hkK
      have HSK : Hid ((trP R xp k,trP R xq k) ∈ pqP Q2 → QuP n sl R bs p q j (k + 1) Q2) := fun h => HQ.out.skip HX.out h
      have HPU : Hid ((trP R xp k,trP R xq k) ∉ pqP Q2 → QuP n sl R bs p q j (k + 1) (Q2 ++ [(trP R xp k,trP R xq k,j,k)])) := fun h => HQ.out.push HR.out hK HX.out hkK h
      change wr.cell? _ = some (.int .i64 ((trP R xp k : Nat) : Int)) at ck1
      change wr.cell? _ = some (.int .i64 ((trP R xq k : Nat) : Int)) at ck2
      generalize trP R xp k = s at *
      generalize trP R xq k = t at *
      have h0 := q7 HPR.out 0
      have h1 := q7 HPR.out 1
      simp only [List.getElem?_toArray,List.getElem?_cons_zero,List.getElem?_cons_succ] at h0 h1
      have m1 := HPM.out.mb.c1
      have hkm : (k : Int) % 256 = k := by omega
      obtain ⟨SN,hSN⟩ : ∃ SN,SN = s * n := ⟨_,rfl⟩
      have hSl : SN + t < NN := by rw [hSN,HNN.out]; exact qP hs ht
      have hsn1 : IntKind.i64.wrap ((s : Int) * (n : Int)) = (SN : Int) := by rw [hSN,← Int.natCast_mul,IntKind.wrap_i64]; omega
      have hsn2 : ((s : Int) * (n : Int)) = (SN : Int) := by rw [hSN,Int.natCast_mul]
      have hix0 : ∀ w',(Instr.indexAt 22 (.slice (some ⟨w.heap.size + 1,0,none⟩) NN NN) (.int .i64 ((SN : Int) + (t : Int)))).run Try.prog w' = .ok (.pointer (some ⟨w.heap.size + 1,SN + t,none⟩)) w' := fun w' => by
       have := qz (w.heap.size + 1) NN (SN + t) hSl w'
       simpa using this
      have hj65 : j ≤ 65536 := by have := (List.getElem?_eq_some_iff.1 HX.out).1; omega
      clear hrz hsz HQ
      generalize adOf ra1 k = ad3 at *
      obtain ⟨b1g,b1o,b1z⟩ := ad3
      generalize adOf sa k = ad4 at *
      obtain ⟨b2g,b2o,b2z⟩ := ad4
      have HSN : Hid _ := hSN
      clear hSN
      have g1 : gx < wr.heap.size := HPR.out.lt
      have g2 : w.heap.size < wr.heap.size := HPM.out.mb.lt
      have g3 : rg < wr.heap.size := World.block_lt_of_cell? _ _ hrc
      have g4 : sg < wr.heap.size := World.block_lt_of_cell? _ _ hsc
      have g5 : b1g < wr.heap.size := World.block_lt_of_cell? _ _ ck1
      have g6 : b2g < wr.heap.size := World.block_lt_of_cell? _ _ ck2
      have hbw : Below wr.heap.size wr (wr.alloc (.cells #[.int .i64 (s : Int),.int .i64 (t : Int),.int .i64 (j : Int),.int .u8 (k : Int)] 83)).drew := (q6 wr _).drew
      have HPM5 : Hid (PtM w (wr.alloc (.cells #[.int .i64 (s : Int),.int .i64 (t : Int),.int .i64 (j : Int),.int .u8 (k : Int)] 83)).drew aA cA aT cT n (.slice (some ⟨gv,0,none⟩) Q2.length cv) Q2) := HPM.out.up hbw
      have HPX5 : Hid (PrB (wr.alloc (.cells #[.int .i64 (s : Int),.int .i64 (t : Int),.int .i64 (j : Int),.int .u8 (k : Int)] 83)).drew gx (xp,xq,xf,xb)) := HPR.out.up hbw
      have HPN5 : Hid (PrB (wr.alloc (.cells #[.int .i64 (s : Int),.int .i64 (t : Int),.int .i64 (j : Int),.int .u8 (k : Int)] 83)).drew wr.heap.size (s,t,j,k)) := q1Y wr (s,t,j,k)
      clear hbw
      go_wp2
      go_cut [14] (fun t5 wx5 => t5 = .pointer (some ⟨wr.heap.size,0,none⟩) ∧ Hid (PtM w wx5 aA cA aT cT n (.slice (some ⟨gv,0,none⟩) Q2.length cv) Q2) ∧ Hid (PrB wx5 gx (xp,xq,xf,xb)) ∧ Hid (PrB wx5 wr.heap.size (s,t,j,k)))
      case first =>
       go_region
       go_wp2_with fail
       go_meet
       case rel => exact ⟨rfl,HPM5,HPX5,HPN5⟩
      clear HPM5 HPX5 HPN5 HPM HPR hrc hsc ck1 ck2 hrx hsx ik1 ik2 h0 h1 m1 g3 g4 g5 g6
      obtain ⟨rfl,HPM5,HPX5,HPN5⟩ := hcut
      generalize wr.heap.size = gn at *
      have n0 := q7 HPN5.out 0
      have n1 := q7 HPN5.out 1
      have n2 := q7 HPN5.out 2
      have n3 := q7 HPN5.out 3
      simp only [List.getElem?_toArray,List.getElem?_cons_zero,List.getElem?_cons_succ] at n0 n1 n2 n3
      obtain ⟨cm,fm⟩ := HPM5.out.met.at hs ht
      rw [← HSN.out] at cm fm
      by_cases hm : (s,t) ∈ pqP Q2
      ·have HQ3 : Hid _ := HSK.out hm
       rw [decide_eq_true hm] at cm
       clear HSK HPU hm HPN5
       go_wp2
       go_roundw
       case rel => exact ⟨k + 1,Q2,by omega,by go_num,HQ3,HPM5,HPX5,HNE,HX⟩
       case measure => simp [intOf]; omega
      ·have HQ3 : Hid _ := HPU.out hm
       rw [decide_eq_false hm] at cm
       have hgn : w.heap.size + 2 ≤ gn := by have := HGX.out; omega
       have hfn : ∀ i,(wc.setCell ⟨w.heap.size + 1,SN + t,none⟩ (.bool true)).cell? ⟨gn,i,none⟩ = wc.cell? ⟨gn,i,none⟩ := fun i => World.cell?_of_block (Below.heap_setCell _ _ _ _ (by dsimp only; omega))
       have p0 := (hfn 0).trans n0
       have p1 := (hfn 1).trans n1
       have p2 := (hfn 2).trans n2
       have p3 := (hfn 3).trans n3
       have HQ6 : Hid (PqO ((wc.setCell ⟨w.heap.size + 1,SN + t,none⟩ (.bool true)).alloc (.cells #[.int .i64 (s : Int),.int .i64 (t : Int),.int .i64 (j : Int),.int .u8 (k : Int)] 83)) (w.heap.size + 2) (.slice (some ⟨gv,0,none⟩) Q2.length cv) Q2.length Q2) := World.ownsRow.alloc (q1r HPM5.out.qo (by dsimp only; omega) _) _
       have HP6 : Hid (PrB ((wc.setCell ⟨w.heap.size + 1,SN + t,none⟩ (.bool true)).alloc (.cells #[.int .i64 (s : Int),.int .i64 (t : Int),.int .i64 (j : Int),.int .u8 (k : Int)] 83)) (wc.setCell ⟨w.heap.size + 1,SN + t,none⟩ (.bool true)).heap.size (s,t,j,k)) := q1Y _ (s,t,j,k)
       have HP6 : Hid (PrB ((wc.setCell ⟨w.heap.size + 1,SN + t,none⟩ (.bool true)).alloc (.cells #[.int .i64 (s : Int),.int .i64 (t : Int),.int .i64 (j : Int),.int .u8 (k : Int)] 83)) wc.heap.size (s,t,j,k)) := by
        have := HP6.out
        simp at this
        exact this
       have hb6 : w.heap.size + 2 ≤ ((wc.setCell ⟨w.heap.size + 1,SN + t,none⟩ (.bool true)).alloc (.cells #[.int .i64 (s : Int),.int .i64 (t : Int),.int .i64 (j : Int),.int .u8 (k : Int)] 83)).heap.size := by
        have := HPM5.out.met.lt
        simp; omega
       have hQ26 : Q2.length + 1 ≤ 2000000 := by omega
       clear hfn n2 n3 HSK hm HPN5
       go_wp2_with (at_builtin; refine q2g rfl _ _ rfl (w.heap.size + 2) _ Q2.length Q2 (s,t,j,k) rfl HQ6.out wc.heap.size rfl HP6.out hQ26 hb6 ?_)
       intro g7 c7 w7 hq7 hg7 hl7
       have HPX7 : Hid (PrB w7 gx (xp,xq,xf,xb)) := by
        have hgs := HPX5.out.lt
        have hgx := HGX.out
        have h1 := hg7.block gx (by simp; omega) (fun e => HNE.out e.symm)
        rw [(q6 (wc.setCell ⟨w.heap.size + 1,SN + t,none⟩ (.bool true)) _).block gx (by simpa using hgs),Below.heap_setCell _ _ _ _ (by dsimp only; omega)] at h1
        exact h1.trans HPX5.out
       have HNE7 : Hid ((Value.slice (some ⟨g7,0,none⟩) (Q2.length + 1) c7).ownBlock ≠ some gx) := fun e => by
        have hgs := HPX5.out.lt
        injection e with e
        dsimp only at e
        rcases hl7 with h | h
        ·exact HNE.out (by rw [h,e])
        ·omega
       have HPM7 : Hid (PtM w w7 aA cA aT cT n (.slice (some ⟨g7,0,none⟩) (Q2.length + 1) c7) (Q2 ++ [(s,t,j,k)])) := by
        rw [HSN.out] at hg7
        exact HPM5.out.push (x := (s,t,j,k)) hs ht hq7 hg7
       have HX7 : Hid ((Q2 ++ [(s,t,j,k)])[j]? = some (xp,xq,xf,xb)) := by
        show _ = _
        rw [List.getElem?_append_left (List.getElem?_eq_some_iff.1 HX.out).1]
        exact HX.out
       clear hq7 hg7 hl7 HQ6 HP6 hb6 p0 p1 p2 p3 HPM5 HPX5 HX HNE HZ
       go_wp2
       go_roundw
       case rel => exact ⟨k + 1,_,by omega,by go_num,HQ3,HPM7,HPX7,HNE7,HX7⟩
       case measure => simp [intOf]; omega
     ·obtain rfl : k = rl := by omega
      have HQ3 : Hid _ := HQ.out.next HX.out (by rw [HGB.out.1,HGB.out.2])
      have hj2 : j < Q2.length := (List.getElem?_eq_some_iff.1 HX.out).1
      have hjN : j < NN := by omega
      clear HQ HX HZ
      go_wp2
      go_roundw
      case rel => exact ⟨j + 1,Q2,by go_num,HQ3,HPM,hj2⟩
      case measure => simp [intOf]; omega
   ·obtain ⟨ts,hup,_⟩ := HQ.out.up_ex j j (Nat.le_refl _) hlt
    have HF : Hid _ := HQ.out.found HX.out (by rw [HGB.out.1,HGB.out.2]; exact hy) hup
    have jt := fun nq => q2w (w.heap.size + 2) Q.length gq cq Q j ts (wx.drewN nq) (q3J HP1.out.qo nq) (by omega) hlt hup (fun j x h0 hx => by have := HQ.out.back j x h0 hx; exact ⟨this.1,by omega⟩)
    have HE : Hid (∀ nq e w',TrcR ts.reverse (wx.drewN nq) e w' → ∃ L a c,e = .returned (.slice a L c) ∧ Z (.returned (.tuple #[.slice a L c,.bool true])) w') := fun nq e w' hq => by
     obtain ⟨hb,a,c,rfl,ho⟩ := hq
     have hb2 := q5 HP1.out.bel (below_drewN (Below.refl _ _) nq)
     exact ⟨_,a,c,rfl,HZ.out w' ts.reverse true a c (q5 hb2 hb) HF.out (q2d ho (by have := hb2.size; omega))⟩
    clear hup HF HZ HQ HP1
    cases y1 <;> cases y2 <;> first | exact absurd rfl hy | skip
    all_goals
     go_quiet (fail)
     go_wp2_with fail
     refine (jt _).mono ?_
     intro e w' hq
     obtain ⟨L,a,c,rfl,hz⟩ := HE.out _ e w' hq
     have HE2 : Hid _ := hz
     clear hq hz jt HE
     go_wp2
     exact HE2.out
  ·have hjl : j = Q.length := by omega
   have HE : Hid _ := HZ.out wr [] false none 0 HPM.out.bel (.inr ⟨rfl,rfl,HQ.out.alike (by omega)⟩) ⟨rfl,.inl ⟨rfl,rfl⟩⟩
   have hdj : ¬ (j : Int) < (Q.length : Int) := by omega
   clear HZ HQ HPM hjl
   simp only [List.length_nil] at HE
   go_wp2
   exact HE.out
def RchR (R : List (List Nat)) (n : Nat) (w : World) (e : Ending) (w' : World) : Prop :=
 Below w.heap.size w w' ∧ ∃ a c,e = .returned (.slice a (rchP R n 0 [0]).length c) ∧ ZSl w' a (rchP R n 0 [0]).length c ((rchP R n 0 [0]).map Int.ofNat)
def MeS (w : World) (g n : Nat) (Q : List Nat) : Prop := ∃ ms,BoRow w g ms ∧ ms.length = n ∧ ∀ a,a < n → ms.getD a false = decide (a ∈ Q)
theorem MeS.lt {w : World} {g n : Nat} {Q : List Nat} (h : MeS w g n Q) : g < w.heap.size := by obtain ⟨ms,h1,_⟩ := h; exact h1.ltP
theorem MeS.up {w w' : World} {g n : Nat} {Q : List Nat} (h : MeS w g n Q) (hb : Below w.heap.size w w') : MeS w' g n Q := by
 obtain ⟨ms,h1,h2⟩ := h; exact ⟨ms,h1.upP hb,h2⟩
theorem MeS.far {w w' : World} {g n : Nat} {Q : List Nat} (h : MeS w g n Q) (hb : w'.heap[g]? = w.heap[g]?) : MeS w' g n Q := by
 obtain ⟨ms,h1,h2⟩ := h; exact ⟨ms,hb.trans h1,h2⟩
theorem MeS.at {w : World} {g n : Nat} {Q : List Nat} (h : MeS w g n Q) {a : Nat} (ha : a < n) : w.cell? ⟨g,a,none⟩ = some (.bool (decide (a ∈ Q))) ∧ w.frozen? ⟨g,a,none⟩ = false := by
 obtain ⟨ms,h1,h2,h3⟩ := h
 exact ⟨by rw [h1.cellP (by omega),h3 a ha],h1.fzP _⟩
theorem MeS.put {w : World} {g n : Nat} {Q : List Nat} (h : MeS w g n Q) {s : Nat} (hs : s < n) : MeS (w.setCell ⟨g,s,none⟩ (.bool true)) g n (Q ++ [s]) := by
 obtain ⟨ms,h1,h2,h3⟩ := h
 refine ⟨_,h1.setP _ true,by rw [List.length_set]; exact h2,fun a ha => ?_⟩
 rw [List.getD_eq_getElem?_getD,List.getElem?_set,h2]
 by_cases e : s = a
 ·subst e; simp [hs]
 ·have e' : ¬ a = s := fun h => e h.symm
  rw [if_neg e,← List.getD_eq_getElem?_getD,h3 a ha]
  simp [e']
theorem q4h (w : World) (n : Nat) : MeS (w.alloc (.cells ((zB n).map Value.bool).toArray 4)) w.heap.size n [] := by
 refine ⟨zB n,(MapKept.heap_alloc w _).1,by simp [zB],fun a ha => ?_⟩
 simp [zB,List.getD_eq_getElem?_getD,ha]
structure RcM (w wr : World) (aA : Option Addr) (cA : Nat) (aT : Option Addr) (cT n : Nat) (v : Value) (Q : List Nat) : Prop where
 mb : MvB wr w.heap.size (.slice aA n cA) (.slice aT n cT)
 met : MeS wr (w.heap.size + 1) n Q
 qo : wr.ownsRow (w.heap.size + 2) 3 1 v Q.length ((Q.map Int.ofNat).map (Value.int .i64))
 bel : Below w.heap.size w wr
 nd : Q.Nodup
 lt : ∀ x ∈ Q,x < n
theorem RcM.up {w wr w' : World} {aA : Option Addr} {cA : Nat} {aT : Option Addr} {cT n : Nat} {v : Value} {Q : List Nat} (h : RcM w wr aA cA aT cT n v Q) (hb : Below wr.heap.size wr w') : RcM w w' aA cA aT cT n v Q := ⟨h.mb.up hb,h.met.up hb,qO h.qo hb,q5 h.bel hb,h.nd,h.lt⟩
theorem RcM.len {w wr : World} {aA : Option Addr} {cA : Nat} {aT : Option Addr} {cT n : Nat} {v : Value} {Q : List Nat} (h : RcM w wr aA cA aT cT n v Q) : Q.length ≤ n := q2b h.nd h.lt
theorem RcM.push {w wr w7 : World} {aA : Option Addr} {cA : Nat} {aT : Option Addr} {cT n : Nat} {v : Value} {Q : List Nat} (h : RcM w wr aA cA aT cT n v Q) {s : Nat} (hs : s < n) (hm : s ∉ Q) {o : Obj} {v7 : Value}
  (hq : w7.ownsRow (w.heap.size + 2) 3 1 v7 (Q.length + 1) ((Q.map Int.ofNat ++ [(s : Int)]).map (Value.int .i64))) (hg : ((wr.setCell ⟨w.heap.size + 1,s,none⟩ (.bool true)).alloc o).grownBy w7 v.ownBlock) :
  RcM w w7 aA cA aT cT n v7 (Q ++ [s]) := by
 have hge : ∀ b,v.ownBlock = some b → w.heap.size + 2 ≤ b := qw h.qo
 have hsz : wr.heap.size ≤ ((wr.setCell ⟨w.heap.size + 1,s,none⟩ (.bool true)).alloc o).heap.size := by simp
 have keep : ∀ b,b < wr.heap.size → b < w.heap.size + 2 → w7.heap[b]? = (wr.setCell ⟨w.heap.size + 1,s,none⟩ (.bool true)).heap[b]? := fun b hb1 hb2 => by
  rw [hg.block b (by omega) (fun e => by have := hge b e.symm; omega)]
  exact (q6 (wr.setCell ⟨w.heap.size + 1,s,none⟩ (.bool true)) o).block b (by simpa using hb1)
 refine ⟨?_,?_,by rw [List.length_append,List.map_append]; exact hq,?_,?_,fun x hx => ?_⟩
 ·exact (keep _ h.mb.lt (by omega)).trans ((Below.heap_setCell _ _ _ _ (by dsimp only; omega)).trans h.mb)
 ·exact (h.met.put hs).far (keep _ h.met.lt (by omega))
 ·have h1 : Below w.heap.size w (wr.setCell ⟨w.heap.size + 1,s,none⟩ (.bool true)) := h.bel.setCell (by dsimp only; omega) _
  have h2 := h1.alloc h1.size o
  exact h2.grown hg h2.size (fun q e => by have := hge q e; omega)
 ·rw [List.nodup_append]
  exact ⟨h.nd,by simp,fun a ha b hb => by simp only [List.mem_singleton] at hb; subst hb; exact fun e => hm (e ▸ ha)⟩
 ·rcases List.mem_append.1 hx with hx | hx
  ·exact h.lt x hx
  ·simp only [List.mem_singleton] at hx; omega
theorem q1z (aA : Option Addr) (cA : Nat) (aT : Option Addr) (cT n K : Nat) (bs : List Bool) (R : List (List Nat)) (w : World) (hM : MvS w aA cA aT cT n bs R) (hR : RowsP n K R) (hK : K ≤ 256) (h1n : 1 ≤ n) (h256 : n ≤ 256) :
  Calls Try.prog 28 #[.agg #[.slice aA n cA,.slice aT n cT]] w (RchR R n w) := by
 obtain ⟨Z,eZ⟩ : ∃ Z,Z = RchR R n w := ⟨_,rfl⟩
 obtain ⟨G,eG⟩ : ∃ G,G = rchP R n 0 [0] := ⟨_,rfl⟩
 have HZ : Hid (∀ w' a L c,Below w.heap.size w w' → L = G.length → ZSl w' a L c (G.map Int.ofNat) → Z (.returned (.slice a L c)) w') := fun w' a L c hb hL h1 => by subst hL; rw [eZ]; unfold RchR; rw [← eG]; exact ⟨hb,a,c,rfl,h1⟩
 rw [← eZ]
 clear eZ
 have hmk := fun w => q1x n n (n : Int) (n : Int) rfl rfl (Nat.le_refl _) (by omega) w
 obtain ⟨C,hC⟩ : ∃ C,C = ((zB n).map Value.bool).toArray := ⟨_,rfl⟩
 have hix0 : ∀ w',(Instr.indexAt 22 (.slice (some ⟨w.heap.size + 1,0,none⟩) n n) (.int .i64 0)).run Try.prog w' = .ok (.pointer (some ⟨w.heap.size + 1,0,none⟩)) w' := fun w' => by
  have := qz (w.heap.size + 1) n 0 (by omega) w'
  simpa using this
 have hm2 : MeS ((w.alloc (.cells #[.slice aA n cA,.slice aT n cT] 60 (0,0))).alloc (.cells C 4)) (w.heap.size + 1) n [] := by
  have := q4h (w.alloc (.cells #[.slice aA n cA,.slice aT n cT] 60 (0,0))) n
  rw [← hC] at this
  simpa using this
 obtain ⟨cm,fm⟩ := hm2.at (a := 0) (by omega)
 have hm3 := hm2.put (s := 0) (by omega)
 rw [← hC] at hmk
 have hM0 : RcM w ((((w.alloc (.cells #[.slice aA n cA,.slice aT n cT] 60 (0,0))).alloc (.cells C 4)).setCell ⟨w.heap.size + 1,0,none⟩ (.bool true)).alloc (.cells #[.int .i64 0] 3)) aA cA aT cT n (.slice (some ⟨w.heap.size + 2,0,none⟩) 1 1) [0] := by
  have h1 := (qi w (.slice aA n cA) (.slice aT n cT)).up (q6 _ (.cells C 4))
  have hb2 : Below w.heap.size w ((w.alloc (.cells #[.slice aA n cA,.slice aT n cT] 60 (0,0))).alloc (.cells C 4)) := q5 (q6 w _) (q6 _ _)
  have hb3 : Below w.heap.size w (((w.alloc (.cells #[.slice aA n cA,.slice aT n cT] 60 (0,0))).alloc (.cells C 4)).setCell ⟨w.heap.size + 1,0,none⟩ (.bool true)) := hb2.setCell (by dsimp only; omega) _
  have hnb := (MapKept.heap_alloc (((w.alloc (.cells #[.slice aA n cA,.slice aT n cT] 60 (0,0))).alloc (.cells C 4)).setCell ⟨w.heap.size + 1,0,none⟩ (.bool true)) (.cells #[.int .i64 0] 3)).1
  exact ⟨MvB.up ((Below.heap_setCell _ _ _ _ (by dsimp only; omega)).trans h1) (q6 _ _),hm3.up (q6 _ _),⟨rfl,.inr ⟨w.heap.size + 2,1,_,rfl,Nat.le_refl _,by simpa using hnb,Nat.le_refl _,by decide,rfl,rfl⟩⟩,q5 hb3 (q6 _ _),by simp,fun x hx => by simp at hx; omega⟩
 have HM0 : Hid (RcM w (((w.alloc (.cells #[.slice aA n cA,.slice aT n cT] 60 (0,0))).alloc (.cells (C.setIfInBounds 0 (.bool true)) 4)).alloc (.cells #[.int .i64 0] 3)) aA cA aT cT n (.slice (some ⟨w.heap.size + 2,0,none⟩) 1 1) [0]) := by
  have e := hM0
  simp [go_sem] at e
  exact e
 have m1 := (qi w (.slice aA n cA) (.slice aT n cT)).c1
 have HHM : Hid _ := hM
 have HR : Hid _ := hR
 have HG0 : Hid (rchP R (n - 0) 0 [0] = G) := by show _ = _; rw [eG,Nat.sub_zero]
 clear hC hm2 hm3 hM hR hM0 eG
 go_enter Try.func28,Try.ntmps28
 go_wp2
 clear m1 fm cm hix0 hmk
 go_loopw [4,5] (fun v i wr => ∃ (j : Nat) (Q : List Nat),i = .int .i64 (j : Int) ∧ Hid (rchP R (n - j) j Q = G) ∧ Hid (RcM w wr aA cA aT cT n v Q) ∧ j ≤ Q.length) (fun _ i _ => n - (intOf i).toNat)
 case atStart => exact ⟨0,[0],rfl,HG0,HM0,Nat.zero_le _⟩
 case round =>
  obtain ⟨j,Q,rfl,HG,HPM,hjQ⟩ := hrel
  clear HG0 HM0
  have hQl : Q.length ≤ n := HPM.out.len
  obtain ⟨va,vc,rfl,hU,hUb,_⟩ := q3i HPM.out.qo Try.underlying23 qc
  by_cases hlt : j < Q.length
  ·have hix := fun w' => hU.idx Q.length j w' hlt (Nat.le_refl _)
   have hce := hU.cell j hlt
   rw [qg hlt] at hce
   have hqn : Q.getD j 0 < n := HPM.out.lt _ (by rw [List.getD_eq_getElem?_getD,List.getElem?_eq_getElem hlt]; exact List.getElem_mem hlt)
   have HGS : Hid (rchP R (n - (j + 1)) (j + 1) ((R.getD (Q.getD j 0) []).foldl putR Q) = G) := by
    show _ = _
    rw [← HG.out,show n - j = (n - (j + 1)) + 1 by omega,q3M _ _ hlt]
   generalize Q.getD j 0 = q at *
   obtain ⟨rg,ro,rz,ra,rl,rc,hrx,hrc,hrz⟩ := HHM.out.row hqn
   have hrc := q9 hrc HPM.out.bel
   have hrl : rl = K := by have := hrz.hlen; rw [List.length_map,HR.out.row q hqn] at this; exact this.symm
   subst hrl
   have m1 := HPM.out.mb.c1
   have HRS : Hid ((R.getD q []).length = rl) := HR.out.row q hqn
   have HRL : Hid (∀ k,k < rl → (R.getD q []).getD k 0 < n) := fun k hk => HR.out.lt q k hqn hk
   generalize R.getD q [] = row at *
   have HRZ : Hid (IntSl Try.prog 23 .i64 w ra rl rc (row.map Int.ofNat)) := hrz
   have HP0 : Hid (∀ nq,RcM w (wr.drewN nq) aA cA aT cT n (.slice va Q.length vc) Q) := fun nq => HPM.out.up (below_drewN (Below.refl _ _) nq)
   clear hU hUb HG hrz HPM
   generalize adOf va j = ad at *
   obtain ⟨ag,ao,az⟩ := ad
   go_wp2
   go_quiet (fail)
   go_wp2
   have HPN : Hid _ := HP0.out nq
   clear HP0 hix hce hrx hrc m1
   generalize wr.drewN nq = wz at *
   go_loopw [4,30] (fun v i wy => ∃ (k : Nat) (Q2 : List Nat),k ≤ rl ∧ i = .int .i64 (k : Int) ∧ Hid ((row.take k).foldl putR Q = Q2) ∧ Hid (RcM w wy aA cA aT cT n v Q2)) (fun _ i _ => rl - (intOf i).toNat)
   case atStart => exact ⟨0,Q,Nat.zero_le _,rfl,rfl,HPN⟩
   case round =>
    clear HPN
    obtain ⟨k,Q2,hk,rfl,HF,HPM⟩ := hrel
    have hQl2 : Q2.length ≤ n := HPM.out.len
    obtain ⟨ua,uc,rfl⟩ := qt HPM.out.qo
    by_cases hkK : k < rl
    ·have ik1 := fun w' => HRZ.out.idx rl k w' hkK (Nat.le_refl _)
     have ck1 := (HRZ.out.up HPM.out.bel).cell k hkK
     have hkr : k < row.length := by rw [HRS.out]; exact hkK
     rw [qg hkr] at ck1
     have hs := HRL.out k hkK
     have HFN : Hid ((row.take (k + 1)).foldl putR Q = putR Q2 (row.getD k 0)) := by show _ = _; rw [q3A row Q hkr,HF.out]
     generalize row.getD k 0 = s at *
     generalize adOf ra k = ad3 at *
     obtain ⟨b1g,b1o,b1z⟩ := ad3
     have hixm := fun w' => qz (w.heap.size + 1) n s hs w'
     obtain ⟨cm,fm⟩ := HPM.out.met.at hs
     by_cases hm : s ∈ Q2
     ·have HF2 : Hid ((row.take (k + 1)).foldl putR Q = Q2) := by show _ = _; rw [HFN.out,putR,if_pos hm]
      rw [decide_eq_true hm] at cm
      clear HF HFN hm
      go_wp2
      go_roundw
      case rel => exact ⟨k + 1,Q2,by omega,by go_num,HF2,HPM⟩
      case measure => simp [intOf]; omega
     ·have HF2 : Hid ((row.take (k + 1)).foldl putR Q = Q2 ++ [s]) := by show _ = _; rw [HFN.out,putR,if_neg hm]
      rw [decide_eq_false hm] at cm
      have HM2 : Hid (s ∉ Q2) := hm
      have HO6 : Hid (((wr.setCell ⟨w.heap.size + 1,s,none⟩ (.bool true)).alloc (.cells #[.int .i64 (s : Int)] 3)).ownsRow (w.heap.size + 2) 3 1 (.slice ua Q2.length uc) Q2.length ((Q2.map Int.ofNat).map (Value.int .i64))) := World.ownsRow.alloc (q1r HPM.out.qo (by dsimp only; omega) _) _
      have hc6 : ((wr.setCell ⟨w.heap.size + 1,s,none⟩ (.bool true)).alloc (.cells #[.int .i64 (s : Int)] 3)).cell? ⟨wr.heap.size,0,none⟩ = some (.int .i64 (s : Int)) := by
       have := q7 (MapKept.heap_alloc (wr.setCell ⟨w.heap.size + 1,s,none⟩ (.bool true)) (.cells #[.int .i64 (s : Int)] 3)).1 0
       simpa using this
      have hb6 : w.heap.size + 2 ≤ ((wr.setCell ⟨w.heap.size + 1,s,none⟩ (.bool true)).alloc (.cells #[.int .i64 (s : Int)] 3)).heap.size := by
       have := HPM.out.met.lt
       simp; omega
      have hQ26 : Q2.length + 1 ≤ 2000000 := by omega
      clear HF HFN hm
      go_wp2_with (at_builtin; refine qW rfl _ _ rfl (w.heap.size + 2) _ Q2.length (Q2.map Int.ofNat) rfl HO6.out wr.heap.size (s : Int) rfl hc6 hQ26 hb6 ?_)
      intro v7 w7 hq7 hg7
      have HPM7 : Hid _ := HPM.out.push hs HM2.out (by rw [List.map_append,List.map_map]; exact hq7) hg7
      clear hq7 hg7 HO6 hc6 hb6 HPM HM2
      go_wp2
      go_roundw
      case rel => exact ⟨k + 1,_,by omega,by go_num,HF2,HPM7⟩
      case measure => simp [intOf]; omega
    ·obtain rfl : k = rl := by omega
     have HG3 : Hid (rchP R (n - (j + 1)) (j + 1) Q2 = G) := by
      show _ = _
      rw [← HGS.out,← HF.out,List.take_of_length_le (by rw [HRS.out]; exact Nat.le_refl _)]
     have hj2 : j + 1 ≤ Q2.length := by
      have h1 := (q25 (row.take k) Q).length_le
      rw [HF.out] at h1
      omega
     clear HF HZ
     go_wp2
     go_roundw
     case rel => exact ⟨j + 1,Q2,by go_num,HG3,HPM,hj2⟩
     case measure => simp [intOf]; omega
  ·have hjl : j = Q.length := by omega
   have hG : Q = G := by rw [← HG.out,q45 _ _ (by omega)]
   have HE : Hid _ := HZ.out wr va Q.length vc HPM.out.bel (by rw [hG]) (by rw [← hG]; exact hU)
   have hdj : ¬ (j : Int) < (Q.length : Int) := by omega
   clear HZ HG HPM hjl hU hUb hG
   go_wp2
   exact HE.out
theorem q2Y (w : World) : ZSl w none 0 0 [] := ⟨rfl,Nat.le_refl _,Nat.zero_le _,fun m k w hk hm => absurd hk (by omega),fun k hk => absurd hk (by omega),fun k hk => absurd hk (by omega),fun _ => rfl⟩
abbrev rwA (p : Int) (N : List Gd) (gs : List Int) : List (List Nat) := rowsG N gs (2 ^ p.toNat)
theorem MayG.k256 {p : Int} {ns : Nat} {N : List Gd} {gs : List Int} (h : MayG p ns N gs) : 2 ^ p.toNat ≤ 256 := by
 have h8 := h.p8
 have : 2 ^ p.toNat ≤ 2 ^ 8 := Nat.pow_le_pow_right (by decide) (by omega)
 omega
def CaR (p : Int) (nA : Nat) (bs : List Bool) (N : List Gd) (gs : List Int) (w : World) (e : Ending) (w' : World) : Prop :=
 Below w.heap.size w w' ∧ ((¬ MayG p nA N gs ∧ e = .returned (.tuple #[.slice none 0 0,.int .i64 12])) ∨
  (MayG p nA N gs ∧ ∃ k g,w.heap.size ≤ g ∧ manyP (rwA p N gs) bs nA k = manyP (rwA p N gs) bs nA (k + 1) ∧ e = .returned (.tuple #[.slice (some ⟨g,0,none⟩) nA nA,.int .i64 0]) ∧ RowI w' 3 g ((clsP (rwA p N gs) bs nA k).map Int.ofNat)))
theorem qD (p : Int) (aA : Option Addr) (nA cA : Nat) (aG : Option Addr) (nG cG : Nat) (aN : Option Addr) (nN cN : Nat) (bs : List Bool) (N : List Gd) (gs : List Int) (w : World) (hB : BoSl w aA nA cA bs) (hN : NdSl w aN nN cN N) (hG : ZSl w aG nG cG gs) (hok : ∀ z ∈ gs,I64 z) :
  Calls Try.prog 8 #[.agg #[.int .i64 p,.slice aA nA cA,.slice aG nG cG,.slice aN nN cN]] w (CaR p nA bs N gs w) := by
 obtain ⟨Z,eZ⟩ : ∃ Z,Z = CaR p nA bs N gs w := ⟨_,rfl⟩
 have HZ : Hid (∀ e w',CaR p nA bs N gs w e w' → Z e w') := fun e w' h => by rw [eZ]; exact h
 rw [← eZ]
 clear eZ
 have hb0 := q6 w (.cells #[.int .i64 p,.slice aA nA cA,.slice aG nG cG,.slice aN nN cN] 26 (0,0))
 have HB0 : Hid _ := hb0
 have jl := qp p aA nA cA aG nG cG aN nN cN bs N gs none 0 0 [] _ (hB.up hb0) (hN.up hb0) (hG.up hb0) hok (q2Y _)
 obtain ⟨c0,c1,c2,c3⟩ := qd w p aA nA cA aG nG cG aN nN cN
 clear hb0 hB hN hG hok
 go_enter Try.func8,Try.ntmps8
 go_wp2_with fail
 refine jl.mono ?_
 rintro e w2 ⟨hb2,⟨hM,rfl⟩ | ⟨_,hM,_⟩ | ⟨hM,_,aT,cT,rfl,hS⟩⟩
 ·have HE : Hid _ := HZ.out _ _ ⟨q5 (q5 HB0.out hb2) (q6 w2 (.cells #[.slice none 0 0,.slice none 0 0] 60)),.inl ⟨hM,rfl⟩⟩
  clear jl hb2 hM c0 c1 c2 c3 HZ
  go_wp2
  exact HE.out
 ·exact absurd (fun s hs => by cases hs) hM
 ·have hbb := q5 (q5 HB0.out hb2) (q6 w2 (.cells #[.slice aA nA cA,.slice aT nA cT] 60))
  have jc := qE aA cA aT cT nA (2 ^ p.toNat) bs (rwA p N gs) _ (hS.up (q6 w2 (.cells #[.slice aA nA cA,.slice aT nA cT] 60))) (hM.rows _) hM.k256 hM.s1 hM.s2
  have HE : Hid (∀ e w',ClsR (rwA p N gs) bs nA (w2.alloc (.cells #[.slice aA nA cA,.slice aT nA cT] 60)) e w' → ∃ v,e = .returned v ∧ Z (.returned (.tuple #[v,.int .i64 0])) w') := fun e w' hq => by
   obtain ⟨hb,k,g,hg,hm,rfl,hr⟩ := hq
   exact ⟨_,rfl,HZ.out _ _ ⟨q5 hbb hb,.inr ⟨hM,k,g,by have := hbb.size; omega,hm,rfl,hr⟩⟩⟩
  clear jl hb2 hM c0 c1 c2 c3 HZ hS hbb
  go_wp2_with fail
  refine jc.mono ?_
  intro e w3 hq
  obtain ⟨v,rfl,hz⟩ := HE.out e w3 hq
  have HE2 : Hid _ := hz
  clear jc hq HE hz
  go_wp2
  exact HE2.out
def PaR (p : Int) (nA : Nat) (bs : List Bool) (N : List Gd) (gs : List Int) (a b : Int) (w : World) (e : Ending) (w' : World) : Prop :=
 Below w.heap.size w w' ∧ ((¬ MayG p nA N gs ∧ e = .returned (.tuple #[.slice none 0 0,.bool false,.int .i64 12])) ∨
  (MayG p nA N gs ∧ ¬ (0 ≤ a ∧ a < (nA : Int) ∧ 0 ≤ b ∧ b < (nA : Int)) ∧ e = .returned (.tuple #[.slice none 0 0,.bool false,.int .i64 2])) ∨
  (MayG p nA N gs ∧ (0 ≤ a ∧ a < (nA : Int) ∧ 0 ≤ b ∧ b < (nA : Int)) ∧ ∃ ts is u c,e = .returned (.tuple #[.slice u ts.length c,.bool is,.int .i64 0]) ∧ PartA (2 ^ p.toNat) (rwA p N gs) bs a.toNat b.toNat ts is ∧ w'.ownsRow w.heap.size 54 1 (.slice u ts.length c) ts.length (ltV ts)))
theorem q1d {a b : Int} {n : Nat} : (∀ s ∈ [a,b],0 ≤ s ∧ s < (n : Int)) ↔ (0 ≤ a ∧ a < (n : Int) ∧ 0 ≤ b ∧ b < (n : Int)) := by
 simp [and_assoc]
theorem q3r (w : World) (a b : Int) : ZSl (w.alloc (.cells #[.int .i64 a,.int .i64 b] 3)) (some ⟨w.heap.size,0,none⟩) 2 2 [a,b] := by
 have h : RowI (w.alloc (.cells #[.int .i64 a,.int .i64 b] 3)) 3 w.heap.size [a,b] := (MapKept.heap_alloc w _).1
 exact RowI.zsl (n := 2) h Try.underlying23 qc (by simp) (by unfold maxLen; simp)
theorem qx (p : Int) (aA : Option Addr) (nA cA : Nat) (aG : Option Addr) (nG cG : Nat) (aN : Option Addr) (nN cN : Nat) (bs : List Bool) (N : List Gd) (gs : List Int) (a b : Int) (w : World) (hB : BoSl w aA nA cA bs) (hN : NdSl w aN nN cN N) (hG : ZSl w aG nG cG gs) (hok : ∀ z ∈ gs,I64 z) :
  Calls Try.prog 15 #[.agg #[.int .i64 p,.slice aA nA cA,.slice aG nG cG,.slice aN nN cN],.int .i64 a,.int .i64 b] w (PaR p nA bs N gs a b w) := by
 obtain ⟨Z,eZ⟩ : ∃ Z,Z = PaR p nA bs N gs a b w := ⟨_,rfl⟩
 have HZ : Hid (∀ e w',PaR p nA bs N gs a b w e w' → Z e w') := fun e w' h => by rw [eZ]; exact h
 rw [← eZ]
 clear eZ
 have hb0 := q5 (q6 w (.cells #[.int .i64 p,.slice aA nA cA,.slice aG nG cG,.slice aN nN cN] 26 (0,0))) (q6 _ (.cells #[.int .i64 a,.int .i64 b] 3))
 have HB0 : Hid _ := hb0
 have hst := q3r (w.alloc (.cells #[.int .i64 p,.slice aA nA cA,.slice aG nG cG,.slice aN nN cN] 26 (0,0))) a b
 have jl := qp p aA nA cA aG nG cG aN nN cN bs N gs _ _ _ _ _ (hB.up hb0) (hN.up hb0) (hG.up hb0) hok hst
 have e1 : (w.alloc (.cells #[.int .i64 p,.slice aA nA cA,.slice aG nG cG,.slice aN nN cN] 26 (0,0))).heap.size = w.heap.size + 1 := by simp
 rw [e1] at jl
 obtain ⟨c0,c1,c2,c3⟩ := qd w p aA nA cA aG nG cG aN nN cN
 clear hb0 hB hN hG hok hst e1
 go_enter Try.func15,Try.ntmps15
 go_wp2_with fail
 refine jl.mono ?_
 rintro e w2 ⟨hb2,⟨hM,rfl⟩ | ⟨hM,hne,rfl⟩ | ⟨hM,hin,aT,cT,rfl,hS⟩⟩
 ·have HE : Hid _ := HZ.out _ _ ⟨q5 (q5 HB0.out hb2) (q6 w2 (.cells #[.slice none 0 0,.slice none 0 0] 60)),.inl ⟨hM,rfl⟩⟩
  clear jl hb2 hM c0 c1 c2 c3 HZ
  go_wp2
  go_ret3
  exact HE.out
 ·have HE : Hid _ := HZ.out _ _ ⟨q5 (q5 HB0.out hb2) (q6 w2 (.cells #[.slice none 0 0,.slice none 0 0] 60)),.inr (.inl ⟨hM,fun h => hne (q1d.2 h),rfl⟩)⟩
  clear jl hb2 hM c0 c1 c2 c3 HZ hne
  go_wp2
  go_ret3
  exact HE.out
 ·have hbb := q5 (q5 HB0.out hb2) (q6 w2 (.cells #[.slice aA nA cA,.slice aT nA cT] 60))
  have hin := q1d.1 hin
  have jc := q1y aA cA aT cT nA (2 ^ p.toNat) bs (rwA p N gs) a.toNat b.toNat _ (hS.up (q6 w2 (.cells #[.slice aA nA cA,.slice aT nA cT] 60))) (hM.rows _) hM.k256 hM.s2 (by omega) (by omega)
  rw [Int.toNat_of_nonneg hin.1,Int.toNat_of_nonneg hin.2.2.1] at jc
  have HE : Hid (∀ e w',PtgR (2 ^ p.toNat) (rwA p N gs) bs a.toNat b.toNat (w2.alloc (.cells #[.slice aA nA cA,.slice aT nA cT] 60)) e w' → ∃ u v,e = .returned (.tuple #[u,v]) ∧ Z (.returned (.tuple #[u,v,.int .i64 0])) w') := fun e w' hq => by
   obtain ⟨hb,ts,is,u,c,rfl,hp,ho⟩ := hq
   exact ⟨_,_,rfl,HZ.out _ _ ⟨q5 hbb hb,.inr (.inr ⟨hM,hin,ts,is,u,c,rfl,hp,q2d ho hbb.size⟩)⟩⟩
  clear jl hb2 hM c0 c1 c2 c3 HZ hS hbb hin
  go_wp2_with fail
  refine jc.mono ?_
  intro e w3 hq
  obtain ⟨u,v,rfl,hz⟩ := HE.out e w3 hq
  have HE2 : Hid _ := hz
  clear jc hq HE hz
  go_wp2
  go_ret3
  exact HE2.out
def AkR (p : Int) (nA : Nat) (bs : List Bool) (N : List Gd) (gs : List Int) (a b : Int) (w : World) (e : Ending) (w' : World) : Prop :=
 Below w.heap.size w w' ∧ ((¬ MayG p nA N gs ∧ e = .returned (.tuple #[.bool false,.int .i64 12])) ∨
  (MayG p nA N gs ∧ ¬ (0 ≤ a ∧ a < (nA : Int) ∧ 0 ≤ b ∧ b < (nA : Int)) ∧ e = .returned (.tuple #[.bool false,.int .i64 2])) ∨
  (MayG p nA N gs ∧ (0 ≤ a ∧ a < (nA : Int) ∧ 0 ≤ b ∧ b < (nA : Int)) ∧ ∃ is,e = .returned (.tuple #[.bool is,.int .i64 0]) ∧ (is = true ↔ AlikeP (2 ^ p.toNat) (rwA p N gs) bs a.toNat b.toNat)))
theorem q2f (p : Int) (aA : Option Addr) (nA cA : Nat) (aG : Option Addr) (nG cG : Nat) (aN : Option Addr) (nN cN : Nat) (bs : List Bool) (N : List Gd) (gs : List Int) (a b : Int) (w : World) (hB : BoSl w aA nA cA bs) (hN : NdSl w aN nN cN N) (hG : ZSl w aG nG cG gs) (hok : ∀ z ∈ gs,I64 z) :
  Calls Try.prog 14 #[.agg #[.int .i64 p,.slice aA nA cA,.slice aG nG cG,.slice aN nN cN],.int .i64 a,.int .i64 b] w (AkR p nA bs N gs a b w) := by
 obtain ⟨Z,eZ⟩ : ∃ Z,Z = AkR p nA bs N gs a b w := ⟨_,rfl⟩
 have HZ : Hid (∀ e w',AkR p nA bs N gs a b w e w' → Z e w') := fun e w' h => by rw [eZ]; exact h
 rw [← eZ]
 clear eZ
 have hb0 := q5 (q6 w (.cells #[.int .i64 p,.slice aA nA cA,.slice aG nG cG,.slice aN nN cN] 26 (0,0))) (q6 _ (.cells #[.int .i64 a,.int .i64 b] 3))
 have HB0 : Hid _ := hb0
 have hst := q3r (w.alloc (.cells #[.int .i64 p,.slice aA nA cA,.slice aG nG cG,.slice aN nN cN] 26 (0,0))) a b
 have jl := qp p aA nA cA aG nG cG aN nN cN bs N gs _ _ _ _ _ (hB.up hb0) (hN.up hb0) (hG.up hb0) hok hst
 have e1 : (w.alloc (.cells #[.int .i64 p,.slice aA nA cA,.slice aG nG cG,.slice aN nN cN] 26 (0,0))).heap.size = w.heap.size + 1 := by simp
 rw [e1] at jl
 obtain ⟨c0,c1,c2,c3⟩ := qd w p aA nA cA aG nG cG aN nN cN
 clear hb0 hB hN hG hok hst e1
 go_enter Try.func14,Try.ntmps14
 go_wp2_with fail
 refine jl.mono ?_
 rintro e w2 ⟨hb2,⟨hM,rfl⟩ | ⟨hM,hne,rfl⟩ | ⟨hM,hin,aT,cT,rfl,hS⟩⟩
 ·have HE : Hid _ := HZ.out _ _ ⟨q5 (q5 HB0.out hb2) (q6 w2 (.cells #[.slice none 0 0,.slice none 0 0] 60)),.inl ⟨hM,rfl⟩⟩
  clear jl hb2 hM c0 c1 c2 c3 HZ
  go_wp2
  exact HE.out
 ·have HE : Hid _ := HZ.out _ _ ⟨q5 (q5 HB0.out hb2) (q6 w2 (.cells #[.slice none 0 0,.slice none 0 0] 60)),.inr (.inl ⟨hM,fun h => hne (q1d.2 h),rfl⟩)⟩
  clear jl hb2 hM c0 c1 c2 c3 HZ hne
  go_wp2
  exact HE.out
 ·have hbb := q5 (q5 HB0.out hb2) (q6 w2 (.cells #[.slice aA nA cA,.slice aT nA cT] 60))
  have hin := q1d.1 hin
  have jc := qE aA cA aT cT nA (2 ^ p.toNat) bs (rwA p N gs) _ (hS.up (q6 w2 (.cells #[.slice aA nA cA,.slice aT nA cT] 60))) (hM.rows _) hM.k256 hM.s1 hM.s2
  obtain ⟨a,rfl⟩ := Int.eq_ofNat_of_zero_le hin.1
  obtain ⟨b,rfl⟩ := Int.eq_ofNat_of_zero_le hin.2.2.1
  have ha : a < nA := by omega
  have hb : b < nA := by omega
  have HE : Hid (∀ e w',ClsR (rwA p N gs) bs nA (w2.alloc (.cells #[.slice aA nA cA,.slice aT nA cT] 60)) e w' → ∃ (g x y : Nat),e = .returned (.slice (some ⟨g,0,none⟩) nA nA) ∧ w'.cell? ⟨g,a,none⟩ = some (.int .i64 (x : Int)) ∧ w'.cell? ⟨g,b,none⟩ = some (.int .i64 (y : Int)) ∧ x < 256 ∧ y < 256 ∧ ∀ nq,Z (.returned (.tuple #[.bool (decide (x = y)),.int .i64 0])) (w'.drewN nq)) := fun e w' hq => by
   obtain ⟨hbq,k,g,hg,hm,rfl,hr⟩ := hq
   have hl := qR (rwA p N gs) bs nA k
   have h2 := hM.s2
   have la := q1V (rwA p N gs) bs nA k ha
   have lb := q1V (rwA p N gs) bs nA k hb
   refine ⟨g,_,_,rfl,(hr.cell (by rw [List.length_map,hl]; exact ha)).trans (by rw [qg (by rw [hl]; exact ha)]),(hr.cell (by rw [List.length_map,hl]; exact hb)).trans (by rw [qg (by rw [hl]; exact hb)]),by omega,by omega,fun nq => HZ.out _ _ ⟨below_drewN (q5 hbb hbq) nq,.inr (.inr ⟨hM,hin,_,rfl,?_⟩)⟩⟩
   rw [decide_eq_true_iff]
   exact qA (hM.rows _) hm ha hb
  have ia : ∀ (g : Nat) w',(Instr.indexAt 23 (.slice (some ⟨g,0,none⟩) nA nA) (.int .i64 (a : Int))).run Try.prog w' = .ok (.pointer (some ⟨g,a,none⟩)) w' := fun g w' => by
   have := qf (P := Try.prog) (T := 23) Try.underlying23 qc (a := some ⟨g,0,none⟩) (cap := nA) (n := nA) (fun e => by cases e) a w' ha
   simpa [adOf,q8] using this
  have ib : ∀ (g : Nat) w',(Instr.indexAt 23 (.slice (some ⟨g,0,none⟩) nA nA) (.int .i64 (b : Int))).run Try.prog w' = .ok (.pointer (some ⟨g,b,none⟩)) w' := fun g w' => by
   have := qf (P := Try.prog) (T := 23) Try.underlying23 qc (a := some ⟨g,0,none⟩) (cap := nA) (n := nA) (fun e => by cases e) b w' hb
   simpa [adOf,q8] using this
  clear jl hb2 hM c0 c1 c2 c3 HZ hS hbb hin
  go_wp2_with fail
  refine jc.mono ?_
  intro e w3 hq
  obtain ⟨g,x,y,rfl,cx,cy,hx8,hy8,hz⟩ := HE.out e w3 hq
  have HE2 : Hid _ := hz
  have ia := ia g
  have ib := ib g
  have hxy : ((x : Int) == (y : Int)) = decide (x = y) := q1o x y
  generalize decide (x = y) = d at *
  clear jc hq HE hz
  go_wp2
  go_quiet (fail)
  go_wp2
  exact HE2.out _
def RchA (p : Int) (nA : Nat) (N : List Gd) (gs : List Int) (w : World) (e : Ending) (w' : World) : Prop :=
 Below w.heap.size w w' ∧ ((¬ MayG p nA N gs ∧ e = .returned (.tuple #[.slice none 0 0,.int .i64 12])) ∨
  (MayG p nA N gs ∧ ∃ a c,e = .returned (.tuple #[.slice a (rchP (rwA p N gs) nA 0 [0]).length c,.int .i64 0]) ∧ ZSl w' a (rchP (rwA p N gs) nA 0 [0]).length c ((rchP (rwA p N gs) nA 0 [0]).map Int.ofNat)))
theorem q1t (p : Int) (aA : Option Addr) (nA cA : Nat) (aG : Option Addr) (nG cG : Nat) (aN : Option Addr) (nN cN : Nat) (bs : List Bool) (N : List Gd) (gs : List Int) (w : World) (hB : BoSl w aA nA cA bs) (hN : NdSl w aN nN cN N) (hG : ZSl w aG nG cG gs) (hok : ∀ z ∈ gs,I64 z) :
  Calls Try.prog 10 #[.agg #[.int .i64 p,.slice aA nA cA,.slice aG nG cG,.slice aN nN cN]] w (RchA p nA N gs w) := by
 obtain ⟨Z,eZ⟩ : ∃ Z,Z = RchA p nA N gs w := ⟨_,rfl⟩
 have HZ : Hid (∀ e w',RchA p nA N gs w e w' → Z e w') := fun e w' h => by rw [eZ]; exact h
 rw [← eZ]
 clear eZ
 have hb0 := q6 w (.cells #[.int .i64 p,.slice aA nA cA,.slice aG nG cG,.slice aN nN cN] 26 (0,0))
 have HB0 : Hid _ := hb0
 have jl := qp p aA nA cA aG nG cG aN nN cN bs N gs none 0 0 [] _ (hB.up hb0) (hN.up hb0) (hG.up hb0) hok (q2Y _)
 obtain ⟨c0,c1,c2,c3⟩ := qd w p aA nA cA aG nG cG aN nN cN
 clear hb0 hB hN hG hok
 go_enter Try.func10,Try.ntmps10
 go_wp2_with fail
 refine jl.mono ?_
 rintro e w2 ⟨hb2,⟨hM,rfl⟩ | ⟨_,hM,_⟩ | ⟨hM,_,aT,cT,rfl,hS⟩⟩
 ·have HE : Hid _ := HZ.out _ _ ⟨q5 (q5 HB0.out hb2) (q6 w2 (.cells #[.slice none 0 0,.slice none 0 0] 60)),.inl ⟨hM,rfl⟩⟩
  clear jl hb2 hM c0 c1 c2 c3 HZ
  go_wp2
  exact HE.out
 ·exact absurd (fun s hs => by cases hs) hM
 ·have hbb := q5 (q5 HB0.out hb2) (q6 w2 (.cells #[.slice aA nA cA,.slice aT nA cT] 60))
  have jc := q1z aA cA aT cT nA (2 ^ p.toNat) bs (rwA p N gs) _ (hS.up (q6 w2 (.cells #[.slice aA nA cA,.slice aT nA cT] 60))) (hM.rows _) hM.k256 hM.s1 hM.s2
  have HE : Hid (∀ e w',RchR (rwA p N gs) nA (w2.alloc (.cells #[.slice aA nA cA,.slice aT nA cT] 60)) e w' → ∃ v,e = .returned v ∧ Z (.returned (.tuple #[v,.int .i64 0])) w') := fun e w' hq => by
   obtain ⟨hb,a,c,rfl,hr⟩ := hq
   exact ⟨_,rfl,HZ.out _ _ ⟨q5 hbb hb,.inr ⟨hM,a,c,rfl,hr⟩⟩⟩
  clear jl hb2 hM c0 c1 c2 c3 HZ hS hbb
  go_wp2_with fail
  refine jc.mono ?_
  intro e w3 hq
  obtain ⟨v,rfl,hz⟩ := HE.out e w3 hq
  have HE2 : Hid _ := hz
  clear jc hq HE hz
  go_wp2
  exact HE2.out
end Go.Proofs.Ytllebfffmmnoeaa
namespace Go.Proofs.Ytllebfffmmnoeaa
open Go.RowKit Go.Maps Go.Sort
theorem zlitP (w : World) (zs : List Int) (hl : zs.length ≤ 1000) : ZSl (w.alloc (.cells (zs.map (Value.int .i64)).toArray 3)) (some ⟨w.heap.size,0,none⟩) zs.length zs.length zs := by
 have h : RowI (w.alloc (.cells (zs.map (Value.int .i64)).toArray 3)) 3 w.heap.size zs := (MapKept.heap_alloc w _).1
 have := RowI.zsl (n := zs.length) h Try.underlying23 qc (Nat.le_refl _) (by unfold maxLen; omega)
 rwa [List.take_of_length_le (Nat.le_refl _)] at this
theorem blitP (w : World) (bs : List Bool) (hl : bs.length ≤ 1000) : BoSl (w.alloc (.cells (bs.map Value.bool).toArray 4)) (some ⟨w.heap.size,0,none⟩) bs.length bs.length bs := by
 have hc := (MapKept.heap_alloc w (.cells (bs.map Value.bool).toArray 4)).1
 refine ⟨rfl,Nat.le_refl _,by unfold maxLen; omega,fun e => (by cases e),fun x hx k hk => ?_⟩
 injection hx with hx; subst hx
 rw [q8,Nat.zero_add,q7 hc]
 simp [List.getElem?_eq_getElem hk]
theorem q4t (w : World) (N : List Gd) (hl : N.length ≤ 1000) (hok : ∀ t ∈ N,GdOk t) : NdSl (w.alloc (.cells (encGd N).toArray 57)) (some ⟨w.heap.size,0,none⟩) N.length N.length N := by
 have hc := (MapKept.heap_alloc w (.cells (encGd N).toArray 57)).1
 have hcell : ∀ j u,(encGd N)[j]? = some u → (w.alloc (.cells (encGd N).toArray 57)).cell? ((⟨w.heap.size,0,none⟩ : Addr).add j) = some u := fun j u hj => by
  rw [q8,Nat.zero_add,q7 hc]; simpa using hj
 refine ⟨rfl,Nat.le_refl _,by unfold maxLen; omega,fun e => (by cases e),fun x hx k hk => ?_,fun x hx k hk => ?_,fun x hx k hk => ?_,hok⟩
 ·injection hx with hx; subst hx; exact hcell _ _ (qJ N k hk).1
 ·injection hx with hx; subst hx; exact hcell _ _ (qJ N k hk).2.1
 ·injection hx with hx; subst hx; exact hcell _ _ (qJ N k hk).2.2
structure PtX (w : World) (g : Nat) : Prop where
 bo : BoSl w (some ⟨g,0,none⟩) 3 3 ptB
 zs : ZSl w (some ⟨g + 1,0,none⟩) 3 3 ptG
 nd : NdSl w (some ⟨g + 2,0,none⟩) 2 2 ptN
theorem PtX.up {w w' : World} {g : Nat} (h : PtX w g) (hb : Below w.heap.size w w') : PtX w' g := ⟨h.bo.up hb,h.zs.up hb,h.nd.up hb⟩
theorem q17 : ∀ z ∈ ptG,I64 z := by
 intro z hz
 simp [ptG] at hz
 exact ⟨by omega,by omega⟩
theorem q3j (w : World) : PtX (((w.alloc (.cells #[.bool false,.bool true,.bool true] 4)).alloc (.cells #[.int .i64 0,.int .i64 1,.int .i64 0] 3)).alloc (.cells #[.int .i64 0,.int .i64 (-1),.int .i64 (-2),.int .i64 0,.int .i64 (-1),.int .i64 (-3)] 57)) w.heap.size := by
 have h1 := blitP w ptB (by decide)
 have h2 := zlitP (w.alloc (.cells #[.bool false,.bool true,.bool true] 4)) ptG (by decide)
 have h3 := q4t ((w.alloc (.cells #[.bool false,.bool true,.bool true] 4)).alloc (.cells #[.int .i64 0,.int .i64 1,.int .i64 0] 3)) ptN (by decide) (fun t ht => by
  simp [ptN] at ht
  rcases ht with rfl | rfl <;> exact ⟨⟨by decide,by decide⟩,⟨by decide,by decide⟩,⟨by decide,by decide⟩⟩)
 have e1 : (w.alloc (.cells #[.bool false,.bool true,.bool true] 4)).heap.size = w.heap.size + 1 := by simp
 have e2 : ((w.alloc (.cells #[.bool false,.bool true,.bool true] 4)).alloc (.cells #[.int .i64 0,.int .i64 1,.int .i64 0] 3)).heap.size = w.heap.size + 2 := by simp
 rw [e1] at h2
 rw [e2] at h3
 exact ⟨(h1.up (q6 _ _)).up (q6 _ _),h2.up (q6 _ _),h3⟩
theorem q2p {w : World} {g : Nat} (h : PtX w g) : Calls Try.prog 8 #[.agg #[.int .i64 1,.slice (some ⟨g,0,none⟩) 3 3,.slice (some ⟨g + 1,0,none⟩) 3 3,.slice (some ⟨g + 2,0,none⟩) 2 2]] w fun e w' => Below w.heap.size w w' ∧ ∃ b,e = .returned (.tuple #[.slice (some ⟨b,0,none⟩) 3 3,.int .i64 0]) ∧ ZSl w' (some ⟨b,0,none⟩) 3 3 [0,1,1] := by
 refine (qD 1 _ 3 3 _ 3 3 _ 2 2 ptB ptN ptG w h.bo h.nd h.zs q17).mono ?_
 rintro e w' ⟨hb,⟨hM,_⟩ | ⟨_,k,b,_,_,rfl,hr⟩⟩
 ·exact absurd q18 hM
 ·refine ⟨hb,b,rfl,?_⟩
  rw [show rwA 1 ptN ptG = ptR from qQ,q1J] at hr
  exact q3l hr rfl (by decide)
theorem qM (w : World) : Calls Try.prog 21 #[] w fun e w' => e = .returned (.bool true) ∧ Below w.heap.size w w' := by
 have hx := q3j w
 have hb3 : Below w.heap.size w (((w.alloc (.cells #[.bool false,.bool true,.bool true] 4)).alloc (.cells #[.int .i64 0,.int .i64 1,.int .i64 0] 3)).alloc (.cells #[.int .i64 0,.int .i64 (-1),.int .i64 (-2),.int .i64 0,.int .i64 (-1),.int .i64 (-3)] 57)) := q5 (q5 (q6 w _) (q6 _ _)) (q6 _ _)
 have hb4 := q5 hb3 (q6 _ (.cells #[.int .i64 1,.slice (some ⟨w.heap.size,0,none⟩) 3 3,.slice (some ⟨w.heap.size + 1,0,none⟩) 3 3,.slice (some ⟨w.heap.size + 2,0,none⟩) 2 2] 26 (0,0)))
 have HB4 : Hid _ := hb4
 have hx4 := hx.up (q6 _ (.cells #[.int .i64 1,.slice (some ⟨w.heap.size,0,none⟩) 3 3,.slice (some ⟨w.heap.size + 1,0,none⟩) 3 3,.slice (some ⟨w.heap.size + 2,0,none⟩) 2 2] 26 (0,0)))
 have jc := q2p hx4
 have ha := qd (((w.alloc (.cells #[.bool false,.bool true,.bool true] 4)).alloc (.cells #[.int .i64 0,.int .i64 1,.int .i64 0] 3)).alloc (.cells #[.int .i64 0,.int .i64 (-1),.int .i64 (-2),.int .i64 0,.int .i64 (-1),.int .i64 (-3)] 57)) 1 (some ⟨w.heap.size,0,none⟩) 3 3 (some ⟨w.heap.size + 1,0,none⟩) 3 3 (some ⟨w.heap.size + 2,0,none⟩) 2 2
 have HS : Hid (∀ (w2 : World) (b : Nat),ZSl w2 (some ⟨b,0,none⟩) 3 3 [0,1,1] → Calls Try.prog 12 #[.slice (some ⟨b,0,none⟩) 3 3,.slice (some ⟨w2.heap.size,0,none⟩) 3 3] (w2.alloc (.cells #[.int .i64 0,.int .i64 1,.int .i64 1] 3)) fun e w' => e = .returned (.bool true) ∧ Below w2.heap.size w2 w') := fun w2 b hz => by
  have h2 := zlitP w2 [0,1,1] (by decide)
  exact (qV _ 3 3 _ _ 3 3 _ _ (hz.up (q6 _ _)) h2).mono fun e w' ⟨q1,q2⟩ => ⟨by rw [q1,decide_eq_true rfl],q5 (q6 w2 _) (qe q2)⟩
 clear hx hb3 hb4 hx4
 go_enter Try.func21,Try.ntmps21
 go_wp2_with fail
 refine jc.mono ?_
 rintro e w2 ⟨hb2,b,rfl,hz⟩
 have js := HS.out w2 b hz
 have HB2 : Hid (Below w.heap.size w w2) := q5 HB4.out hb2
 clear jc hb2 hz ha HS HB4
 go_wp2_with fail
 refine js.mono ?_
 rintro e w3 ⟨rfl,hb3⟩
 have HB3 : Hid (Below w.heap.size w w3) := q5 HB2.out hb3
 clear js hb3
 go_wp2
 go_ret
 exact ⟨rfl,HB3.out⟩
end Go.Proofs.Ytllebfffmmnoeaa
