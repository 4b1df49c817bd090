/- Texts of the proof, put together: what it uses. -/
import Derived.Deep.RegionHeld3
import Derived.OwnWalk
import Derived.Test.YtailhklbmenaoaaGreatDoorX08
import Derived.Test.YtailhklbmenaoaaGreatDoorX14
set_option maxRecDepth 100000
set_option maxHeartbeats 16000000
namespace Go.Proofs.YtailhklbmenaoaaGreatDoor
open Go.RowKit Go.Maps
theorem q9b(g P:Nat)(rs:Nat->List Nat)(w:World)(hP:P<=100000)(hP1:1<=P)(hA:EndAt w g P rs)(hr:InR rs P):
  Calls Tryz.prog 80 #[.slice (some ⟨g,0,none⟩) P P] w fun e w'=>e=.returned (.slice (some ⟨w.heap.size,0,none⟩) P P)/\(∃xs,EndAt w' w.heap.size P xs/\∀i,i<P->∀k,hasW (xs i) k=true↔∃m,stepsP (Rl rs) m i k)/\Below w.heap.size w w':=by
 have hnow:=q2u P w hP;have HR:=hiq hr;have HA:=hiq hA;have hl1:=hA.lt;clear hA hr;go_enter Tryz.func80,Tryz.ntmps80
 go_wp2_with fail
 refine hnow.mono ?_
 rintro e w1 ⟨rfl,hE1,hB1⟩
 have HE1:=hiq hE1
 have HB1:=hiq hB1;clear hnow hE1 hB1;go_wp2
 go_loopw [13] (fun i wr=>∃k:Nat,k<=P/\i=.int .i64 k/\(∃xs,Hid (EndAt wr w.heap.size P xs)/\Hid (∀i,i<k->∀j,hasW (xs i) j=decide (j=i))/\Hid (∀i,k<=i->xs i=List.replicate (wordsN P) 0))/\Hid (Below w.heap.size w wr)) (fun i _=>P-(intOf i).toNat)
 case atStart=>exact⟨0,Nat.zero_le _,rfl,⟨_,HE1,fun i hi=>absurd hi (by omega),fun _ _=>rfl⟩,HB1⟩
 case round=>
  obtain⟨k,hk,rfl,⟨xs,HE,HD,HZ⟩,HB⟩:=hrel;clear HE1 HB1;by_cases hlt:k<P
  ·have hi2:=fun w'=>qK w.heap.size P k w' hlt
   have hc2:=HE.out.cell hlt;have HZk:Hid (xs k=List.replicate (wordsN P) 0):=HZ.out k nlr;have hput:=q3u (w.heap.size+1+k) (wordsN P) k (xs k) wr (HE.out.rows k hlt) (HE.out.ok k hlt) (q27 hlt) (by omega)
   have HPW:Hid (∀j,hasW (putW (xs k) k) j=decide (j=k)):=fun j=>by rw[q7j (HE.out.ok k hlt) (q27 hlt),HZk.out,q2C,Bool.false_or]
   have HPO:Hid (OkW (wordsN P) (putW (xs k) k)):=(HE.out.ok k hlt).put
   go_wp2_with fail
   refine hput.mono ?_
   rintro e w2 ⟨rfl,hr2,hg2⟩
   have HE2:Hid (EndAt w2 w.heap.size P (upd xs k (putW (xs k) k))):=HE.out.turn hlt hr2 HPO.out hg2;have HB2:Hid (Below w.heap.size w w2):=HB.out.grown hg2 HB.out.size (fun j e=>by injection e with e;omega)
   clear hput hr2 hg2 hc2;go_wp2
   go_roundw
   case rel=>
    refine⟨k+1,by omega,by go_num,⟨_,HE2,fun i hi j=>?_,fun i hi=>?_⟩,HB2⟩
    ·by_cases e:i=k
     ·subst e;rw[q26,HPW.out]
     ·rw[q1T _ _ e];exact HD.out i (by omega) j
    ·rw[q1T _ _ (by omega)];exact HZ.out i (by omega)
   case measure=>simp[intOf];omega
  ·obtain rfl:k=P:=by omega
   have HI:Hid (StarI rs xs k):=⟨fun i hi=>by rw[HD.out i hi];simp,fun i hi j hj=>⟨0,by rw[HD.out i hi]at hj;exact(of_decide_eq_true hj).symm⟩⟩
   clear HD HZ;go_wp2
   go_loopw [5] (fun c wr=>∃bb:Bool,c=.bool bb/\(∃xs,Hid (EndAt wr w.heap.size k xs)/\Hid (StarI rs xs k)/\Hid (bb=false->∀i,i<k->ClI rs xs i k))/\Hid (Below w.heap.size w wr)) (fun c wr=>starM c wr w.heap.size k)
   case atStart=>exact⟨true,rfl,⟨xs,HE,HI,fun h=>by cases h⟩,HB⟩
   case round=>
    obtain⟨b0,rfl,⟨x0,HE0,HI0,HC0⟩,HW0⟩:=hrel;clear HE HI HB
    cases b0 with
    |false=>
     go_wp2;go_ret
     exact⟨rfl,⟨x0,HE0.out,fun i hi j=>qg0 HI0.out HR.out (HC0.out (by first|rfl|trivial)) hi j⟩,HW0.out⟩
    |true=>
     clear HC0;have wk:=wr64 ((k:Int)-1) (by omega)
     have HM:Hid (∀wr' ys (b:Bool),EndAt wr' w.heap.size k ys->StR rs x0 ys k b->starM (.bool b) wr' w.heap.size k<starM (.bool true) wr w.heap.size k):=fun wr' ys b h hs=>by
      cases b with
      |true=>exact qeY HE0.out h (hs.ch rfl)
      |false=>exact qdJ HE0.out h hs.le
     go_wp2
     go_loopw [5,6] (fun c i wr=>∃n:Nat,n<=k/\i=.int .i64 ((n:Int)-1)/\∃bb:Bool,c=.bool bb/\(∃xs,Hid (EndAt wr w.heap.size k xs)/\Hid (StR rs x0 xs k bb)/\Hid (bb=false->∀i,n<=i->i<k->ClI rs xs i k))/\Hid (Below w.heap.size w wr)) (fun _ i _=>(intOf i+1).toNat)
     case atStart=>exact⟨k,nlr,rfl,false,rfl,⟨x0,HE0,⟨HI0.out,fun h=>(by cases h),fun _=>rfl⟩,fun _ i h1 h2=>absurd h1 (by omega)⟩,HW0⟩
     case round=>
      obtain⟨n,hn,rfl,b1,rfl,⟨x1,HE1,HS1,HC1⟩,HW1⟩:=hrel;by_cases hn0:n=0
      ·subst hn0
       have hle:¬(0:Int)<=((0:Nat):Int)-1:=by omega
       go_wp2
       go_roundw
       case rel=>exact⟨b1,rfl,⟨x1,HE1,HS1.out.st,fun h i hi=>HC1.out h i (Nat.zero_le _) hi⟩,HW1⟩
       case measure=>exact HM.out _ _ _ HE1.out HS1.out
      ·obtain⟨m,rfl⟩:∃m,n=m+1:=⟨n-1,by omega⟩
       have hmk:m<k:=by omega
       have em:(((m+1:Nat):Int)-1)=(m:Int):=by omega
       rw[em];have hle:(0:Int)<=(m:Int):=by omega
       have wk2:=wr64 (m:Int) (by omega)
       clear HE0 HI0 HW0 HM hn0 em;go_wp2
       go_loopw [5,33] (fun c i wr=>∃n:Nat,n<=k/\i=.int .i64 n/\∃bb:Bool,c=.bool bb/\(∃xs,Hid (EndAt wr w.heap.size k xs)/\Hid (StR rs x0 xs k bb)/\Hid (bb=false->(∀i,m+1<=i->i<k->ClI rs xs i k)/\ClI rs xs m n))/\Hid (Below w.heap.size w wr)) (fun _ i _=>k-(intOf i).toNat)
       case atStart=>exact⟨0,Nat.zero_le _,rfl,b1,rfl,⟨x1,HE1,HS1,fun h=>⟨HC1.out h,fun m hm=>absurd hm (by omega)⟩⟩,HW1⟩
       case round=>
        obtain⟨n,hn,rfl,b2,rfl,⟨x2,HE2,HS2,HC2⟩,HW2⟩:=hrel;clear HE1 HS1 HC1 HW1;by_cases hnk:n<k
        ·have hA2:=HA.out.up HW2.out
         have hhas:=fun W (h:RowU W (g+1+m) (rs m))=>q4w (g+1+m) (wordsN k) n (rs m) W h (HA.out.ok m hmk) (q27 hnk) (by omega)
         have hi0:=fun w'=>qK g k m w' hmk
         have hc0:=hA2.cell hmk;have hr0:=hA2.rows m hmk
         cases hh:hasW (rs m) n with
         |false=>
          simp only[hh]at hhas
          have HC3:Hid (b2=false->(∀i,m+1<=i->i<k->ClI rs x2 i k)/\ClI rs x2 m (n+1)):=fun h=>⟨(HC2.out h).1,(HC2.out h).2.skip hh⟩
          have hq:=fun q=>hhas (wr.drewN q) (hr0.up (below_drewN (Below.refl _ _) q))
          generalize hWW:wordsN k=W at *;clear hWW
          go_wp2_with fail
          go_quiet ((go_at_call 105;first|exact Calls.quiet_of_same (hhas _ hr0)|exact Calls.quiet_of_same (hq _)))
          go_wp2
          go_roundw
          case rel=>exact⟨n+1,by omega,by go_num,b2,rfl,⟨x2,HE2.out.up (below_drewN (Below.refl _ _) nq),HS2,HC3⟩,below_drewN HW2.out nq⟩
          case measure=>simp[intOf];omega
         |true=>
          have hin:=HR.out m hmk n hh;have hi1:=fun w'=>qK w.heap.size k m w' hmk
          have hi2:=fun w'=>qK w.heap.size k n w' hnk
          have hc1:=HE2.out.cell hmk;have hc2:=HE2.out.cell hnk;have hr1:=HE2.out.rows m hmk;have hr2:=HE2.out.rows n hnk;have hjn:=fun W (h1:RowU W (w.heap.size+1+m) (x2 m)) (h2:RowU W (w.heap.size+1+n) (x2 n))=>q2X (w.heap.size+1+m) (w.heap.size+1+n) (wordsN k) n (x2 m) (x2 n) W h1 h2 (HE2.out.ok m hmk) (HE2.out.ok n hnk) (fun e=>congrArg x2 (by omega)) (q27 hnk) (q7D hP)
          have HST:Hid (StarI rs (upd x2 m (joinW (x2 m) (x2 n) (n / 64))) k):=HS2.out.st.join HR.out hmk hnk HE2.out.ok hh;have HTT:Hid (joinW (x2 m) (x2 n) (n / 64)≠x2 m->tot k x2<tot k (upd x2 m (joinW (x2 m) (x2 n) (n / 64)))):=fun h=>qhm _ hmk h
          have HCJ:Hid (b2=false->joinW (x2 m) (x2 n) (n / 64)=x2 m->(∀i,m+1<=i->i<k->ClI rs x2 i k)/\ClI rs x2 m (n+1)):=fun h he=>⟨(HC2.out h).1,(HC2.out h).2.join HS2.out.st HR.out hmk hnk HE2.out.ok he⟩
          have HX:Hid (∀w2,RowU w2 (w.heap.size+1+m) (joinW (x2 m) (x2 n) (n / 64))->wr.grownBy w2 (some (w.heap.size+1+m))->EndAt w2 w.heap.size k (upd x2 m (joinW (x2 m) (x2 n) (n / 64)))/\Below w.heap.size w w2):=fun w2 h1 h2=>
           ⟨HE2.out.turn hmk h1 ((HE2.out.ok m hmk).join (HE2.out.ok n hnk) _ _) h2,HW2.out.grown h2 HW2.out.size (fun j e=>by injection e with e;omega)⟩
          have HSL:Hid (tot k x0<=tot k x2):=HS2.out.le;have HSS:Hid (b2=false->x2=x0):=HS2.out.same;have HSC:Hid (b2=true->tot k x0<tot k x2):=HS2.out.ch;have hk0:wr.cell? ⟨g,m,none⟩=some (.slice (some ⟨g+1+m,0,none⟩) (wordsN k) (wordsN k))/\wr.cell? ⟨w.heap.size,m,none⟩=some (.slice (some ⟨w.heap.size+1+m,0,none⟩) (wordsN k) (wordsN k))/\wr.cell? ⟨w.heap.size,n,none⟩=some (.slice (some ⟨w.heap.size+1+n,0,none⟩) (wordsN k) (wordsN k)):=⟨hc0,hc1,hc2⟩
          have hkeep:∀w2,wr.grownBy w2 (some (w.heap.size+1+m))->w2.cell? ⟨g,m,none⟩=some (.slice (some ⟨g+1+m,0,none⟩) (wordsN k) (wordsN k))/\w2.cell? ⟨w.heap.size,m,none⟩=some (.slice (some ⟨w.heap.size+1+m,0,none⟩) (wordsN k) (wordsN k))/\w2.cell? ⟨w.heap.size,n,none⟩=some (.slice (some ⟨w.heap.size+1+n,0,none⟩) (wordsN k) (wordsN k)):=fun w2 h2=>
           ⟨q1B hc0 h2 (fun e=>by injection e with e;dsimp only at e;omega),q1B hc1 h2 (fun e=>by injection e with e;dsimp only at e;omega),q1B hc2 h2 (fun e=>by injection e with e;dsimp only at e;omega)⟩
          simp only[hh]at hhas
          have HHH:=hiq hh;clear hA2 HE2 HW2 HC2 HS2 hh hin;generalize hWW:wordsN k=W at *;have HWW:=hiq hWW;clear hWW;generalize hY:joinW (x2 m) (x2 n) (n / 64)=Y at *;clear hY;by_cases hYx:Y=x2 m
          ·have hd:decide (Y≠x2 m)=false:=by simp[hYx]
           have HUS:Hid (upd x2 m Y=x2):=by show _=_;rw[hYx,qhq]
           have HYX:=hiq hYx;simp only[hd]at hjn
           clear hd hYx
           go_wp2_with fail
           go_region_held3 (fun w'=>w'.cell? ⟨g,m,none⟩=some (.slice (some ⟨g+1+m,0,none⟩) W W)/\w'.cell? ⟨w.heap.size,m,none⟩=some (.slice (some ⟨w.heap.size+1+m,0,none⟩) W W)/\w'.cell? ⟨w.heap.size,n,none⟩=some (.slice (some ⟨w.heap.size+1+n,0,none⟩) W W)) (first|exact hk0|exact hkeep _ ‹_›) (first|(go_at_call 105;refine (hhas wr.drew hr0).mono ?_;rintro e w' ⟨rfl,rfl⟩)|(go_at_call 106;(first|refine (hjn wr.drew hr1 hr2).mono ?_|refine (hjn wr.drew.drew hr1 hr2).mono ?_);rintro e w2 ⟨rfl,hr3,hg3⟩;have hg4:wr.grownBy w2 (some (w.heap.size+1+m)):=⟨hg3.os,hg3.tape,hg3.output,hg3.size,hg3.block⟩;clear hg3))
           obtain⟨q1,q2⟩:=HX.out _ hr3 hg4;have H1:Hid _:=q1;have H2:Hid _:=q2;clear hjn hhas hkeep hk0 hc0 hc1 hc2 hr3 hg4 q1 q2 HX hr0 hr1 hr2;go_wp2
           go_roundw
           case rel=>
            have h1:=H1.out;rw[HUS.out]at h1;exact⟨n+1,by omega,by go_num,b2,rfl,⟨x2,h1,⟨by have:=HST.out;rw[HUS.out]at this;exact this,HSC.out,HSS.out⟩,fun h=>HCJ.out h HYX.out⟩,H2⟩
           case measure=>simp[intOf];omega
          ·have hd:decide (Y≠x2 m)=true:=by simp[hYx]
           have HTL:Hid _:=HTT.out hYx;simp only[hd]at hjn
           clear hd hYx
           go_wp2_with fail
           go_region_held3 (fun w'=>w'.cell? ⟨g,m,none⟩=some (.slice (some ⟨g+1+m,0,none⟩) W W)/\w'.cell? ⟨w.heap.size,m,none⟩=some (.slice (some ⟨w.heap.size+1+m,0,none⟩) W W)/\w'.cell? ⟨w.heap.size,n,none⟩=some (.slice (some ⟨w.heap.size+1+n,0,none⟩) W W)) (first|exact hk0|exact hkeep _ ‹_›) (first|(go_at_call 105;refine (hhas wr.drew hr0).mono ?_;rintro e w' ⟨rfl,rfl⟩)|(go_at_call 106;(first|refine (hjn wr.drew hr1 hr2).mono ?_|refine (hjn wr.drew.drew hr1 hr2).mono ?_);rintro e w2 ⟨rfl,hr3,hg3⟩;have hg4:wr.grownBy w2 (some (w.heap.size+1+m)):=⟨hg3.os,hg3.tape,hg3.output,hg3.size,hg3.block⟩;clear hg3))
           obtain⟨q1,q2⟩:=HX.out _ hr3 hg4;have H1:Hid _:=q1;have H2:Hid _:=q2;clear hjn hhas hkeep hk0 hc0 hc1 hc2 hr3 hg4 q1 q2 HX hr0 hr1 hr2;go_wp2
           go_roundw
           case rel=>exact⟨n+1,by omega,by go_num,true,rfl,⟨_,H1,⟨HST.out,fun _=>Nat.lt_of_le_of_lt HSL.out HTL.out,fun h=>(by cases h)⟩,fun h=>(by cases h)⟩,H2⟩
           case measure=>simp[intOf];omega
        ·obtain rfl:n=k:=by omega
         go_wp2
         go_roundw
         case rel=>
          refine⟨m,by omega,rfl,b2,rfl,⟨x2,HE2,HS2,fun h i h1 h2=>?_⟩,HW2⟩
          by_cases e:i=m
          ·subst e;exact(HC2.out h).2
          ·exact(HC2.out h).1 i (by omega) h2
         case measure=>simp[intOf]
def ValR (n:Nat) (V:Nat->Prop) (w:World) (e:Ending) (w':World):Prop :=
 ∃g bs,e=.returned (.slice (some ⟨g,0,none⟩) (n+1) (n+1))/\ValAt w' g bs/\bs.length=n+1/\(∀i,i<=n->(bs.getD i false=true↔V i))/\Below w.heap.size w w'/\w.heap.size<=g
theorem q65(bs:List Bool)(i j:Nat)(x:Bool):(bs.set i x).getD j false=if i=j/\i<bs.length then x else bs.getD j false:=by
 simp only[List.getD_eq_getElem?_getD,List.getElem?_set]
 by_cases h:i=j
 ·subst h
  by_cases h2:i<bs.length
  ·simp[h2]
  ·rw[if_pos rfl,if_neg h2,if_neg (by omega)];simp[List.getElem?_eq_none (by omega:bs.length<=i)]
 ·simp[h]
structure FillF (n:Nat) (V:Nat->Prop) (k:Nat) (bs:List Bool):Prop where
 len:bs.length=n+1
 done:∀i,i<k->(bs.getD i false=true↔V i)
 rest:∀i,k<=i->bs.getD i false=false
theorem FillF.zero(n:Nat)(V:Nat->Prop):FillF n V 0 (List.replicate (n+1) false) :=
 ⟨by simp,fun i hi=>absurd hi (by omega),fun i _=>by simp only[List.getD_eq_getElem?_getD,List.getElem?_replicate];split<;>rfl⟩
theorem FillF.next{n k:Nat}{V:Nat->Prop}{bs:List Bool}(h:FillF n V k bs)(hk:k<=n){b:Bool}(hb:b=true↔V k):FillF n V (k+1) (bs.set k b):=by
 have hl:=h.len;refine⟨by rw[List.length_set];exact hl,fun i hi=>?_,fun i hi=>?_⟩
 ·rw[q65]
  by_cases e:k=i
  ·subst e;rw[if_pos ⟨rfl,by omega⟩];exact hb
  ·rw[if_neg (fun h=>e h.1)];exact h.done i (by omega)
 ·rw[q65,if_neg (by omega)];exact h.rest i (by omega)
theorem FillF.skip{n k:Nat}{V:Nat->Prop}{bs:List Bool}(h:FillF n V k bs)(hb:¬V k):FillF n V (k+1) bs:=by
 refine⟨h.len,fun i hi=>?_,fun i hi=>h.rest i (by omega)⟩
 by_cases e:i=k
 ·subst e;rw[h.rest i nlr];exact⟨fun h=>(by cases h),fun h=>absurd h hb⟩
 ·exact h.done i (by omega)
structure FillB (n:Nat) (V:Nat->Prop) (k:Nat) (bs:List Bool):Prop where
 len:bs.length=n+1
 done:∀i,k<=i->i<=n->(bs.getD i false=true↔V i)
theorem FillB.next{n k:Nat}{V:Nat->Prop}{bs:List Bool}(h:FillB n V (k+1) bs)(hk:k<=n){b:Bool}(hb:b=true↔V k):FillB n V k (bs.set k b):=by
 have hl:=h.len;refine⟨by rw[List.length_set];exact hl,fun i hi hn=>?_⟩
 rw[q65];by_cases e:k=i
 ·subst e;rw[if_pos ⟨rfl,by omega⟩];exact hb
 ·rw[if_neg (fun h=>e h.1)];exact h.done i (by omega) hn
theorem qjd(x:Int)(k:Nat)(h0:0<=x)(h1:x<256):(bits .and .u8 (x / 2 ^ k) 1==1)=x.toNat.testBit k:=by
 obtain⟨n,rfl⟩:∃n:Nat,x=(n:Int):=⟨x.toNat,by omega⟩
 have e:((n:Int) / 2 ^ k)=((n / 2 ^ k:Nat):Int):=by simp
 have hd:n / 2 ^ k<=n:=Nat.div_le_self _ _;rw[e];have:=u8_and_nat (n / 2 ^ k) 1 (by omega) (by decide)
 rw[show ((1:Nat):Int)=1 from rfl]at this;rw[this,Nat.and_one_is_mod,Int.toNat_natCast,Nat.testBit_eq_decide_div_mod_eq];by_cases h:n / 2 ^ k % 2=1<;>simp[h]<;>omega
theorem q6V(m c:Nat)(d:Option Addr)(zs:List Int)(w:World)(hL:LtSl w d m c zs)(hm:m<=10000):
  Calls Tryz.prog 76 #[.agg #[.int .u8 0,.int .u8 0],.slice d m c] w (ValR m (leafV (zN zs) 0 0) w):=by
 have hmk:=qu (m+1) (by omega)
 rw[show ((m+1:Nat):Int)=(m:Int)+1 by omega]at hmk
 have hzl:(zN zs).length=m:=by rw[q1f];exact hL.sl.hlen
 have HL:=hiq hL
 have HV:Hid (∀i,i<=m->((leafV (zN zs) 0 0) i↔True)):=fun i hi=>by
  simp[leafV]
 clear hL;have hbx:=qc w (.cells #[.int .u8 0,.int .u8 0] 90);have hBx:=(mha w (.cells #[.int .u8 0,.int .u8 0] 90)).1;unfold ValR;generalize (leafV (zN zs) 0 0)=V at *;go_enter Tryz.func76,Tryz.ntmps76
 go_wp2;generalize hw1:w.alloc (.cells #[.int .u8 0,.int .u8 0] 90)=w1 at *;have hs1:w1.heap.size=w.heap.size+1:=by rw[<-hw1];simp
 clear hw1 hmk
 go_loopw [15] (fun i wr=>∃k:Nat,k<=m+1/\i=.int .i64 k/\(∃bs,Hid (ValAt wr (w.heap.size+1) bs)/\Hid (FillF m V k bs))/\Hid (wr.heap[w.heap.size]? =some (.cells #[.int .u8 0,.int .u8 0] 90 (0,0)))/\Hid (Below w.heap.size w wr)) (fun i _=>m+1-(intOf i).toNat)
 case atStart=>
  refine⟨0,Nat.zero_le _,rfl,⟨List.replicate (m+1) false,?_,FillF.zero _ _⟩,?_,?_⟩
  ·rw[<-hs1];exact ValAt.made w1 _
  ·exact(Below.heap_alloc w1 _ _ (by omega)).trans hBx
  ·exact qd hbx (qc _ _)
 case round=>
  obtain⟨k,hk,rfl,⟨bs,HB,HF⟩,HX,HW⟩:=hrel;clear hbx hBx;have hc0:=qb HX.out 0;have hc1:=qb HX.out 1;simp at hc0 hc1
  by_cases hlt:k<m+1
  ·have hi1:=fun w'=>qj (w.heap.size+1) (m+1) k w' hlt
   have hcb:=HB.out.cell (i:=k) (by rw[HF.out.len];exact hlt)
   have hzb:=HB.out.fz k;have HST:Hid (∀b:Bool,ValAt (wr.setCell ⟨w.heap.size+1,k,none⟩ (.bool b)) (w.heap.size+1) (bs.set k b)/\(wr.setCell ⟨w.heap.size+1,k,none⟩ (.bool b)).heap[w.heap.size]? =some (.cells #[.int .u8 0,.int .u8 0] 90 (0,0))/\Below w.heap.size w (wr.setCell ⟨w.heap.size+1,k,none⟩ (.bool b))):=fun b=>⟨HB.out.set k b,(Below.heap_setCell _ _ _ _ (by dsimp only;omega)).trans HX.out,HW.out.setCell (by dsimp only;omega) _⟩
   have HVk:Hid _:=HV.out k (by omega)
   go_wp2
   go_roundw
   case rel=>
    refine⟨k+1,by omega,by go_num,⟨_,(HST.out _).1,HF.out.next (by omega) ?_⟩,(HST.out _).2.1,(HST.out _).2.2⟩
    rw[HVk.out];simp
   case measure=>simp[intOf]<;>omega
  ·obtain rfl:k=m+1:=by omega
   go_wp2;go_ret
   exact⟨_,bs,rfl,HB.out,HF.out.len,fun i hi=>HF.out.done i (by omega),HW.out,Nat.le_succ _⟩
theorem q6W(m c:Nat)(d:Option Addr)(zs:List Int)(w:World)(hL:LtSl w d m c zs)(hm:m<=10000):
  Calls Tryz.prog 76 #[.agg #[.int .u8 1,.int .u8 0],.slice d m c] w (ValR m (leafV (zN zs) 1 0) w):=by
 have hmk:=qu (m+1) (by omega)
 rw[show ((m+1:Nat):Int)=(m:Int)+1 by omega]at hmk
 have hzl:(zN zs).length=m:=by rw[q1f];exact hL.sl.hlen
 have HL:=hiq hL
 have HV:Hid (∀i,i<=m->((leafV (zN zs) 1 0) i↔False)):=fun i hi=>by
  simp[leafV]
 clear hL;have hbx:=qc w (.cells #[.int .u8 1,.int .u8 0] 90);have hBx:=(mha w (.cells #[.int .u8 1,.int .u8 0] 90)).1;unfold ValR;generalize (leafV (zN zs) 1 0)=V at *;go_enter Tryz.func76,Tryz.ntmps76
 go_wp2;generalize hw1:w.alloc (.cells #[.int .u8 1,.int .u8 0] 90)=w1 at *;have hs1:w1.heap.size=w.heap.size+1:=by rw[<-hw1];simp
 clear hw1 hmk
 go_loopw [15] (fun i wr=>∃k:Nat,k<=m+1/\i=.int .i64 k/\(∃bs,Hid (ValAt wr (w.heap.size+1) bs)/\Hid (FillF m V k bs))/\Hid (wr.heap[w.heap.size]? =some (.cells #[.int .u8 1,.int .u8 0] 90 (0,0)))/\Hid (Below w.heap.size w wr)) (fun i _=>m+1-(intOf i).toNat)
 case atStart=>
  refine⟨0,Nat.zero_le _,rfl,⟨List.replicate (m+1) false,?_,FillF.zero _ _⟩,?_,?_⟩
  ·rw[<-hs1];exact ValAt.made w1 _
  ·exact(Below.heap_alloc w1 _ _ (by omega)).trans hBx
  ·exact qd hbx (qc _ _)
 case round=>
  obtain⟨k,hk,rfl,⟨bs,HB,HF⟩,HX,HW⟩:=hrel;clear hbx hBx;have hc0:=qb HX.out 0;have hc1:=qb HX.out 1;simp at hc0 hc1
  by_cases hlt:k<m+1
  ·have hi1:=fun w'=>qj (w.heap.size+1) (m+1) k w' hlt
   have hcb:=HB.out.cell (i:=k) (by rw[HF.out.len];exact hlt)
   have hzb:=HB.out.fz k;have HST:Hid (∀b:Bool,ValAt (wr.setCell ⟨w.heap.size+1,k,none⟩ (.bool b)) (w.heap.size+1) (bs.set k b)/\(wr.setCell ⟨w.heap.size+1,k,none⟩ (.bool b)).heap[w.heap.size]? =some (.cells #[.int .u8 1,.int .u8 0] 90 (0,0))/\Below w.heap.size w (wr.setCell ⟨w.heap.size+1,k,none⟩ (.bool b))):=fun b=>⟨HB.out.set k b,(Below.heap_setCell _ _ _ _ (by dsimp only;omega)).trans HX.out,HW.out.setCell (by dsimp only;omega) _⟩
   have HVk:Hid _:=HV.out k (by omega)
   go_wp2
   go_roundw
   case rel=>exact⟨k+1,by omega,by go_num,⟨bs,HB,HF.out.skip (by rw[HVk.out];exact id)⟩,HX,HW⟩
   case measure=>simp[intOf]<;>omega
  ·obtain rfl:k=m+1:=by omega
   go_wp2;go_ret
   exact⟨_,bs,rfl,HB.out,HF.out.len,fun i hi=>HF.out.done i (by omega),HW.out,Nat.le_succ _⟩
theorem q6X(m c p:Nat)(d:Option Addr)(zs:List Int)(w:World)(hL:LtSl w d m c zs)(hm:m<=10000)(hp:p<=7):
  Calls Tryz.prog 76 #[.agg #[.int .u8 2,.int .u8 (p:Int)],.slice d m c] w (ValR m (leafV (zN zs) 2 p) w):=by
 have hmk:=qu (m+1) (by omega)
 rw[show ((m+1:Nat):Int)=(m:Int)+1 by omega]at hmk
 have hzl:(zN zs).length=m:=by rw[q1f];exact hL.sl.hlen
 have HL:=hiq hL
 have HV:Hid (∀i,i<=m->((leafV (zN zs) 2 p) i↔i<m/\((zN zs).getD i 0).testBit p=true)):=fun i hi=>by
  simp[leafV,hzl]
 clear hL;have hbx:=qc w (.cells #[.int .u8 2,.int .u8 (p:Int)] 90);have hBx:=(mha w (.cells #[.int .u8 2,.int .u8 (p:Int)] 90)).1;unfold ValR;generalize (leafV (zN zs) 2 p)=V at *;go_enter Tryz.func76,Tryz.ntmps76
 go_wp2;generalize hw1:w.alloc (.cells #[.int .u8 2,.int .u8 (p:Int)] 90)=w1 at *;have hs1:w1.heap.size=w.heap.size+1:=by rw[<-hw1];simp
 clear hw1 hmk
 go_loopw [15] (fun i wr=>∃k:Nat,k<=m+1/\i=.int .i64 k/\(∃bs,Hid (ValAt wr (w.heap.size+1) bs)/\Hid (FillF m V k bs))/\Hid (wr.heap[w.heap.size]? =some (.cells #[.int .u8 2,.int .u8 (p:Int)] 90 (0,0)))/\Hid (Below w.heap.size w wr)) (fun i _=>m+1-(intOf i).toNat)
 case atStart=>
  refine⟨0,Nat.zero_le _,rfl,⟨List.replicate (m+1) false,?_,FillF.zero _ _⟩,?_,?_⟩
  ·rw[<-hs1];exact ValAt.made w1 _
  ·exact(Below.heap_alloc w1 _ _ (by omega)).trans hBx
  ·exact qd hbx (qc _ _)
 case round=>
  obtain⟨k,hk,rfl,⟨bs,HB,HF⟩,HX,HW⟩:=hrel;clear hbx hBx;have hc0:=qb HX.out 0;have hc1:=qb HX.out 1;simp at hc0 hc1
  by_cases hlt:k<m+1
  ·have hi1:=fun w'=>qj (w.heap.size+1) (m+1) k w' hlt
   have hcb:=HB.out.cell (i:=k) (by rw[HF.out.len];exact hlt)
   have hzb:=HB.out.fz k;have HST:Hid (∀b:Bool,ValAt (wr.setCell ⟨w.heap.size+1,k,none⟩ (.bool b)) (w.heap.size+1) (bs.set k b)/\(wr.setCell ⟨w.heap.size+1,k,none⟩ (.bool b)).heap[w.heap.size]? =some (.cells #[.int .u8 2,.int .u8 (p:Int)] 90 (0,0))/\Below w.heap.size w (wr.setCell ⟨w.heap.size+1,k,none⟩ (.bool b))):=fun b=>⟨HB.out.set k b,(Below.heap_setCell _ _ _ _ (by dsimp only;omega)).trans HX.out,HW.out.setCell (by dsimp only;omega) _⟩
   have HVk:Hid _:=HV.out k (by omega)
   by_cases hc:k<m
   ·have hci:(k:Int)<(m:Int):=by omega
    have hLr:=HL.out.up HW.out;have hi2:=fun w'=>hLr.sl.idx m k w' hc nlr
    have hc2:=hLr.sl.cell k hc
    have hzz:0<=zs.getD k 0/\zs.getD k 0<256:=by
     have hlz:=hLr.sl.hlen;have:zs.getD k 0=zs[k]'(by omega):=by simp[List.getD_eq_getElem?_getD,show k<zs.length by omega]
     rw[this];exact hLr.ok _ (List.getElem_mem _)
    have HU:Hid _:=qjd (zs.getD k 0) p hzz.1 hzz.2
    have HZ:Hid ((zN zs).getD k 0=(zs.getD k 0).toNat):=by
     have hlz:=hLr.sl.hlen
     show _=_
     simp[zN,List.getD_eq_getElem?_getD,show k<zs.length by omega]
    generalize zs.getD k 0=z at *;generalize hr:bits BinOp.and IntKind.u8 (z / 2 ^ p) 1=r at *;have HR:=hiq hr;clear hLr hzz;go_wp2
    go_region
    go_wp2
    go_roundw
    case rel=>exact⟨k+1,by omega,by go_num,⟨_,(HST.out _).1,HF.out.next (by omega) (by rw[HVk.out,HZ.out,<-HU.out];simp[hc])⟩,(HST.out _).2.1,Below.drew (HST.out _).2.2⟩
    case measure=>simp[intOf]<;>omega
   ·have hci:¬(k:Int)<(m:Int):=by omega
    go_wp2
    go_region
    go_wp2
    go_roundw
    case rel=>exact⟨k+1,by omega,by go_num,⟨_,(HST.out _).1,HF.out.next (by omega) (by rw[HVk.out];simp[hc])⟩,(HST.out _).2.1,Below.drew (HST.out _).2.2⟩
    case measure=>simp[intOf]<;>omega
  ·obtain rfl:k=m+1:=by omega
   go_wp2;go_ret
   exact⟨_,bs,rfl,HB.out,HF.out.len,fun i hi=>HF.out.done i (by omega),HW.out,Nat.le_succ _⟩
theorem q6Y(m c:Nat)(d:Option Addr)(zs:List Int)(w:World)(hL:LtSl w d m c zs)(hm:m<=10000):
  Calls Tryz.prog 76 #[.agg #[.int .u8 3,.int .u8 0],.slice d m c] w (ValR m (leafV (zN zs) 3 0) w):=by
 have hmk:=qu (m+1) (by omega)
 rw[show ((m+1:Nat):Int)=(m:Int)+1 by omega]at hmk
 have hzl:(zN zs).length=m:=by rw[q1f];exact hL.sl.hlen
 have HL:=hiq hL
 have HV:Hid (∀i,i<=m->((leafV (zN zs) 3 0) i↔i+1=m)):=fun i hi=>by
  simp[leafV,hzl]
 clear hL;have hbx:=qc w (.cells #[.int .u8 3,.int .u8 0] 90);have hBx:=(mha w (.cells #[.int .u8 3,.int .u8 0] 90)).1;unfold ValR;generalize (leafV (zN zs) 3 0)=V at *;go_enter Tryz.func76,Tryz.ntmps76
 go_wp2;generalize hw1:w.alloc (.cells #[.int .u8 3,.int .u8 0] 90)=w1 at *;have hs1:w1.heap.size=w.heap.size+1:=by rw[<-hw1];simp
 clear hw1 hmk
 go_loopw [15] (fun i wr=>∃k:Nat,k<=m+1/\i=.int .i64 k/\(∃bs,Hid (ValAt wr (w.heap.size+1) bs)/\Hid (FillF m V k bs))/\Hid (wr.heap[w.heap.size]? =some (.cells #[.int .u8 3,.int .u8 0] 90 (0,0)))/\Hid (Below w.heap.size w wr)) (fun i _=>m+1-(intOf i).toNat)
 case atStart=>
  refine⟨0,Nat.zero_le _,rfl,⟨List.replicate (m+1) false,?_,FillF.zero _ _⟩,?_,?_⟩
  ·rw[<-hs1];exact ValAt.made w1 _
  ·exact(Below.heap_alloc w1 _ _ (by omega)).trans hBx
  ·exact qd hbx (qc _ _)
 case round=>
  obtain⟨k,hk,rfl,⟨bs,HB,HF⟩,HX,HW⟩:=hrel;clear hbx hBx;have hc0:=qb HX.out 0;have hc1:=qb HX.out 1;simp at hc0 hc1
  by_cases hlt:k<m+1
  ·have hi1:=fun w'=>qj (w.heap.size+1) (m+1) k w' hlt
   have hcb:=HB.out.cell (i:=k) (by rw[HF.out.len];exact hlt)
   have hzb:=HB.out.fz k;have HST:Hid (∀b:Bool,ValAt (wr.setCell ⟨w.heap.size+1,k,none⟩ (.bool b)) (w.heap.size+1) (bs.set k b)/\(wr.setCell ⟨w.heap.size+1,k,none⟩ (.bool b)).heap[w.heap.size]? =some (.cells #[.int .u8 3,.int .u8 0] 90 (0,0))/\Below w.heap.size w (wr.setCell ⟨w.heap.size+1,k,none⟩ (.bool b))):=fun b=>⟨HB.out.set k b,(Below.heap_setCell _ _ _ _ (by dsimp only;omega)).trans HX.out,HW.out.setCell (by dsimp only;omega) _⟩
   have HVk:Hid _:=HV.out k (by omega)
   by_cases hc:k+1=m
   ·obtain rfl:m=k+1:=by omega
    go_wp2
    go_roundw
    case rel=>
     refine⟨k+1,by omega,by go_num,⟨_,(HST.out _).1,HF.out.next (by omega) ?_⟩,(HST.out _).2.1,(HST.out _).2.2⟩
     rw[HVk.out];simp
    case measure=>simp[intOf]<;>omega
   ·have hci:¬(k:Int)+1=(m:Int):=by omega
    go_wp2
    go_roundw
    case rel=>
     refine⟨k+1,by omega,by go_num,⟨_,(HST.out _).1,HF.out.next (by omega) ?_⟩,(HST.out _).2.1,(HST.out _).2.2⟩
     rw[HVk.out]
     first|(simp[hc];done)|(simp[hc];omega)
    case measure=>simp[intOf]<;>omega
  ·obtain rfl:k=m+1:=by omega
   go_wp2;go_ret
   exact⟨_,bs,rfl,HB.out,HF.out.len,fun i hi=>HF.out.done i (by omega),HW.out,Nat.le_succ _⟩
theorem q6Z(m c:Nat)(d:Option Addr)(zs:List Int)(w:World)(hL:LtSl w d m c zs)(hm:m<=10000):
  Calls Tryz.prog 76 #[.agg #[.int .u8 4,.int .u8 0],.slice d m c] w (ValR m (leafV (zN zs) 4 0) w):=by
 have hmk:=qu (m+1) (by omega)
 rw[show ((m+1:Nat):Int)=(m:Int)+1 by omega]at hmk
 have hzl:(zN zs).length=m:=by rw[q1f];exact hL.sl.hlen
 have HL:=hiq hL
 have HV:Hid (∀i,i<=m->((leafV (zN zs) 4 0) i↔i<m)):=fun i hi=>by
  simp[leafV,hzl]
 clear hL;have hbx:=qc w (.cells #[.int .u8 4,.int .u8 0] 90);have hBx:=(mha w (.cells #[.int .u8 4,.int .u8 0] 90)).1;unfold ValR;generalize (leafV (zN zs) 4 0)=V at *;go_enter Tryz.func76,Tryz.ntmps76
 go_wp2;generalize hw1:w.alloc (.cells #[.int .u8 4,.int .u8 0] 90)=w1 at *;have hs1:w1.heap.size=w.heap.size+1:=by rw[<-hw1];simp
 clear hw1 hmk
 go_loopw [15] (fun i wr=>∃k:Nat,k<=m+1/\i=.int .i64 k/\(∃bs,Hid (ValAt wr (w.heap.size+1) bs)/\Hid (FillF m V k bs))/\Hid (wr.heap[w.heap.size]? =some (.cells #[.int .u8 4,.int .u8 0] 90 (0,0)))/\Hid (Below w.heap.size w wr)) (fun i _=>m+1-(intOf i).toNat)
 case atStart=>
  refine⟨0,Nat.zero_le _,rfl,⟨List.replicate (m+1) false,?_,FillF.zero _ _⟩,?_,?_⟩
  ·rw[<-hs1];exact ValAt.made w1 _
  ·exact(Below.heap_alloc w1 _ _ (by omega)).trans hBx
  ·exact qd hbx (qc _ _)
 case round=>
  obtain⟨k,hk,rfl,⟨bs,HB,HF⟩,HX,HW⟩:=hrel;clear hbx hBx;have hc0:=qb HX.out 0;have hc1:=qb HX.out 1;simp at hc0 hc1
  by_cases hlt:k<m+1
  ·have hi1:=fun w'=>qj (w.heap.size+1) (m+1) k w' hlt
   have hcb:=HB.out.cell (i:=k) (by rw[HF.out.len];exact hlt)
   have hzb:=HB.out.fz k;have HST:Hid (∀b:Bool,ValAt (wr.setCell ⟨w.heap.size+1,k,none⟩ (.bool b)) (w.heap.size+1) (bs.set k b)/\(wr.setCell ⟨w.heap.size+1,k,none⟩ (.bool b)).heap[w.heap.size]? =some (.cells #[.int .u8 4,.int .u8 0] 90 (0,0))/\Below w.heap.size w (wr.setCell ⟨w.heap.size+1,k,none⟩ (.bool b))):=fun b=>⟨HB.out.set k b,(Below.heap_setCell _ _ _ _ (by dsimp only;omega)).trans HX.out,HW.out.setCell (by dsimp only;omega) _⟩
   have HVk:Hid _:=HV.out k (by omega)
   by_cases hc:k<m
   ·have hci:(k:Int)<(m:Int):=by omega
    go_wp2
    go_roundw
    case rel=>
     refine⟨k+1,by omega,by go_num,⟨_,(HST.out _).1,HF.out.next (by omega) ?_⟩,(HST.out _).2.1,(HST.out _).2.2⟩
     rw[HVk.out]
     first|(simp[hc];done)|(simp[hc];omega)
    case measure=>simp[intOf]<;>omega
   ·have hci:¬(k:Int)<(m:Int):=by omega
    go_wp2
    go_roundw
    case rel=>
     refine⟨k+1,by omega,by go_num,⟨_,(HST.out _).1,HF.out.next (by omega) ?_⟩,(HST.out _).2.1,(HST.out _).2.2⟩
     rw[HVk.out]
     first|(simp[hc];done)|(simp[hc];omega)
    case measure=>simp[intOf]<;>omega
  ·obtain rfl:k=m+1:=by omega
   go_wp2;go_ret
   exact⟨_,bs,rfl,HB.out,HF.out.len,fun i hi=>HF.out.done i (by omega),HW.out,Nat.le_succ _⟩
theorem q70(m c:Nat)(d:Option Addr)(zs:List Int)(w:World)(hL:LtSl w d m c zs)(hm:m<=10000):
  Calls Tryz.prog 76 #[.agg #[.int .u8 5,.int .u8 0],.slice d m c] w (ValR m (leafV (zN zs) 5 0) w):=by
 have hmk:=qu (m+1) (by omega)
 rw[show ((m+1:Nat):Int)=(m:Int)+1 by omega]at hmk
 have hzl:(zN zs).length=m:=by rw[q1f];exact hL.sl.hlen
 have HL:=hiq hL
 have HV:Hid (∀i,i<=m->((leafV (zN zs) 5 0) i↔i=m)):=fun i hi=>by
  simp[leafV,hzl]
 clear hL;have hbx:=qc w (.cells #[.int .u8 5,.int .u8 0] 90);have hBx:=(mha w (.cells #[.int .u8 5,.int .u8 0] 90)).1;unfold ValR;generalize (leafV (zN zs) 5 0)=V at *;go_enter Tryz.func76,Tryz.ntmps76
 go_wp2;generalize hw1:w.alloc (.cells #[.int .u8 5,.int .u8 0] 90)=w1 at *;have hs1:w1.heap.size=w.heap.size+1:=by rw[<-hw1];simp
 clear hw1 hmk
 go_loopw [15] (fun i wr=>∃k:Nat,k<=m+1/\i=.int .i64 k/\(∃bs,Hid (ValAt wr (w.heap.size+1) bs)/\Hid (FillF m V k bs))/\Hid (wr.heap[w.heap.size]? =some (.cells #[.int .u8 5,.int .u8 0] 90 (0,0)))/\Hid (Below w.heap.size w wr)) (fun i _=>m+1-(intOf i).toNat)
 case atStart=>
  refine⟨0,Nat.zero_le _,rfl,⟨List.replicate (m+1) false,?_,FillF.zero _ _⟩,?_,?_⟩
  ·rw[<-hs1];exact ValAt.made w1 _
  ·exact(Below.heap_alloc w1 _ _ (by omega)).trans hBx
  ·exact qd hbx (qc _ _)
 case round=>
  obtain⟨k,hk,rfl,⟨bs,HB,HF⟩,HX,HW⟩:=hrel;clear hbx hBx;have hc0:=qb HX.out 0;have hc1:=qb HX.out 1;simp at hc0 hc1
  by_cases hlt:k<m+1
  ·have hi1:=fun w'=>qj (w.heap.size+1) (m+1) k w' hlt
   have hcb:=HB.out.cell (i:=k) (by rw[HF.out.len];exact hlt)
   have hzb:=HB.out.fz k;have HST:Hid (∀b:Bool,ValAt (wr.setCell ⟨w.heap.size+1,k,none⟩ (.bool b)) (w.heap.size+1) (bs.set k b)/\(wr.setCell ⟨w.heap.size+1,k,none⟩ (.bool b)).heap[w.heap.size]? =some (.cells #[.int .u8 5,.int .u8 0] 90 (0,0))/\Below w.heap.size w (wr.setCell ⟨w.heap.size+1,k,none⟩ (.bool b))):=fun b=>⟨HB.out.set k b,(Below.heap_setCell _ _ _ _ (by dsimp only;omega)).trans HX.out,HW.out.setCell (by dsimp only;omega) _⟩
   have HVk:Hid _:=HV.out k (by omega)
   by_cases hc:k=m
   ·obtain rfl:k=m:=hc
    go_wp2
    go_roundw
    case rel=>
     refine⟨k+1,by omega,by go_num,⟨_,(HST.out _).1,HF.out.next (by omega) ?_⟩,(HST.out _).2.1,(HST.out _).2.2⟩
     rw[HVk.out];simp
    case measure=>simp[intOf]<;>omega
   ·have hci:¬(k:Int)=(m:Int):=by omega
    go_wp2
    go_roundw
    case rel=>
     refine⟨k+1,by omega,by go_num,⟨_,(HST.out _).1,HF.out.next (by omega) ?_⟩,(HST.out _).2.1,(HST.out _).2.2⟩
     rw[HVk.out]
     first|(simp[hc];done)|(simp[hc];omega)
    case measure=>simp[intOf]<;>omega
  ·obtain rfl:k=m+1:=by omega
   go_wp2;go_ret
   exact⟨_,bs,rfl,HB.out,HF.out.len,fun i hi=>HF.out.done i (by omega),HW.out,Nat.le_succ _⟩
def someP (rs:Nat->List Nat) (bv:List Bool) (i k:Nat):Prop:=∃m,m<k/\hasW (rs i) m=true/\bv.getD m false=true
def everyP (rs:Nat->List Nat) (bv:List Bool) (i k:Nat):Prop:=∀m,m<k->hasW (rs i) m=true->bv.getD m false=true
theorem qeX{rs:Nat->List Nat}{bv:List Bool}{i:Nat}:false=true↔someP rs bv i 0:=⟨fun h=>(by cases h),fun⟨m,h,_⟩=>absurd h (by omega)⟩
theorem qdC{rs:Nat->List Nat}{bv:List Bool}{i:Nat}:true=true↔everyP rs bv i 0:=⟨fun _ m h=>absurd h (by omega),fun _=>rfl⟩
theorem qfZ{rs:Nat->List Nat}{bv:List Bool}{i k:Nat}(h1:hasW (rs i) k=true)(h2:bv.getD k false=true):true=true↔someP rs bv i (k+1):=⟨fun _=>⟨k,by omega,h1,h2⟩,fun _=>rfl⟩
theorem qey{rs:Nat->List Nat}{bv:List Bool}{i k:Nat}(h1:hasW (rs i) k=true)(h2:bv.getD k false=false):false=true↔everyP rs bv i (k+1):=⟨fun h=>(by cases h),fun h=>by have:=h k (by omega) h1;rw[h2]at this;cases this⟩
theorem qhc{rs:Nat->List Nat}{bv:List Bool}{i k:Nat}{b:Bool}(h:b=true↔someP rs bv i k)(hn:hasW (rs i) k=true->bv.getD k false=false):b=true↔someP rs bv i (k+1):=by
 rw[h]
 constructor
 ·rintro⟨m,h1,h2⟩;exact⟨m,by omega,h2⟩
 ·rintro⟨m,h1,h2,h3⟩
  by_cases e:m=k
  ·subst e;rw[hn h2]at h3;cases h3
  ·exact⟨m,by omega,h2,h3⟩
theorem qfk{rs:Nat->List Nat}{bv:List Bool}{i k:Nat}{b:Bool}(h:b=true↔everyP rs bv i k)(hn:hasW (rs i) k=true->bv.getD k false=true):b=true↔everyP rs bv i (k+1):=by
 rw[h]
 constructor
 ·intro h m h1 h2
  by_cases e:m=k
  ·subst e;exact hn h2
  ·exact h m (by omega) h2
 ·intro h m h1 h2;exact h m (by omega) h2
theorem qh9{bs:List Bool}{k:Nat}(h:bs.getD k false=false):bs.set k false=bs:=by
 refine List.ext_getElem (by simp) fun i h1 h2=>?_
 by_cases e:k=i
 ·subst e
  rw[List.getD_eq_getElem?_getD,List.getElem?_eq_getElem h2]at h;simp at h
  simp[h]
 ·simp[e]
theorem q6z(n g gb:Nat)(rs:Nat->List Nat)(bv:List Bool)(w:World)(hE:EndAt w g (n+1) rs)(hB:ValAt w gb bv)(hl:bv.length=n+1)(hn:n<=10000):
  Calls Tryz.prog 81 #[.slice (some ⟨g,0,none⟩) (n+1) (n+1),.slice (some ⟨gb,0,none⟩) (n+1) (n+1)] w (ValR n (fun i=>someP rs bv i (n+1)) w):=by
 have hmk:=qu (n+1) (by omega)
 have HE:=hiq hE;have HVB:=hiq hB;clear hE hB;have hq:∃q,n+1=q:=⟨_,rfl⟩;obtain⟨q,hq⟩:=hq;have HQ:=hiq hq;rw[hq]at hmk hl ⊢;clear hq;have hqb:q<=10001:=by have:=HQ.out;omega
 go_enter Tryz.func81,Tryz.ntmps81
 go_wp2;clear hmk
 go_loopw [14] (fun i wr=>∃k:Nat,k<=q/\i=.int .i64 k/\(∃bs,Hid (ValAt wr w.heap.size bs)/\Hid (FillF n (fun i=>someP rs bv i q) k bs))/\Hid (Below w.heap.size w wr)) (fun i _=>q-(intOf i).toNat)
 case atStart=>exact⟨0,Nat.zero_le _,rfl,⟨List.replicate q false,ValAt.made w _,by have:=FillF.zero n (fun i=>someP rs bv i q);rw[HQ.out]at this;exact this⟩,qc _ _⟩
 case round=>
  obtain⟨n0,hn0,rfl,⟨bs,HB,HF⟩,HW⟩:=hrel;by_cases hnq:n0<q
  ·have hi1:=fun w'=>qj w.heap.size q n0 w' hnq
   have hbl:bs.length=q:=by rw[HF.out.len];exact HQ.out
   have hcb:=HB.out.cell (i:=n0) (by omega)
   have hzb:=HB.out.fz n0;have HB0:Hid (ValAt (wr) w.heap.size (bs.set n0 false)):=by show ValAt _ _ _;rw[qh9 (HF.out.rest n0 nlr)];exact HB.out
   have HW0:=hiq HW;clear HB HW;go_wp2;clear hcb hzb
   go_loopw [19] (fun i wr=>∃k:Nat,k<=q/\i=.int .i64 k/\(∃bb:Bool,Hid (ValAt wr w.heap.size (bs.set n0 bb))/\Hid (bb=true↔someP rs bv n0 k))/\Hid (Below w.heap.size w wr)) (fun i _=>q-(intOf i).toNat)
   case atStart=>exact⟨0,Nat.zero_le _,rfl,⟨false,HB0,qeX⟩,HW0⟩
   case round=>
    obtain⟨k,hk,rfl,⟨bb,HB,HP⟩,HW⟩:=hrel;clear HB0 HW0;by_cases hlt:k<q
    ·have hEr:=HE.out.up HW.out
     have hVr:=HVB.out.up HW.out;have hi2:=fun w'=>qj gb q k w' hlt
     have hc2:=hVr.cell (i:=k) (by omega)
     have hi3:=fun w'=>qK g q n0 w' hnq
     have hc3:=hEr.cell (i:=n0) (by have:=HQ.out;omega)
     have hhas:=q3t (g+1+n0) (wordsN (n+1)) k (rs n0) wr (hEr.rows n0 (by have:=HQ.out;omega)) (HE.out.ok n0 (by have:=HQ.out;omega)) (q27 (by have:=HQ.out;omega)) (by omega)
     generalize wordsN (n+1)=W at *;have HN:Hid _:=qhc HP.out;have HH:Hid _:=qfZ (rs:=rs) (bv:=bv) (i:=n0) (k:=k);clear hEr hVr;generalize bv.getD k false=p at *
     cases p with
     |false=>
      clear hhas;go_wp2
      go_roundw
      case rel=>exact⟨k+1,by omega,by go_num,⟨bb,HB,HN.out (fun _=>rfl)⟩,HW⟩
      case measure=>simp[intOf]<;>omega
     |true=>
      generalize hasW (rs n0) k=r at *
      go_wp2_with fail
      refine hhas.mono ?_
      rintro e w3 ⟨rfl,hb3⟩
      have HB3:Hid (ValAt w3 w.heap.size (bs.set n0 bb)):=HB.out.up hb3;have HW3:Hid (Below w.heap.size w w3):=qd HW.out hb3;clear hhas hb3 HB HW hc2 hc3
      cases r with
      |false=>
       go_wp2
       go_roundw
       case rel=>exact⟨k+1,by omega,by go_num,⟨bb,HB3,HN.out (fun h=>(by cases h))⟩,HW3⟩
       case measure=>simp[intOf]<;>omega
      |true=>
       have hcb:=HB3.out.cell (i:=n0) (by rw[List.length_set];omega)
       have hzb:=HB3.out.fz n0;have HB4:Hid _:=HB3.out.set n0 true;go_wp2
       go_roundw
       case rel=>exact⟨k+1,by omega,by go_num,⟨true,by have:=HB4.out;rw[List.set_set]at this;exact this,by have h:=HH.out;simp at h;show (_=true↔_);simp[h]⟩,HW3.out.setCell (Nat.le_refl _) _⟩
       case measure=>simp[intOf]<;>omega
    ·obtain rfl:k=q:=by omega
     go_wp2
     go_roundw
     case rel=>exact⟨n0+1,by omega,by go_num,⟨_,HB,HF.out.next (by have:=HQ.out;omega) HP.out⟩,HW⟩
     case measure=>simp[intOf]<;>omega
  ·obtain rfl:n0=q:=by omega
   go_wp2;go_ret
   unfold ValR;have e:=HQ.out;subst e;exact⟨_,bs,rfl,HB.out,HF.out.len,fun i hi=>HF.out.done i (by omega),HW.out,nlr⟩
theorem q5Q(n g gb:Nat)(rs:Nat->List Nat)(bv:List Bool)(w:World)(hE:EndAt w g (n+1) rs)(hB:ValAt w gb bv)(hl:bv.length=n+1)(hn:n<=10000):
  Calls Tryz.prog 82 #[.slice (some ⟨g,0,none⟩) (n+1) (n+1),.slice (some ⟨gb,0,none⟩) (n+1) (n+1)] w (ValR n (fun i=>everyP rs bv i (n+1)) w):=by
 have hmk:=qu (n+1) (by omega)
 have HE:=hiq hE;have HVB:=hiq hB;clear hE hB;have hq:∃q,n+1=q:=⟨_,rfl⟩;obtain⟨q,hq⟩:=hq;have HQ:=hiq hq;rw[hq]at hmk hl ⊢;clear hq;have hqb:q<=10001:=by have:=HQ.out;omega
 go_enter Tryz.func82,Tryz.ntmps82
 go_wp2;clear hmk
 go_loopw [14] (fun i wr=>∃k:Nat,k<=q/\i=.int .i64 k/\(∃bs,Hid (ValAt wr w.heap.size bs)/\Hid (FillF n (fun i=>everyP rs bv i q) k bs))/\Hid (Below w.heap.size w wr)) (fun i _=>q-(intOf i).toNat)
 case atStart=>exact⟨0,Nat.zero_le _,rfl,⟨List.replicate q false,ValAt.made w _,by have:=FillF.zero n (fun i=>everyP rs bv i q);rw[HQ.out]at this;exact this⟩,qc _ _⟩
 case round=>
  obtain⟨n0,hn0,rfl,⟨bs,HB,HF⟩,HW⟩:=hrel;by_cases hnq:n0<q
  ·have hi1:=fun w'=>qj w.heap.size q n0 w' hnq
   have hbl:bs.length=q:=by rw[HF.out.len];exact HQ.out
   have hcb:=HB.out.cell (i:=n0) (by omega)
   have hzb:=HB.out.fz n0;have HB0:Hid (ValAt (wr.setCell ⟨w.heap.size,n0,none⟩ (.bool true)) w.heap.size (bs.set n0 true)):=HB.out.set n0 true;have HW0:Hid (Below w.heap.size w (wr.setCell ⟨w.heap.size,n0,none⟩ (.bool true))):=HW.out.setCell nlr _;clear HB HW;go_wp2;clear hcb hzb
   go_loopw [22] (fun i wr=>∃k:Nat,k<=q/\i=.int .i64 k/\(∃bb:Bool,Hid (ValAt wr w.heap.size (bs.set n0 bb))/\Hid (bb=true↔everyP rs bv n0 k))/\Hid (Below w.heap.size w wr)) (fun i _=>q-(intOf i).toNat)
   case atStart=>exact⟨0,Nat.zero_le _,rfl,⟨true,HB0,qdC⟩,HW0⟩
   case round=>
    obtain⟨k,hk,rfl,⟨bb,HB,HP⟩,HW⟩:=hrel;clear HB0 HW0;by_cases hlt:k<q
    ·have hEr:=HE.out.up HW.out
     have hVr:=HVB.out.up HW.out;have hi2:=fun w'=>qj gb q k w' hlt
     have hc2:=hVr.cell (i:=k) (by omega)
     have hi3:=fun w'=>qK g q n0 w' hnq
     have hc3:=hEr.cell (i:=n0) (by have:=HQ.out;omega)
     have hhas:=q3t (g+1+n0) (wordsN (n+1)) k (rs n0) wr (hEr.rows n0 (by have:=HQ.out;omega)) (HE.out.ok n0 (by have:=HQ.out;omega)) (q27 (by have:=HQ.out;omega)) (by omega)
     generalize wordsN (n+1)=W at *;have HN:Hid _:=qfk HP.out;have HH:Hid _:=qey (rs:=rs) (bv:=bv) (i:=n0) (k:=k);clear hEr hVr;generalize bv.getD k false=p at *
     cases p with
     |true=>
      clear hhas;go_wp2
      go_roundw
      case rel=>exact⟨k+1,by omega,by go_num,⟨bb,HB,HN.out (fun _=>rfl)⟩,HW⟩
      case measure=>simp[intOf]<;>omega
     |false=>
      generalize hasW (rs n0) k=r at *
      go_wp2_with fail
      refine hhas.mono ?_
      rintro e w3 ⟨rfl,hb3⟩
      have HB3:Hid (ValAt w3 w.heap.size (bs.set n0 bb)):=HB.out.up hb3;have HW3:Hid (Below w.heap.size w w3):=qd HW.out hb3;clear hhas hb3 HB HW hc2 hc3
      cases r with
      |false=>
       go_wp2
       go_roundw
       case rel=>exact⟨k+1,by omega,by go_num,⟨bb,HB3,HN.out (fun h=>(by cases h))⟩,HW3⟩
       case measure=>simp[intOf]<;>omega
      |true=>
       have hcb:=HB3.out.cell (i:=n0) (by rw[List.length_set];omega)
       have hzb:=HB3.out.fz n0;have HB4:Hid _:=HB3.out.set n0 false;go_wp2
       go_roundw
       case rel=>exact⟨k+1,by omega,by go_num,⟨false,by have:=HB4.out;rw[List.set_set]at this;exact this,by have h:=HH.out;simp at h;show (_=true↔_);simp[h]⟩,HW3.out.setCell (Nat.le_refl _) _⟩
       case measure=>simp[intOf]<;>omega
    ·obtain rfl:k=q:=by omega
     go_wp2
     go_roundw
     case rel=>exact⟨n0+1,by omega,by go_num,⟨_,HB,HF.out.next (by have:=HQ.out;omega) HP.out⟩,HW⟩
     case measure=>simp[intOf]<;>omega
  ·obtain rfl:n0=q:=by omega
   go_wp2;go_ret
   unfold ValR;have e:=HQ.out;subst e;exact⟨_,bs,rfl,HB.out,HF.out.len,fun i hi=>HF.out.done i (by omega),HW.out,nlr⟩
abbrev Sl:=Option Addr×Nat×Nat
def slV (s:Sl):Value:=.slice s.1 s.2.1 s.2.2
abbrev Mp:=Sl×Sl
def encS (st:List Mp):List Value:=st.flatMap fun x=>[slV x.1,slV x.2]
theorem qag(x:Mp)(st:List Mp):encS (x::st)=slV x.1::slV x.2::encS st:=rfl
theorem q4k(xs ys:List Mp):encS (xs++ys)=encS xs++encS ys:=by simp[encS]
theorem q7e:∀st:List Mp,(encS st).length=st.length*2
 | []=>rfl
 |x::st=>by rw[qag];simp[q7e st];omega
theorem q7d:∀(st:List Mp) (i:Nat) (h:i<st.length),(encS st)[2*i]? =some (slV st[i].1)/\(encS st)[2*i+1]? =some (slV st[i].2)
 | [],i,h=>absurd h (by simp)
 |x::st,0,_=>⟨rfl,rfl⟩
 |x::st,i+1,h=>by
  have:=q7d st i (by simpa using h)
  rw[qag,show 2*(i+1)=2*i+1+1 by omega,show 2*i+1+1+1=(2*i+1)+1+1 by omega]
  simpa using this
theorem qgn(st:List Mp):∀u∈encS st,u.oneCell'=true:=by
 intro u hu;unfold encS at hu;obtain⟨c,_,hc⟩:=List.mem_flatMap.1 hu;simp at hc
 rcases hc with rfl|rfl<;>rfl
theorem qfN{w w':World}{base e size n:Nat}{v:Value}{xs:List Value}(h:w.ownsRow base e size v n xs)(hk:∀k,base<=k->k<w.heap.size->w'.heap[k]? =w.heap[k]?):w'.ownsRow base e size v n xs:=by
 obtain⟨hl,h⟩:=h;refine⟨hl,h.imp id ?_⟩
 rintro⟨g,cap,cur,rfl,hg,hcell,r⟩
 exact⟨g,cap,cur,rfl,hg,(hk g hg (aes hcell).1).trans hcell,r⟩
theorem qfK{w:World}{base e size n:Nat}{v:Value}{xs:List Value}(h:w.ownsRow base e size v n xs):∃a cap,v=.slice a n cap:=by
 rcases h.2 with⟨rfl,rfl⟩|⟨g,cap,cur,rfl,_⟩
 ·exact⟨none,0,rfl⟩
 ·exact⟨_,cap,rfl⟩
theorem q6H:(Tryz.prog.info? 71).map (·.size)=some 2:=by kernel_rfl
theorem qdb:(Tryz.prog.info? 71).map (fun i=>(i.zero,i.size,i.bytes))=some (some (.agg #[.slice none 0 0,.slice none 0 0]),2,48):=by kernel_rfl
structure StkAt (w:World) (b B:Nat) (st:List Mp):Prop where
 c:∃v,w.heap[b]? =some (.cells #[v] 99 (0,0))/\w.ownsRow (b+1) 71 2 v st.length (encS st)/\∀k,v.ownBlock=some k->k<B
 lt:b<B
theorem StkAt.keep{w w':World}{b B:Nat}{st:List Mp}(h:StkAt w b B st)(hk:∀k c t z,w.heap[k]? =some (.cells c t z)->(t=99\/t=71)->b<=k->k<B->w'.heap[k]? =w.heap[k]?):StkAt w' b B st:=by
 obtain⟨v,h1,h2,h3⟩:=h.c;refine⟨⟨v,(hk b _ _ _ h1 (Or.inl rfl) nlr h.lt).trans h1,?_,h3⟩,h.lt⟩
 obtain⟨hl,h⟩:=h2;refine⟨hl,h.imp id ?_⟩
 rintro⟨g,cap,cur,rfl,hg,hcell,r⟩
 exact⟨g,cap,cur,rfl,hg,(hk g _ _ _ hcell (Or.inr rfl) (by omega) (h3 g rfl)).trans hcell,r⟩
theorem StkAt.up{w w':World}{b B:Nat}{st:List Mp}(h:StkAt w b B st)(hb:Below w.heap.size w w'):StkAt w' b B st:=h.keep fun k _ _ _ hc _ _ _=>hb.block k (aes hc).1
theorem StkAt.size{w:World}{b B:Nat}{st:List Mp}(h:StkAt w b B st):StkAt w b w.heap.size st:=by
 obtain⟨v,h1,h2,h3⟩:=h.c;refine⟨⟨v,h1,h2,fun k hk=>?_⟩,(aes h1).1⟩
 rcases h2.2 with⟨rfl,_⟩|⟨g,cap,cur,rfl,_,hcell,_⟩
 ·cases hk
 ·injection hk with hk
  dsimp only at hk
  subst hk;exact(aes hcell).1
theorem qj2{w:World}{base e n:Nat}{v:Value}{st:List Mp}(h:w.ownsRow base e 2 v n (encS st))(hn:0<n):
  ∃g cap,v=.slice (some ⟨g,0,none⟩) n cap/\base<=g/\n<=cap/\cap<=maxLen/\st.length=n/\∀i (h:i<st.length),w.cell? ⟨g,2*i,none⟩=some (slV st[i].1)/\w.cell? ⟨g,2*i+1,none⟩=some (slV st[i].2):=by
 obtain⟨hl,h⟩:=h;rw[q7e]at hl;have hl':st.length=n:=by omega
 rcases h with⟨_,rfl⟩|⟨g,cap,cur,rfl,hg,hcell,hnc,hcm,hsz,htk⟩
 ·omega
 ·have key:∀j,j<n*2->w.cell? ⟨g,j,none⟩=(encS st)[j]? := fun j hj=>by
   rw[<-htk,List.getElem?_take,if_pos hj];simp[World.cell?,hcell]
  refine⟨g,cap,rfl,hg,hnc,hcm,hl',fun i hi=>⟨?_,?_⟩⟩
  ·rw[key _ (by omega)];exact(q7d st i hi).1
  ·rw[key _ (by omega)];exact(q7d st i hi).2
theorem qy(b B:Nat)(st:List Mp)(x:Mp)(w:World)(h:StkAt w b B (st++[x]))(hn:st.length<=1000000):
  Calls Tryz.prog 54 #[.pointer (some ⟨b,0,none⟩)] w fun e w'=>e=.returned (.agg #[slV x.1,slV x.2])/\StkAt w' b B st/\w.grownBy w' (some b):=by
 have hltB:=h.lt;obtain⟨v,hr,ho,hB⟩:=h.c;have hlt:b<w.heap.size:=(aes hr).1
 have HR:=hiq hr;rw[q4k,List.length_append,List.length_singleton]at ho;have HO:=hiq ho;have ho':=ho;rw[<-q4k]at ho';obtain⟨g,cap,rfl,hg,hnc,hcm,hl',hcs⟩:=qj2 ho' (by omega)
 have hc:=hcs st.length (by simp)
 simp only[List.getElem_append_right (Nat.le_refl st.length),Nat.sub_self,List.getElem_cons_zero]at hc
 obtain⟨c0,c1⟩:=hc;have hgl:=World.block_lt_of_cell? _ _ c0;have cb:w.cell? ⟨b,0,none⟩=some (.slice (some ⟨g,0,none⟩) (st.length+1) cap):=qb hr 0;have zb:w.frozen? ⟨b,0,none⟩=false:=frozen_of_row w b 0 _ _ hr;have hidx:=fun w'=>qhM Tryz.underlying99 q6H (g:=g) (cap:=cap) (n:=st.length+1) st.length w' (by omega)
 have hsl:∀w',(Instr.sliceAt 99 (.slice (some ⟨g,0,none⟩) (st.length+1) cap) none (some (.int .i64 (st.length:Int))) none).run Tryz.prog w'=.ok (.slice (some ⟨g,0,none⟩) st.length cap) w':=fun w'=>by
  have hmc:st.length<=cap:=by omega
  simp[Instr.sliceAt,Instr.slice,run_underlying Tryz.underlying99,q4m q6H,go_sem,hmc]
 have HBg:Hid (g<B):=hB g rfl
 have HFIN:Hid (∀w',w'.heap[b]? =some (.cells #[.slice (some ⟨g,0,none⟩) st.length cap] 99 (0,0))->w.grownBy w' (some b)->StkAt w' b B st):=fun w' h1 h2=>by
  refine⟨⟨_,h1,?_,fun k hk=>?_⟩,hltB⟩
  ·exact qfN (ownsRow_pop (by rw[q7e]) HO.out) fun k hb hk=>h2.block k hk (fun e=>by injection e with e;omega)
  ·injection hk with hk;dsimp only at hk;subst hk;exact HBg.out
 clear h hr ho ho' hcs hl' HO hB hcm hg hltB;obtain⟨⟨xa,xl,xc⟩,⟨ya,yl,yc⟩⟩:=x;unfold slV at *;dsimp only at *
 go_enter Tryz.func54,Tryz.ntmps54
 go_wp2
 go_region
 go_wp2
 go_region
 go_wp2;refine bodyPost_ret (v:=.agg #[.slice xa xl xc,.slice ya yl yc]) (by simp[results,Tryz.results54,go_sem]) rfl ⟨rfl,?_⟩
 have e1:w.grownBy (w.setCell ⟨b,0,none⟩ (.slice (some ⟨g,0,none⟩) st.length cap)) (some b):=⟨rfl,rfl,rfl,by simp,fun k hk hne=>Below.heap_setCell _ _ _ _ (fun e=>hne (congrArg some e))⟩
 have e2:=qd (qc (w.setCell ⟨b,0,none⟩ (.slice (some ⟨g,0,none⟩) st.length cap)) (.cells #[.slice xa xl xc,.slice ya yl yc] 71)) (qc _ (.cells #[.slice xa xl xc,.slice ya yl yc] 71));have e3:=e1.trans (c:=(((w.setCell ⟨b,0,none⟩ (.slice (some ⟨g,0,none⟩) st.length cap)).alloc (.cells #[.slice xa xl xc,.slice ya yl yc] 71)).alloc (.cells #[.slice xa xl xc,.slice ya yl yc] 71)).drew.drew) ⟨rfl,rfl,rfl,e2.size,fun k hk _=>e2.block k hk⟩
 refine⟨HFIN.out _ ?_ e3,e3⟩
 refine (e2.block b (by simp;exact hlt)).trans ?_
 rw[heap_setCell_same w b 0 _ _ _ HR.out];rfl
theorem qhF{n:Nat}{A:Nat->Prop}(i:Nat):unV n 9 A i↔i<n/\(A i\/unV n 9 A (i+1)):=by
 simp[unV]
 constructor
 ·rintro⟨j,h1,h2,h3⟩
  refine⟨by omega,?_⟩
  by_cases e:j=i
  ·subst e;exact Or.inl h3
  ·exact Or.inr ⟨j,by omega,h2,h3⟩
 ·rintro⟨h,h1|⟨j,h1,h2,h3⟩⟩
  ·exact⟨i,nlr,h,h1⟩
  ·exact⟨j,by omega,h2,h3⟩
theorem qhH{n:Nat}{A:Nat->Prop}{i:Nat}(hi:i<=n):unV n 10 A i↔i=n\/A i/\unV n 10 A (i+1):=by
 simp[unV]
 constructor
 ·intro h
  by_cases e:i=n
  ·exact Or.inl e
  ·exact Or.inr ⟨h i nlr (by omega),fun j h1 h2=>h j (by omega) h2⟩
 ·rintro (rfl|⟨h1,h2⟩) j j1 j2
  ·omega
  ·by_cases e:j=i
   ·subst e;exact h1
   ·exact h2 j (by omega) j2
theorem q96(n ga:Nat)(av:List Bool)(A:Nat->Prop)(w:World)(hA:ValAt w ga av)(hl:av.length=n+1)(hv:∀i,i<=n->(av.getD i false=true↔A i))(hn:n<=10000):
  Calls Tryz.prog 77 #[.int .u8 6,.slice (some ⟨ga,0,none⟩) (n+1) (n+1)] w (ValR n (unV n 6 A) w):=by
 have hmk:=qu (n+1) (by omega)
 have en:((n+1:Nat):Int)=(n:Int)+1:=by omega
 rw[en]at hmk;have HA:=hiq hA;have hga:=hA.lt;have HV:=hiq hv
 have HREC:Hid (∀i,i<=n->((unV n 6 A) i↔¬A i)):=fun i hi=>by
  simp[unV]
 clear hA hv;generalize (unV n 6 A)=V at *;have e1:(n:Int)+1-1=(n:Int):=by omega
 go_enter Tryz.func77,Tryz.ntmps77
 go_wp2;clear hmk
 go_loopw [7] (fun i wr=>∃k:Nat,k<=n+1/\i=.int .i64 ((k:Int)-1)/\(∃bs,Hid (ValAt wr w.heap.size bs)/\Hid (FillB n V k bs))/\Hid (Below w.heap.size w wr)) (fun i _=>(intOf i+1).toNat)
 case atStart=>exact⟨n+1,Nat.le_refl _,by rw[en,e1],⟨List.replicate (n+1) false,ValAt.made w _,by simp,fun i h1 h2=>absurd h1 (by omega)⟩,qc _ _⟩
 case round=>
  obtain⟨k1,hk1,rfl,⟨bs,HB,HF⟩,HW⟩:=hrel;by_cases hk0:k1=0
  ·subst hk0
   have hle:¬(0:Int)<=((0:Nat):Int)-1:=by omega
   go_wp2;go_ret
   unfold ValR;exact⟨_,bs,rfl,HB.out,HF.out.len,fun i hi=>HF.out.done i (Nat.zero_le _) hi,HW.out,nlr⟩
  ·obtain⟨k,rfl⟩:∃k,k1=k+1:=⟨k1-1,by omega⟩
   have hkn:k<=n:=by omega
   have em:(((k+1:Nat):Int)-1)=(k:Int):=by omega
   rw[em];have hle:(0:Int)<=(k:Int):=by omega
   have hAr:=HA.out.up HW.out;have hi1:=fun w'=>qj ga (n+1) k w' (by omega)
   have hi2:=fun w'=>qj w.heap.size (n+1) k w' (by omega)
   have hca:=hAr.cell (i:=k) (by omega)
   have hcb:=HB.out.cell (i:=k) (by rw[HF.out.len];omega)
   have hzb:=HB.out.fz k;have HST:Hid (∀b:Bool,ValAt (wr.setCell ⟨w.heap.size,k,none⟩ (.bool b)) w.heap.size (bs.set k b)/\Below w.heap.size w (wr.setCell ⟨w.heap.size,k,none⟩ (.bool b))):=fun b=>⟨HB.out.set k b,HW.out.setCell nlr _⟩
   have HRk:Hid _:=HREC.out k hkn;have HVk:Hid _:=HV.out k hkn;clear em hk0 e1 en;generalize av.getD k false=q at *
   cases q with
   |false=>
    have HNA:Hid (¬A k):=fun h=>(by have:=HVk.out.2 h;cases this)
    go_wp2
    go_roundw
    case rel=>
     refine⟨k,by omega,rfl,⟨_,(HST.out _).1,HF.out.next hkn ?_⟩,(HST.out _).2⟩
     rw[HRk.out];simpa using HNA.out
    case measure=>simp[intOf]<;>omega
   |true=>
    have HYA:Hid (A k):=HVk.out.1 rfl;go_wp2
    go_roundw
    case rel=>
     refine⟨k,by omega,rfl,⟨_,(HST.out _).1,HF.out.next hkn ?_⟩,(HST.out _).2⟩
     rw[HRk.out];simpa using HYA.out
    case measure=>simp[intOf]<;>omega
theorem q97(n ga:Nat)(av:List Bool)(A:Nat->Prop)(w:World)(hA:ValAt w ga av)(hl:av.length=n+1)(hv:∀i,i<=n->(av.getD i false=true↔A i))(hn:n<=10000):
  Calls Tryz.prog 77 #[.int .u8 7,.slice (some ⟨ga,0,none⟩) (n+1) (n+1)] w (ValR n (unV n 7 A) w):=by
 have hmk:=qu (n+1) (by omega)
 have en:((n+1:Nat):Int)=(n:Int)+1:=by omega
 rw[en]at hmk;have HA:=hiq hA;have hga:=hA.lt;have HV:=hiq hv
 have HREC:Hid (∀i,i<=n->((unV n 7 A) i↔i+1<n/\A (i+1))):=fun i hi=>by
  simp[unV]
 clear hA hv;generalize (unV n 7 A)=V at *;have e1:(n:Int)+1-1=(n:Int):=by omega
 go_enter Tryz.func77,Tryz.ntmps77
 go_wp2;clear hmk
 go_loopw [7] (fun i wr=>∃k:Nat,k<=n+1/\i=.int .i64 ((k:Int)-1)/\(∃bs,Hid (ValAt wr w.heap.size bs)/\Hid (FillB n V k bs))/\Hid (Below w.heap.size w wr)) (fun i _=>(intOf i+1).toNat)
 case atStart=>exact⟨n+1,Nat.le_refl _,by rw[en,e1],⟨List.replicate (n+1) false,ValAt.made w _,by simp,fun i h1 h2=>absurd h1 (by omega)⟩,qc _ _⟩
 case round=>
  obtain⟨k1,hk1,rfl,⟨bs,HB,HF⟩,HW⟩:=hrel;by_cases hk0:k1=0
  ·subst hk0
   have hle:¬(0:Int)<=((0:Nat):Int)-1:=by omega
   go_wp2;go_ret
   unfold ValR;exact⟨_,bs,rfl,HB.out,HF.out.len,fun i hi=>HF.out.done i (Nat.zero_le _) hi,HW.out,nlr⟩
  ·obtain⟨k,rfl⟩:∃k,k1=k+1:=⟨k1-1,by omega⟩
   have hkn:k<=n:=by omega
   have em:(((k+1:Nat):Int)-1)=(k:Int):=by omega
   rw[em];have hle:(0:Int)<=(k:Int):=by omega
   have hAr:=HA.out.up HW.out;have hi1:=fun w'=>qj ga (n+1) k w' (by omega)
   have hi2:=fun w'=>qj w.heap.size (n+1) k w' (by omega)
   have hca:=hAr.cell (i:=k) (by omega)
   have hcb:=HB.out.cell (i:=k) (by rw[HF.out.len];omega)
   have hzb:=HB.out.fz k;have HST:Hid (∀b:Bool,ValAt (wr.setCell ⟨w.heap.size,k,none⟩ (.bool b)) w.heap.size (bs.set k b)/\Below w.heap.size w (wr.setCell ⟨w.heap.size,k,none⟩ (.bool b))):=fun b=>⟨HB.out.set k b,HW.out.setCell nlr _⟩
   have HRk:Hid _:=HREC.out k hkn;have HVk:Hid _:=HV.out k hkn;clear em hk0 e1 en;by_cases hc:k+1<n
   ·have hci:(k:Int)+1<(n:Int):=by omega
    have hj1:=fun w'=>qj ga (n+1) (k+1) w' (by omega)
    rw[show ((k+1:Nat):Int)=(k:Int)+1 by omega]at hj1
    have hcj:=hAr.cell (i:=k+1) (by omega)
    have HVj:Hid _:=HV.out (k+1) (by omega)
    generalize av.getD (k+1) false=q at *
    cases q with
    |false=>
     go_wp2
     go_roundw
     case rel=>
      refine⟨k,by omega,rfl,⟨_,(HST.out _).1,HF.out.next hkn ?_⟩,(HST.out _).2⟩
      rw[HRk.out];simp[hc];intro h;have:=HVj.out.2 h;cases this
     case measure=>simp[intOf]<;>omega
    |true=>
     go_wp2
     go_roundw
     case rel=>
      refine⟨k,by omega,rfl,⟨_,(HST.out _).1,HF.out.next hkn ?_⟩,(HST.out _).2⟩
      rw[HRk.out];simp[hc,HVj.out.1 rfl]
     case measure=>simp[intOf]<;>omega
   ·have hci:¬(k:Int)+1<(n:Int):=by omega
    go_wp2
    go_roundw
    case rel=>
     refine⟨k,by omega,rfl,⟨_,(HST.out _).1,HF.out.next hkn ?_⟩,(HST.out _).2⟩
     rw[HRk.out];simp[hc]
    case measure=>simp[intOf]<;>omega
theorem q98(n ga:Nat)(av:List Bool)(A:Nat->Prop)(w:World)(hA:ValAt w ga av)(hl:av.length=n+1)(hv:∀i,i<=n->(av.getD i false=true↔A i))(hn:n<=10000):
  Calls Tryz.prog 77 #[.int .u8 8,.slice (some ⟨ga,0,none⟩) (n+1) (n+1)] w (ValR n (unV n 8 A) w):=by
 have hmk:=qu (n+1) (by omega)
 have en:((n+1:Nat):Int)=(n:Int)+1:=by omega
 rw[en]at hmk;have HA:=hiq hA;have hga:=hA.lt;have HV:=hiq hv
 have HREC:Hid (∀i,i<=n->((unV n 8 A) i↔n<=i+1\/A (i+1))):=fun i hi=>by
  simp only[unV,if_neg (show ¬(8=6) by decide),if_neg (show ¬(8=7) by decide),if_true];constructor
  ·intro h;by_cases hc:i+1<n
   ·exact Or.inr (h hc)
   ·exact Or.inl (by omega)
  ·rintro (h|h) hc
   ·omega
   ·exact h
 clear hA hv;generalize (unV n 8 A)=V at *;have e1:(n:Int)+1-1=(n:Int):=by omega
 go_enter Tryz.func77,Tryz.ntmps77
 go_wp2;clear hmk
 go_loopw [7] (fun i wr=>∃k:Nat,k<=n+1/\i=.int .i64 ((k:Int)-1)/\(∃bs,Hid (ValAt wr w.heap.size bs)/\Hid (FillB n V k bs))/\Hid (Below w.heap.size w wr)) (fun i _=>(intOf i+1).toNat)
 case atStart=>exact⟨n+1,Nat.le_refl _,by rw[en,e1],⟨List.replicate (n+1) false,ValAt.made w _,by simp,fun i h1 h2=>absurd h1 (by omega)⟩,qc _ _⟩
 case round=>
  obtain⟨k1,hk1,rfl,⟨bs,HB,HF⟩,HW⟩:=hrel;by_cases hk0:k1=0
  ·subst hk0
   have hle:¬(0:Int)<=((0:Nat):Int)-1:=by omega
   go_wp2;go_ret
   unfold ValR;exact⟨_,bs,rfl,HB.out,HF.out.len,fun i hi=>HF.out.done i (Nat.zero_le _) hi,HW.out,nlr⟩
  ·obtain⟨k,rfl⟩:∃k,k1=k+1:=⟨k1-1,by omega⟩
   have hkn:k<=n:=by omega
   have em:(((k+1:Nat):Int)-1)=(k:Int):=by omega
   rw[em];have hle:(0:Int)<=(k:Int):=by omega
   have hAr:=HA.out.up HW.out;have hi1:=fun w'=>qj ga (n+1) k w' (by omega)
   have hi2:=fun w'=>qj w.heap.size (n+1) k w' (by omega)
   have hca:=hAr.cell (i:=k) (by omega)
   have hcb:=HB.out.cell (i:=k) (by rw[HF.out.len];omega)
   have hzb:=HB.out.fz k;have HST:Hid (∀b:Bool,ValAt (wr.setCell ⟨w.heap.size,k,none⟩ (.bool b)) w.heap.size (bs.set k b)/\Below w.heap.size w (wr.setCell ⟨w.heap.size,k,none⟩ (.bool b))):=fun b=>⟨HB.out.set k b,HW.out.setCell nlr _⟩
   have HRk:Hid _:=HREC.out k hkn;have HVk:Hid _:=HV.out k hkn;clear em hk0 e1 en;by_cases hc:k+1<n
   ·have hci:¬(n:Int)<=(k:Int)+1:=by omega
    have hj1:=fun w'=>qj ga (n+1) (k+1) w' (by omega)
    rw[show ((k+1:Nat):Int)=(k:Int)+1 by omega]at hj1
    have hcj:=hAr.cell (i:=k+1) (by omega)
    have HVj:Hid _:=HV.out (k+1) (by omega)
    generalize av.getD (k+1) false=q at *
    cases q with
    |false=>
     go_wp2
     go_roundw
     case rel=>
      refine⟨k,by omega,rfl,⟨_,(HST.out _).1,HF.out.next hkn ?_⟩,(HST.out _).2⟩
      rw[HRk.out];simp;exact⟨by omega,fun h=>by have:=HVj.out.2 h;cases this⟩
     case measure=>simp[intOf]<;>omega
    |true=>
     go_wp2
     go_roundw
     case rel=>
      refine⟨k,by omega,rfl,⟨_,(HST.out _).1,HF.out.next hkn ?_⟩,(HST.out _).2⟩
      rw[HRk.out];simp[HVj.out.1 rfl]
     case measure=>simp[intOf]<;>omega
   ·have hci:(n:Int)<=(k:Int)+1:=by omega
    go_wp2
    go_roundw
    case rel=>
     refine⟨k,by omega,rfl,⟨_,(HST.out _).1,HF.out.next hkn ?_⟩,(HST.out _).2⟩
     rw[HRk.out];simp;exact Or.inl (by omega)
    case measure=>simp[intOf]<;>omega
theorem q99(n ga:Nat)(av:List Bool)(A:Nat->Prop)(w:World)(hA:ValAt w ga av)(hl:av.length=n+1)(hv:∀i,i<=n->(av.getD i false=true↔A i))(hn:n<=10000):
  Calls Tryz.prog 77 #[.int .u8 9,.slice (some ⟨ga,0,none⟩) (n+1) (n+1)] w (ValR n (unV n 9 A) w):=by
 have hmk:=qu (n+1) (by omega)
 have en:((n+1:Nat):Int)=(n:Int)+1:=by omega
 rw[en]at hmk;have HA:=hiq hA;have hga:=hA.lt;have HV:=hiq hv
 have HREC:Hid (∀i,i<=n->((unV n 9 A) i↔i<n/\(A i\/unV n 9 A (i+1)))):=fun i hi=>by
  exact qhF i
 clear hA hv;generalize (unV n 9 A)=V at *;have e1:(n:Int)+1-1=(n:Int):=by omega
 go_enter Tryz.func77,Tryz.ntmps77
 go_wp2;clear hmk
 go_loopw [7] (fun i wr=>∃k:Nat,k<=n+1/\i=.int .i64 ((k:Int)-1)/\(∃bs,Hid (ValAt wr w.heap.size bs)/\Hid (FillB n V k bs))/\Hid (Below w.heap.size w wr)) (fun i _=>(intOf i+1).toNat)
 case atStart=>exact⟨n+1,Nat.le_refl _,by rw[en,e1],⟨List.replicate (n+1) false,ValAt.made w _,by simp,fun i h1 h2=>absurd h1 (by omega)⟩,qc _ _⟩
 case round=>
  obtain⟨k1,hk1,rfl,⟨bs,HB,HF⟩,HW⟩:=hrel;by_cases hk0:k1=0
  ·subst hk0
   have hle:¬(0:Int)<=((0:Nat):Int)-1:=by omega
   go_wp2;go_ret
   unfold ValR;exact⟨_,bs,rfl,HB.out,HF.out.len,fun i hi=>HF.out.done i (Nat.zero_le _) hi,HW.out,nlr⟩
  ·obtain⟨k,rfl⟩:∃k,k1=k+1:=⟨k1-1,by omega⟩
   have hkn:k<=n:=by omega
   have em:(((k+1:Nat):Int)-1)=(k:Int):=by omega
   rw[em];have hle:(0:Int)<=(k:Int):=by omega
   have hAr:=HA.out.up HW.out;have hi1:=fun w'=>qj ga (n+1) k w' (by omega)
   have hi2:=fun w'=>qj w.heap.size (n+1) k w' (by omega)
   have hca:=hAr.cell (i:=k) (by omega)
   have hcb:=HB.out.cell (i:=k) (by rw[HF.out.len];omega)
   have hzb:=HB.out.fz k;have HST:Hid (∀b:Bool,ValAt (wr.setCell ⟨w.heap.size,k,none⟩ (.bool b)) w.heap.size (bs.set k b)/\Below w.heap.size w (wr.setCell ⟨w.heap.size,k,none⟩ (.bool b))):=fun b=>⟨HB.out.set k b,HW.out.setCell nlr _⟩
   have HRk:Hid _:=HREC.out k hkn;have HVk:Hid _:=HV.out k hkn;clear em hk0 e1 en;by_cases hc:k<n
   ·have hci:(k:Int)<(n:Int):=by omega
    have hj1:=fun w'=>qj w.heap.size (n+1) (k+1) w' (by omega)
    rw[show ((k+1:Nat):Int)=(k:Int)+1 by omega]at hj1
    have hcj:=HB.out.cell (i:=k+1) (by rw[HF.out.len];omega)
    have HVj:Hid _:=HF.out.done (k+1) nlr (by omega)
    generalize av.getD k false=q at *;generalize bs.getD (k+1) false=r at *
    cases q with
    |false=>
     cases r with
     |false=>
      go_wp2
      go_roundw
      case rel=>
       refine⟨k,by omega,rfl,⟨_,(HST.out _).1,HF.out.next hkn ?_⟩,(HST.out _).2⟩
       rw[HRk.out];simp;intro _;exact⟨fun h=>(by have:=HVk.out.2 h;cases this),fun h=>(by have:=HVj.out.2 h;cases this)⟩
      case measure=>simp[intOf]<;>omega
     |true=>
      go_wp2
      go_roundw
      case rel=>
       refine⟨k,by omega,rfl,⟨_,(HST.out _).1,HF.out.next hkn ?_⟩,(HST.out _).2⟩
       rw[HRk.out];simp[hc];exact Or.inr (HVj.out.1 rfl)
      case measure=>simp[intOf]<;>omega
    |true=>
     go_wp2
     go_roundw
     case rel=>
      refine⟨k,by omega,rfl,⟨_,(HST.out _).1,HF.out.next hkn ?_⟩,(HST.out _).2⟩
      rw[HRk.out];simp[hc];exact Or.inl (HVk.out.1 rfl)
     case measure=>simp[intOf]<;>omega
   ·have hci:¬(k:Int)<(n:Int):=by omega
    go_wp2
    go_roundw
    case rel=>
     refine⟨k,by omega,rfl,⟨_,(HST.out _).1,HF.out.next hkn ?_⟩,(HST.out _).2⟩
     rw[HRk.out];simp[hc]
    case measure=>simp[intOf]<;>omega
theorem q7R(n ga:Nat)(av:List Bool)(A:Nat->Prop)(w:World)(hA:ValAt w ga av)(hl:av.length=n+1)(hv:∀i,i<=n->(av.getD i false=true↔A i))(hn:n<=10000):
  Calls Tryz.prog 77 #[.int .u8 10,.slice (some ⟨ga,0,none⟩) (n+1) (n+1)] w (ValR n (unV n 10 A) w):=by
 have hmk:=qu (n+1) (by omega)
 have en:((n+1:Nat):Int)=(n:Int)+1:=by omega
 rw[en]at hmk;have HA:=hiq hA;have hga:=hA.lt;have HV:=hiq hv
 have HREC:Hid (∀i,i<=n->((unV n 10 A) i↔i=n\/A i/\unV n 10 A (i+1))):=fun i hi=>by
  exact qhH hi
 clear hA hv;generalize (unV n 10 A)=V at *;have e1:(n:Int)+1-1=(n:Int):=by omega
 go_enter Tryz.func77,Tryz.ntmps77
 go_wp2;clear hmk
 go_loopw [7] (fun i wr=>∃k:Nat,k<=n+1/\i=.int .i64 ((k:Int)-1)/\(∃bs,Hid (ValAt wr w.heap.size bs)/\Hid (FillB n V k bs))/\Hid (Below w.heap.size w wr)) (fun i _=>(intOf i+1).toNat)
 case atStart=>exact⟨n+1,Nat.le_refl _,by rw[en,e1],⟨List.replicate (n+1) false,ValAt.made w _,by simp,fun i h1 h2=>absurd h1 (by omega)⟩,qc _ _⟩
 case round=>
  obtain⟨k1,hk1,rfl,⟨bs,HB,HF⟩,HW⟩:=hrel;by_cases hk0:k1=0
  ·subst hk0
   have hle:¬(0:Int)<=((0:Nat):Int)-1:=by omega
   go_wp2;go_ret
   unfold ValR;exact⟨_,bs,rfl,HB.out,HF.out.len,fun i hi=>HF.out.done i (Nat.zero_le _) hi,HW.out,nlr⟩
  ·obtain⟨k,rfl⟩:∃k,k1=k+1:=⟨k1-1,by omega⟩
   have hkn:k<=n:=by omega
   have em:(((k+1:Nat):Int)-1)=(k:Int):=by omega
   rw[em];have hle:(0:Int)<=(k:Int):=by omega
   have hAr:=HA.out.up HW.out;have hi1:=fun w'=>qj ga (n+1) k w' (by omega)
   have hi2:=fun w'=>qj w.heap.size (n+1) k w' (by omega)
   have hca:=hAr.cell (i:=k) (by omega)
   have hcb:=HB.out.cell (i:=k) (by rw[HF.out.len];omega)
   have hzb:=HB.out.fz k;have HST:Hid (∀b:Bool,ValAt (wr.setCell ⟨w.heap.size,k,none⟩ (.bool b)) w.heap.size (bs.set k b)/\Below w.heap.size w (wr.setCell ⟨w.heap.size,k,none⟩ (.bool b))):=fun b=>⟨HB.out.set k b,HW.out.setCell nlr _⟩
   have HRk:Hid _:=HREC.out k hkn;have HVk:Hid _:=HV.out k hkn;clear em hk0 e1 en;by_cases hc:k=n
   ·subst hc
    go_wp2
    go_roundw
    case rel=>
     refine⟨k,by omega,rfl,⟨_,(HST.out _).1,HF.out.next hkn ?_⟩,(HST.out _).2⟩
     rw[HRk.out];simp
    case measure=>simp[intOf]<;>omega
   ·have hci:¬(k:Int)=(n:Int):=by omega
    have hj1:=fun w'=>qj w.heap.size (n+1) (k+1) w' (by omega)
    rw[show ((k+1:Nat):Int)=(k:Int)+1 by omega]at hj1
    have hcj:=HB.out.cell (i:=k+1) (by rw[HF.out.len];omega)
    have HVj:Hid _:=HF.out.done (k+1) nlr (by omega)
    generalize av.getD k false=q at *;generalize bs.getD (k+1) false=r at *
    cases q with
    |false=>
     go_wp2
     go_roundw
     case rel=>
      refine⟨k,by omega,rfl,⟨_,(HST.out _).1,HF.out.next hkn ?_⟩,(HST.out _).2⟩
      rw[HRk.out];simp[hc,hci];intro h;have:=HVk.out.2 h;cases this
     case measure=>simp[intOf]<;>omega
    |true=>
     cases r with
     |false=>
      go_wp2
      go_roundw
      case rel=>
       refine⟨k,by omega,rfl,⟨_,(HST.out _).1,HF.out.next hkn ?_⟩,(HST.out _).2⟩
       rw[HRk.out];simp[hc,hci];intro _ h;have:=HVj.out.2 h;cases this
      case measure=>simp[intOf]<;>omega
     |true=>
      go_wp2
      go_roundw
      case rel=>
       refine⟨k,by omega,rfl,⟨_,(HST.out _).1,HF.out.next hkn ?_⟩,(HST.out _).2⟩
       rw[HRk.out];simp[hc];exact⟨HVk.out.1 rfl,HVj.out.1 rfl⟩
      case measure=>simp[intOf]<;>omega
def KeepT (G:Nat) (w w':World):Prop:=∀k c t z,w.heap[k]? =some (.cells c t z)->(t=4\/((t=46\/t=55)/\k<G))->w'.heap[k]? =w.heap[k]?
theorem KeepT.trans{G:Nat}{a b c:World}(h:KeepT G a b)(k:KeepT G b c):KeepT G a c:=fun i x t z hc ht=>by
 have e:=h i x t z hc ht;exact(k i x t z (e.trans hc) ht).trans e
theorem KeepT.of_below{G:Nat}{w w':World}(h:Below w.heap.size w w'):KeepT G w w':=fun k _ _ _ hc _=>h.block k (aes hc).1
theorem KeepT.of_grown{G j:Nat}{w w':World}(h:w.grownBy w' (some j)){c0:Array Value}{t0:TypeId}{z0:Nat×Nat}(hj:w.heap[j]? =some (.cells c0 t0 z0))(h1:t0≠4)(h2:t0≠46)(h3:t0≠55):KeepT G w w':=fun k c t z hc ht=>
 h.block k (aes hc).1 fun e=>by
  injection e with e;subst e;rw[hj]at hc;injection hc with hc;injection hc with _ hc _;subst hc;rcases ht with ht|⟨ht|ht,_⟩
  ·exact h1 ht
  ·exact h2 ht
  ·exact h3 ht
theorem KeepT.of_only{G:Nat}{w w':World}(h:Only G w w'):KeepT G w w':=fun k c t z hc ht=>by
 refine h.block k (aes hc).1 ?_
 rcases ht with ht|⟨_,ht⟩
 ·refine Or.inr fun c' z' e=>?_
  rw[hc]at e;injection e with e;injection e with _ e _;subst ht;exact absurd e (by decide)
 ·exact Or.inl ht
theorem KeepT.mono{G G':Nat}{w w':World}(h:KeepT G w w')(hg:G'<=G):KeepT G' w w':=fun k c t z hc ht=>h k c t z hc (ht.imp id fun⟨a,b⟩=>⟨a,by omega⟩)
def PartOk (w:World) (n b:Nat) (x:Sk) (p:Mp) (lo hi:Nat):Prop :=
 (x.1=true->∃g rs,p.2=(some ⟨g,0,none⟩,n+1,n+1)/\EndAt w g (n+1) rs/\(∀i,i<=n->∀k,hasW (rs i) k=true↔x.2.2 i k)/\lo<=g/\g+n+1<hi) /\
 (x.1=false->∃g bs,p.1=(some ⟨g,0,none⟩,n+1,n+1)/\ValAt w g bs/\bs.length=n+1/\(∀i,i<=n->(bs.getD i false=true↔x.2.1 i))/\b<=g)
def Parts (w:World) (n b:Nat):Nat->List (Sk×Mp)->Prop
 |hi,[]=>b<hi
 |hi,(x,p)::r=>∃lo,PartOk w n b x p lo hi/\lo<=hi/\Parts w n b lo r
theorem Parts.low{w:World}{n b:Nat}:∀{l:List (Sk×Mp)} {hi:Nat},Parts w n b hi l->b<hi
 | [],_,h=>h
 | (_,_)::_,_,⟨_,_,h1,h2⟩=>Nat.lt_of_lt_of_le (Parts.low h2) h1
theorem Parts.mono{w:World}{n b hi hi':Nat}:∀{l:List (Sk×Mp)},Parts w n b hi l->hi<=hi'->Parts w n b hi' l
 | [],h,hh=>Nat.lt_of_lt_of_le h hh
 | (_,_)::_,⟨lo,h0,h1,h2⟩,hh=>⟨lo,⟨fun hx=>by
   obtain⟨g,rs,a,b,c,d,e⟩:=h0.1 hx;exact⟨g,rs,a,b,c,d,by omega⟩,h0.2⟩,by omega,h2⟩
theorem PartOk.keep{w w':World}{n b lo hi:Nat}{x:Sk}{p:Mp}(h:PartOk w n b x p lo hi)(hk:KeepT hi w w'):PartOk w' n b x p lo hi:=by
 refine⟨fun hx=>?_,fun hx=>?_⟩
 ·obtain⟨g,rs,a,b,c,d,e⟩:=h.1 hx
  exact⟨g,rs,a,b.keep fun k c t z hc ht h1 h2=>hk k c t z hc (Or.inr ⟨ht,by omega⟩),c,d,e⟩
 ·obtain⟨g,bs,a,b,c⟩:=h.2 hx
  exact⟨g,bs,a,(hk g _ _ _ b (Or.inl rfl)).trans b,c⟩
theorem Parts.keep{w w':World}{n b:Nat}:∀{l:List (Sk×Mp)} {hi:Nat},Parts w n b hi l->KeepT hi w w'->Parts w' n b hi l
 | [],_,h,_=>h
 | (_,_)::_,_,⟨lo,h0,h1,h2⟩,hk=>⟨lo,h0.keep hk,h1,Parts.keep h2 (hk.mono h1)⟩
def WorkR (n b:Nat) (w:World) (x:Sk) (rest:List (Sk×Mp)) (e:Ending) (w':World):Prop :=
 ∃p:Mp,e=.returned (.agg #[slV p.1,slV p.2])/\StkAt w' b w.heap.size ((rest.map (·.2)).reverse)/\Parts w' n b w'.heap.size ((x,p)::rest)/\Below b w w'
theorem StkAt.fin{w1 w2 wf:World}{b B r:Nat}{st:List Mp}(h:StkAt w1 b B st)(hb:Below w1.heap.size w1 w2)(hg:w2.grownBy wf (some r))(hr:B<=r):StkAt wf b B st :=
 (h.up hb).keep fun k _ _ _ hc _ _ hk=>hg.block k (aes hc).1 (fun e=>by injection e with e;omega)
theorem q57{G:Nat}{w1 w2 wf:World}{r:Nat}(hb:Below w1.heap.size w1 w2)(hg:w2.grownBy wf (some r)){c:Array Value}{z:Nat×Nat}(hr:w1.heap[r]? =some (.cells c 71 z)):KeepT G w1 wf :=
 (KeepT.of_below hb).trans (KeepT.of_grown hg ((hb.block r (aes hr).1).trans hr) (by decide) (by decide) (by decide))
theorem q7t{w1 w2 wf:World}{n b g lo hi r:Nat}{bs:List Bool}{x:Sk}{q:Sl}(hx:x.1=false)(hV:ValAt w2 g bs)(hl:bs.length=n+1)(hv:∀i,i<=n->(bs.getD i false=true↔x.2.1 i))(hb:Below w1.heap.size w1 w2)(hg:w2.grownBy wf (some r)){c:Array Value}{z:Nat×Nat}(hr:w1.heap[r]? =some (.cells c 71 z))(hgb:b<=g):PartOk wf n b x ((some ⟨g,0,none⟩,n+1,n+1),q) lo hi:=by
 refine⟨fun h=>(by rw[hx]at h;cases h),fun _=>⟨g,bs,rfl,?_,hl,hv,hgb⟩⟩
 exact(KeepT.of_grown (G:=0) hg ((hb.block r (aes hr).1).trans hr) (by decide) (by decide) (by decide) g _ _ _ hV (Or.inl rfl)).trans hV
theorem qgU{w1 w2 wf:World}{n b g lo r:Nat}{rs:Nat->List Nat}{x:Sk}{q:Sl}(hx:x.1=true)(hE:EndAt w2 g (n+1) rs)(hv:∀i,i<=n->∀k,hasW (rs i) k=true↔x.2.2 i k)(hlo:lo<=g)(hb:Below w1.heap.size w1 w2)(hg:w2.grownBy wf (some r)){c:Array Value}{z:Nat×Nat}(hr:w1.heap[r]? =some (.cells c 71 z)):PartOk wf n b x (q,(some ⟨g,0,none⟩,n+1,n+1)) lo wf.heap.size:=by
 refine⟨fun _=>⟨g,rs,rfl,?_,hv,hlo,?_⟩,fun h=>(by rw[hx]at h;cases h)⟩
 ·have hK:=KeepT.of_grown (G:=wf.heap.size) hg ((hb.block r (aes hr).1).trans hr) (by decide) (by decide) (by decide)
  exact hE.keep fun k c t z hc ht _ _=>hK k c t z hc (Or.inr ⟨ht,Nat.lt_of_lt_of_le (aes hc).1 hg.size⟩)
 ·have:=hE.lt
  have:=hg.size
  omega
theorem qB(w:World)(r:Nat)(u v:Value):w.grownBy ((w.setCell ⟨r,0,none⟩ u).setCell ⟨r,1,none⟩ v) (some r) :=
 ⟨rfl,rfl,rfl,by simp[World.setCell],fun k hk hne=>(Below.heap_setCell _ _ _ _ (fun e=>hne (congrArg some e))).trans (Below.heap_setCell _ _ _ _ (fun e=>hne (congrArg some e)))⟩
theorem q1D{w:World}{r:Nat}{a0 a1:Value}{T:TypeId}(hr:w.heap[r]? =some (.cells #[a0,a1] T (0,0)))(u v:Value):(w.setCell ⟨r,0,none⟩ u).cell? ⟨r,0,none⟩=some u/\((w.setCell ⟨r,0,none⟩ u).setCell ⟨r,1,none⟩ v).cell? ⟨r,1,none⟩=some v/\((w.setCell ⟨r,0,none⟩ u).setCell ⟨r,1,none⟩ v).cell? ⟨r,0,none⟩=some u:=by
 have h1:=heap_setCell_same w r 0 _ T u hr;have h2:=heap_setCell_same _ r 1 _ T v h1;simp[World.cell?,h1,h2]
theorem q5L(u v:Value)(w:World):(Instr.field 71 (.agg #[u,v]) 0).run Tryz.prog w=.ok u w:=by
 simp[Instr.field,asAgg,run_underlying Tryz.underlying71,go_sem,Result.andThen]
theorem qf3(u v:Value)(w:World):(Instr.field 71 (.agg #[u,v]) 1).run Tryz.prog w=.ok v w:=by
 simp[Instr.field,asAgg,run_underlying Tryz.underlying71,go_sem,Result.andThen]
theorem q3B{w w3:World}{b r:Nat}(h:Below b w w3)(hr:b<=r)(u v:Value):Below b w ((w3.setCell ⟨r,0,none⟩ u).setCell ⟨r,1,none⟩ v):=(h.setCell hr _).setCell hr _
theorem q1r(op:Nat)(oi:Int)(ho:oi=(op:Int))(h5:op<=5)(pi:Int)(b n c hi p:Nat)(d:Option Addr)(zs:List Int)(HC:∀w,LtSl w d n c zs->Calls Tryz.prog 76 #[.agg #[.int .u8 oi,.int .u8 pi],.slice d n c] w (ValR n (leafV (zN zs) op p) w))(rest:List (Sk×Mp))(w:World)(hL:LtSl w d n c zs)(hS:StkAt w b w.heap.size ((rest.map (·.2)).reverse))(hP:Parts w n b hi rest)(hh:hi<=w.heap.size):
  Calls Tryz.prog 53 #[.pointer (some ⟨b,0,none⟩),.agg #[.int .u8 oi,.int .u8 pi],.slice d n c] w (WorkR n b w (skT (zN zs) (op,p) []) rest):=by
 have hlen:(zN zs).length=n:=by rw[q1f];exact hL.sl.hlen
 have hw1:=qc w (.cells #[.int .u8 oi,.int .u8 pi] 90);have hw2:=qd hw1 (qc (w.alloc (.cells #[.int .u8 oi,.int .u8 pi] 90)) (.cells #[.slice none 0 0,.slice none 0 0] 71));have hbox:=(Below.heap_alloc (w.alloc (.cells #[.int .u8 oi,.int .u8 pi] 90)) (.cells #[.slice none 0 0,.slice none 0 0] 71) w.heap.size (by simp)).trans (MapKept.heap_alloc w _).1
 have hres:=(MapKept.heap_alloc (w.alloc (.cells #[.int .u8 oi,.int .u8 pi] 90)) (.cells #[.slice none 0 0,.slice none 0 0] 71)).1;have hsz:((w.alloc (.cells #[.int .u8 oi,.int .u8 pi] 90)).alloc (.cells #[.slice none 0 0,.slice none 0 0] 71)).heap.size=w.heap.size+2:=by simp
 rw[show (w.alloc (.cells #[.int .u8 oi,.int .u8 pi] 90)).heap.size=w.heap.size+1 by simp]at hres
 clear hw1;have hcall:=fun W (h:Below w.heap.size w W)=>HC W (hL.up h)
 have HX:Hid ((skT (zN zs) (op,p) []).1=false/\∀i,leafV (zN zs) op p i↔(skT (zN zs) (op,p) []).2.1 i):=by
  obtain rfl|rfl|rfl|rfl|rfl|rfl:op=0\/op=1\/op=2\/op=3\/op=4\/op=5:=by omega
  all_goals exact⟨rfl,fun _=>Iff.rfl⟩
 generalize skT (zN zs) (op,p) []=X at *;have HS:Hid _:=hS;have HP:Hid _:=hP;have hbB:=hS.lt;clear hS hP hL;have hs:((oi==0)=true)\/((oi==0)=false/\(oi==1)=true)\/((oi==0)=false/\(oi==1)=false/\(oi==2)=true)\/((oi==0)=false/\(oi==1)=false/\(oi==2)=false/\(oi==3)=true)\/((oi==0)=false/\(oi==1)=false/\(oi==2)=false/\(oi==3)=false/\(oi==4)=true)\/((oi==0)=false/\(oi==1)=false/\(oi==2)=false/\(oi==3)=false/\(oi==4)=false/\(oi==5)=true):=by simp only[beq_iff_eq,beq_eq_false_iff_ne];omega
 clear ho h5 HC;rcases hs with g0|⟨g0,g1⟩|⟨g0,g1,g2⟩|⟨g0,g1,g2,g3⟩|⟨g0,g1,g2,g3,g4⟩|⟨g0,g1,g2,g3,g4,g5⟩
 all_goals
  go_enter Tryz.func53,Tryz.ntmps53
  go_wp2_with fail
  generalize (w.alloc (.cells #[.int .u8 oi,.int .u8 pi] 90)).alloc (.cells #[.slice none 0 0,.slice none 0 0] 71)=w2 at *;refine (hcall w2 hw2).mono ?_
  rintro e w3 ⟨g,bs,rfl,hV,hl,hv,hb3,hge⟩
  have Hge:Hid (b<=g):=by show _<=_;omega
  clear hge;have hr3:=(hb3.block (w.heap.size+1) (by omega)).trans hres
  have c0:=qb hr3 0;have c1:=qb hr3 1;have z0:=frozen_of_row _ _ 0 _ _ hr3;have z1:=frozen_of_row _ _ 1 _ _ hr3;simp at c0 c1
  have HV:=hiq hV;have Hl:=hiq hl;have Hv:Hid _:=hv;have HB2:Hid _:=hw2;have HB3:Hid _:=hb3;have HR:Hid _:=hres;have HRR:Hid _:=hr3;have Hsz:Hid _:=hsz;clear hcall hbox hV hl hv hw2 hb3 hres hr3 hsz;go_wp2;have f:=q1D HRR.out (.slice (some ⟨g,0,none⟩) (n+1) (n+1)) (.slice none 0 0);refine bodyPost_ret (v:=.agg #[.slice (some ⟨g,0,none⟩) (n+1) (n+1),.slice none 0 0]) (by simp[results,Tryz.results53,go_sem,f.1,f.2.1]) rfl ?_
  unfold WorkR;have q1:=HB2.out.size;have q2:=HB3.out.size;have q3:=(qB w3 (w.heap.size+1) (.slice (some ⟨g,0,none⟩) (n+1) (n+1)) (.slice none 0 0)).size;exact⟨((some ⟨g,0,none⟩,n+1,n+1),(none,0,0)),rfl,(HS.out.up HB2.out).fin HB3.out (qB ..) (by omega),⟨hi,q7t HX.out.1 HV.out Hl.out (fun i hi=>(Hv.out i hi).trans (HX.out.2 i)) HB3.out (qB ..) HR.out Hge.out,by omega,(HP.out.keep (KeepT.of_below HB2.out)).keep (q57 HB3.out (qB ..) HR.out)⟩,q3B ((qd HB2.out HB3.out).mono (by omega)) (by omega) _ _⟩
theorem q1P(op:Nat)(oi:Int)(ho:oi=(op:Int))(h1:6<=op)(h2:op<=10)(b n c hi:Nat)(HC:∀(ga:Nat) (av:List Bool) (A:Nat->Prop) (w:World),ValAt w ga av->av.length=n+1->(∀i,i<=n->(av.getD i false=true↔A i))->n<=10000->Calls Tryz.prog 77 #[.int .u8 oi,.slice (some ⟨ga,0,none⟩) (n+1) (n+1)] w (ValR n (unV n op A) w))(d:Option Addr)(zs:List Int)(x:Sk)(px:Mp)(rest:List (Sk×Mp))(w:World)(hL:LtSl w d n c zs)(hn:n<=10000)(hS:StkAt w b w.heap.size ((((x,px)::rest).map (·.2)).reverse))(hP:Parts w n b hi ((x,px)::rest))(hh:hi<=w.heap.size)(hx:x.1=false)(hr:rest.length<=1000000):
  Calls Tryz.prog 53 #[.pointer (some ⟨b,0,none⟩),.agg #[.int .u8 oi,.int .u8 0],.slice d n c] w (WorkR n b w (skT (zN zs) (op,0) [x]) rest):=by
 have hlen:(zN zs).length=n:=by rw[q1f];exact hL.sl.hlen
 obtain⟨lo,hpx,hlo,hPr⟩:=hP;obtain⟨p1,p2⟩:=px;rw[List.map_cons,List.reverse_cons]at hS;dsimp only at hS
 obtain⟨ga,av,hp1,hVa,hla,hva,_⟩:=hpx.2 hx;dsimp only at hp1
 subst hp1;have hw1:=qc w (.cells #[.int .u8 oi,.int .u8 0] 90);have hw2:=qd hw1 (qc (w.alloc (.cells #[.int .u8 oi,.int .u8 0] 90)) (.cells #[.slice none 0 0,.slice none 0 0] 71));have hbox:=(Below.heap_alloc (w.alloc (.cells #[.int .u8 oi,.int .u8 0] 90)) (.cells #[.slice none 0 0,.slice none 0 0] 71) w.heap.size (by simp)).trans (MapKept.heap_alloc w _).1
 have hres:=(MapKept.heap_alloc (w.alloc (.cells #[.int .u8 oi,.int .u8 0] 90)) (.cells #[.slice none 0 0,.slice none 0 0] 71)).1;have hsz:((w.alloc (.cells #[.int .u8 oi,.int .u8 0] 90)).alloc (.cells #[.slice none 0 0,.slice none 0 0] 71)).heap.size=w.heap.size+2:=by simp
 rw[show (w.alloc (.cells #[.int .u8 oi,.int .u8 0] 90)).heap.size=w.heap.size+1 by simp]at hres
 clear hw1
 have HSEM:Hid (∀i,unV n op x.2.1 i↔(skT (zN zs) (op,0) [x]).2.1 i):=fun i=>by
  have e:(skT (zN zs) (op,0) [x]).2.1 i↔unV (zN zs).length op x.2.1 i:=by
   obtain rfl|rfl|rfl|rfl|rfl:op=6\/op=7\/op=8\/op=9\/op=10:=by omega
   all_goals exact Iff.rfl
  rw[e,hlen]
 have HTY:Hid ((skT (zN zs) (op,0) [x]).1=false):=by
  obtain rfl|rfl|rfl|rfl|rfl:op=6\/op=7\/op=8\/op=9\/op=10:=by omega
  all_goals rfl
 generalize skT (zN zs) (op,0) [x]=X at *;have hone:=fun W (h:ValAt W ga av)=>HC ga av x.2.1 W h hla hva hn
 generalize unV n op x.2.1=VV at *;have hbB:=hS.lt;have HPR:=hiq hPr;have HVA:=hiq hVa;have HS:Hid _:=hS;clear hS hPr hVa hva hla hL hpx hlen;have F:∀k:Int,(k<6\/10<k)->(oi==k)=false:=fun k h=>by rw[bqn];omega
 have f0:=F 0 (by decide)
 have f1:=F 1 (by decide)
 have f2:=F 2 (by decide)
 have f3:=F 3 (by decide)
 have f4:=F 4 (by decide)
 have f5:=F 5 (by decide)
 have hs:(oi==6)=true\/((oi==6)=false/\(oi==7)=true)\/((oi==6)=false/\(oi==7)=false/\(oi==8)=true)\/((oi==6)=false/\(oi==7)=false/\(oi==8)=false/\(oi==9)=true)\/((oi==6)=false/\(oi==7)=false/\(oi==8)=false/\(oi==9)=false/\(oi==10)=true):=by simp only[beq_iff_eq,beq_eq_false_iff_ne];omega
 clear F ho h1 h2 HC;rcases hs with g6|⟨g6,g7⟩|⟨g6,g7,g8⟩|⟨g6,g7,g8,g9⟩|⟨g6,g7,g8,g9,g10⟩
 all_goals
  go_enter Tryz.func53,Tryz.ntmps53
  go_wp2;generalize (w.alloc (.cells #[.int .u8 oi,.int .u8 0] 90)).alloc (.cells #[.slice none 0 0,.slice none 0 0] 71)=w2 at *;have hS2:=HS.out.up hw2;have htk:=qy b w.heap.size _ _ w2.drew (hS2.up (Below.refl _ _).drew) (by simpa using hr)
  unfold slV at htk;dsimp only at htk
  have hk0:=qb hbox 0;simp at hk0
  have hfd:=q5L (.slice (some ⟨ga,0,none⟩) (n+1) (n+1)) (.slice p2.1 p2.2.1 p2.2.2)
  have hkS:∀W:World,W.cell? ⟨w.heap.size,0,none⟩=some (.int .u8 oi)->∀u v,((W.setCell ⟨w.heap.size+1,0,none⟩ u).setCell ⟨w.heap.size+1,1,none⟩ v).cell? ⟨w.heap.size,0,none⟩=some (.int .u8 oi):=fun W h u v=>by
   rw[World.cell?_setCell_other _ _ _ _ (by intro e;injection e;omega),World.cell?_setCell_other _ _ _ _ (by intro e;injection e;omega)];exact h
  have HTK:Hid (∀w3,StkAt w3 b w.heap.size ((rest.map (·.2)).reverse)->w2.drew.grownBy w3 (some b)->w3.cell? ⟨w.heap.size,0,none⟩=some (.int .u8 oi)/\ValAt w3 ga av/\Parts w3 n b lo rest/\w3.heap[w.heap.size+1]? =some (.cells #[.slice none 0 0,.slice none 0 0] 71 (0,0))/\Below b w w3):=fun w3 h1 h2=>by
   obtain⟨v0,hv0,_⟩:=hS2.c;have hK:KeepT w.heap.size w w3:=(KeepT.of_below hw2).trans (KeepT.of_grown (w:=w2) ⟨h2.os,h2.tape,h2.output,h2.size,h2.block⟩ hv0 (by decide) (by decide) (by decide))
   refine⟨(qb ((h2.block w.heap.size (by show _<w2.heap.size;omega) (fun e=>by injection e with e;omega)).trans hbox) 0).trans (by simp),(hK _ _ _ _ HVA.out (Or.inl rfl)).trans HVA.out,HPR.out.keep (hK.mono (by omega)),(h2.block _ (by show _<w2.heap.size;omega) (fun e=>by injection e with e;omega)).trans hres,?_⟩
   exact((hw2.mono (by omega)).trans ⟨h2.os,h2.tape,h2.output,h2.size,fun k hk=>h2.block k (by show _<w2.heap.size;omega) (fun e=>by injection e with e;omega)⟩)
  have Hsz:Hid _:=hsz;have HB2:Hid _:=hw2;clear hbox hS2 hsz hw2 hres
  go_region_held3 (fun w'=>w'.cell? ⟨w.heap.size,0,none⟩=some (.int .u8 oi)) (first|exact hk0|assumption|exact hkS _ ‹_› _ _) (first|(go_at_call 54;refine htk.mono ?_;rintro e w3 ⟨rfl,hs3,hg3⟩;obtain⟨k3,kv3,kp3,kr3,kb3⟩:=HTK.out _ hs3 hg3;clear hg3)|(go_at_call 77;refine (hone w3 kv3).mono ?_;rintro e w4 ⟨g,bs,rfl,hV,hl,hv,hb4,hge⟩;have k4:=qn k3 hb4;have hr4:=(hb4.block _ (Array.getElem?_eq_some_iff.1 kr3).1).trans kr3;have c0:=qb hr4 0;have c1:=qb hr4 1;have z0:=frozen_of_row _ _ 0 _ _ hr4;have z1:=frozen_of_row _ _ 1 _ _ hr4;simp at c0 c1))
  go_wp2;have f:=q1D hr4 (.slice (some ⟨g,0,none⟩) (n+1) (n+1)) (.slice none 0 0);refine bodyPost_ret (v:=.agg #[.slice (some ⟨g,0,none⟩) (n+1) (n+1),.slice none 0 0]) (by simp[results,Tryz.results53,go_sem,f.1,f.2.1]) rfl ?_
  unfold WorkR;have q1:=HB2.out.size;have q2:=hb4.size;have q3:=(qB w4 (w.heap.size+1) (.slice (some ⟨g,0,none⟩) (n+1) (n+1)) (.slice none 0 0)).size;have q4:=(aes kr3).1
  exact⟨((some ⟨g,0,none⟩,n+1,n+1),(none,0,0)),rfl,hs3.fin hb4 (qB ..) (by omega),⟨lo,q7t HTY.out hV hl (fun i hi=>(hv i hi).trans (HSEM.out i)) hb4 (qB ..) kr3 (by omega),by omega,kp3.keep (q57 hb4 (qB ..) kr3)⟩,q3B (kb3.trans (hb4.mono (by omega))) (by omega) _ _⟩
theorem qiB{n:Nat}{A B:Nat->Prop}{a b:Nat->Nat->Prop}(i:Nat):binV n 15 (A,a) (B,b) i↔i<n/\(B i\/A i/\binV n 15 (A,a) (B,b) (i+1)):=by
 simp[binV]
 constructor
 ·rintro⟨j,h1,h2,h3,h4⟩
  refine⟨by omega,?_⟩
  by_cases e:j=i
  ·subst e;exact Or.inl h3
  ·exact Or.inr ⟨h4 i nlr (by omega),j,by omega,h2,h3,fun k k1 k2=>h4 k (by omega) k2⟩
 ·rintro⟨h,h1|⟨h0,j,h1,h2,h3,h4⟩⟩
  ·exact⟨i,nlr,h,h1,fun k k1 k2=>by omega⟩
  ·refine⟨j,by omega,h2,h3,fun k k1 k2=>?_⟩
   by_cases e:k=i
   ·subst e;exact h0
   ·exact h4 k (by omega) k2
theorem qin {n : Nat} {A B : Nat → Prop} {a b : Nat → Nat → Prop} {i : Nat} (hi : i ≤ n) : binV n 16 (A, a) (B, b) i ↔ i = n ∨ B i ∧ (A i ∨ binV n 16 (A, a) (B, b) (i + 1)) := by
  simp [binV]
  constructor
  · intro h
    by_cases e : i = n
    · exact Or.inl e
    · refine Or.inr ⟨?_, ?_⟩
      · rcases h i nlr (by omega) with h | ⟨k, k1, k2, _⟩
        · exact h
        · omega
      · by_cases hx : A i
        · exact Or.inl hx
        · refine Or.inr fun j j1 j2=> ?_
          rcases h j (by omega) j2 with h | ⟨k, k1, k2, k3⟩
          · exact Or.inl h
          · refine Or.inr ⟨k, ?_, k2, k3⟩
            rcases Nat.lt_or_ge i k with hk | hk
            · omega
            · exact absurd (by have : k = i := by omega
                               subst this; exact k3) hx
  · rintro (rfl | ⟨h1, h2⟩) j j1 j2
    · omega
    · by_cases hj : j = i
      · subst hj; exact Or.inl h1
      · rcases h2 with h2 | h2
        · exact Or.inr ⟨i, nlr, by omega, h2⟩
        · rcases h2 j (by omega) j2 with h | ⟨k, k1, k2, k3⟩
          · exact Or.inl h
          · exact Or.inr ⟨k, by omega, k2, k3⟩
theorem q7T(n ga gb:Nat)(av bv:List Bool)(A B:Nat->Prop)(w:World)(hA:ValAt w ga av)(hB:ValAt w gb bv)(hl:av.length=n+1)(hl2:bv.length=n+1)(hv:∀i,i<=n->(av.getD i false=true↔A i))(hv2:∀i,i<=n->(bv.getD i false=true↔B i))(hn:n<=10000):
  Calls Tryz.prog 85 #[.int .u8 11,.slice (some ⟨ga,0,none⟩) (n+1) (n+1),.slice (some ⟨gb,0,none⟩) (n+1) (n+1)] w (ValR n (binV n 11 (A,fun _ _=>False) (B,fun _ _=>False)) w):=by
 have hmk:=qu (n+1) (by omega)
 have en:((n+1:Nat):Int)=(n:Int)+1:=by omega
 rw[en]at hmk;have HA:=hiq hA;have HAB:=hiq hB;have HV:=hiq hv;have HVB:=hiq hv2
 have HREC:Hid (∀i,i<=n->((binV n 11 (A,fun _ _=>False) (B,fun _ _=>False)) i↔A i/\B i)):=fun i hi=>by
  simp[binV]
 clear hA hv hB hv2;generalize (binV n 11 (A,fun _ _=>False) (B,fun _ _=>False))=V at *;have e1:(n:Int)+1-1=(n:Int):=by omega
 go_enter Tryz.func85,Tryz.ntmps85
 go_wp2;clear hmk
 go_loopw [9] (fun i wr=>∃k:Nat,k<=n+1/\i=.int .i64 ((k:Int)-1)/\(∃bs,Hid (ValAt wr w.heap.size bs)/\Hid (FillB n V k bs))/\Hid (Below w.heap.size w wr)) (fun i _=>(intOf i+1).toNat)
 case atStart=>exact⟨n+1,Nat.le_refl _,by rw[en,e1],⟨List.replicate (n+1) false,ValAt.made w _,by simp,fun i h1 h2=>absurd h1 (by omega)⟩,qc _ _⟩
 case round=>
  obtain⟨k1,hk1,rfl,⟨bs,HB,HF⟩,HW⟩:=hrel;by_cases hk0:k1=0
  ·subst hk0
   have hle:¬(0:Int)<=((0:Nat):Int)-1:=by omega
   go_wp2;go_ret
   unfold ValR;exact⟨_,bs,rfl,HB.out,HF.out.len,fun i hi=>HF.out.done i (Nat.zero_le _) hi,HW.out,nlr⟩
  ·obtain⟨k,rfl⟩:∃k,k1=k+1:=⟨k1-1,by omega⟩
   have hkn:k<=n:=by omega
   have em:(((k+1:Nat):Int)-1)=(k:Int):=by omega
   rw[em];have hle:(0:Int)<=(k:Int):=by omega
   have hAr:=HA.out.up HW.out;have hBr:=HAB.out.up HW.out;have hi1:=fun w'=>qj ga (n+1) k w' (by omega)
   have hi3:=fun w'=>qj gb (n+1) k w' (by omega)
   have hi2:=fun w'=>qj w.heap.size (n+1) k w' (by omega)
   have hca:=hAr.cell (i:=k) (by omega)
   have hcc:=hBr.cell (i:=k) (by omega)
   have hcb:=HB.out.cell (i:=k) (by rw[HF.out.len];omega)
   have hzb:=HB.out.fz k;have HST:Hid (∀b:Bool,ValAt (wr.setCell ⟨w.heap.size,k,none⟩ (.bool b)) w.heap.size (bs.set k b)/\Below w.heap.size w (wr.setCell ⟨w.heap.size,k,none⟩ (.bool b))):=fun b=>⟨HB.out.set k b,HW.out.setCell nlr _⟩
   have HRk:Hid _:=HREC.out k hkn;have HVk:Hid _:=HV.out k hkn;have HVc:Hid _:=HVB.out k hkn;clear em hk0 e1 en hAr hBr;generalize av.getD k false=q at *;generalize bv.getD k false=p at *
   cases q<;>cases p
   all_goals
    go_wp2
    go_roundw
    case rel=>
     refine⟨k,by omega,rfl,⟨_,(HST.out _).1,HF.out.next hkn ?_⟩,(HST.out _).2⟩
     rw[HRk.out];have h1:=HVk.out;have h2:=HVc.out;simp at h1 h2;simp[h1,h2]
    case measure=>simp[intOf]<;>omega
theorem q7U(n ga gb:Nat)(av bv:List Bool)(A B:Nat->Prop)(w:World)(hA:ValAt w ga av)(hB:ValAt w gb bv)(hl:av.length=n+1)(hl2:bv.length=n+1)(hv:∀i,i<=n->(av.getD i false=true↔A i))(hv2:∀i,i<=n->(bv.getD i false=true↔B i))(hn:n<=10000):
  Calls Tryz.prog 85 #[.int .u8 12,.slice (some ⟨ga,0,none⟩) (n+1) (n+1),.slice (some ⟨gb,0,none⟩) (n+1) (n+1)] w (ValR n (binV n 12 (A,fun _ _=>False) (B,fun _ _=>False)) w):=by
 have hmk:=qu (n+1) (by omega)
 have en:((n+1:Nat):Int)=(n:Int)+1:=by omega
 rw[en]at hmk;have HA:=hiq hA;have HAB:=hiq hB;have HV:=hiq hv;have HVB:=hiq hv2
 have HREC:Hid (∀i,i<=n->((binV n 12 (A,fun _ _=>False) (B,fun _ _=>False)) i↔A i\/B i)):=fun i hi=>by
  simp[binV]
 clear hA hv hB hv2;generalize (binV n 12 (A,fun _ _=>False) (B,fun _ _=>False))=V at *;have e1:(n:Int)+1-1=(n:Int):=by omega
 go_enter Tryz.func85,Tryz.ntmps85
 go_wp2;clear hmk
 go_loopw [9] (fun i wr=>∃k:Nat,k<=n+1/\i=.int .i64 ((k:Int)-1)/\(∃bs,Hid (ValAt wr w.heap.size bs)/\Hid (FillB n V k bs))/\Hid (Below w.heap.size w wr)) (fun i _=>(intOf i+1).toNat)
 case atStart=>exact⟨n+1,Nat.le_refl _,by rw[en,e1],⟨List.replicate (n+1) false,ValAt.made w _,by simp,fun i h1 h2=>absurd h1 (by omega)⟩,qc _ _⟩
 case round=>
  obtain⟨k1,hk1,rfl,⟨bs,HB,HF⟩,HW⟩:=hrel;by_cases hk0:k1=0
  ·subst hk0
   have hle:¬(0:Int)<=((0:Nat):Int)-1:=by omega
   go_wp2;go_ret
   unfold ValR;exact⟨_,bs,rfl,HB.out,HF.out.len,fun i hi=>HF.out.done i (Nat.zero_le _) hi,HW.out,nlr⟩
  ·obtain⟨k,rfl⟩:∃k,k1=k+1:=⟨k1-1,by omega⟩
   have hkn:k<=n:=by omega
   have em:(((k+1:Nat):Int)-1)=(k:Int):=by omega
   rw[em];have hle:(0:Int)<=(k:Int):=by omega
   have hAr:=HA.out.up HW.out;have hBr:=HAB.out.up HW.out;have hi1:=fun w'=>qj ga (n+1) k w' (by omega)
   have hi3:=fun w'=>qj gb (n+1) k w' (by omega)
   have hi2:=fun w'=>qj w.heap.size (n+1) k w' (by omega)
   have hca:=hAr.cell (i:=k) (by omega)
   have hcc:=hBr.cell (i:=k) (by omega)
   have hcb:=HB.out.cell (i:=k) (by rw[HF.out.len];omega)
   have hzb:=HB.out.fz k;have HST:Hid (∀b:Bool,ValAt (wr.setCell ⟨w.heap.size,k,none⟩ (.bool b)) w.heap.size (bs.set k b)/\Below w.heap.size w (wr.setCell ⟨w.heap.size,k,none⟩ (.bool b))):=fun b=>⟨HB.out.set k b,HW.out.setCell nlr _⟩
   have HRk:Hid _:=HREC.out k hkn;have HVk:Hid _:=HV.out k hkn;have HVc:Hid _:=HVB.out k hkn;clear em hk0 e1 en hAr hBr;generalize av.getD k false=q at *;generalize bv.getD k false=p at *
   cases q<;>cases p
   all_goals
    go_wp2
    go_roundw
    case rel=>
     refine⟨k,by omega,rfl,⟨_,(HST.out _).1,HF.out.next hkn ?_⟩,(HST.out _).2⟩
     rw[HRk.out];have h1:=HVk.out;have h2:=HVc.out;simp at h1 h2;simp[h1,h2]
    case measure=>simp[intOf]<;>omega
theorem q7V(n ga gb:Nat)(av bv:List Bool)(A B:Nat->Prop)(w:World)(hA:ValAt w ga av)(hB:ValAt w gb bv)(hl:av.length=n+1)(hl2:bv.length=n+1)(hv:∀i,i<=n->(av.getD i false=true↔A i))(hv2:∀i,i<=n->(bv.getD i false=true↔B i))(hn:n<=10000):
  Calls Tryz.prog 85 #[.int .u8 13,.slice (some ⟨ga,0,none⟩) (n+1) (n+1),.slice (some ⟨gb,0,none⟩) (n+1) (n+1)] w (ValR n (binV n 13 (A,fun _ _=>False) (B,fun _ _=>False)) w):=by
 have hmk:=qu (n+1) (by omega)
 have en:((n+1:Nat):Int)=(n:Int)+1:=by omega
 rw[en]at hmk;have HA:=hiq hA;have HAB:=hiq hB;have HV:=hiq hv;have HVB:=hiq hv2
 have HREC:Hid (∀i,i<=n->((binV n 13 (A,fun _ _=>False) (B,fun _ _=>False)) i↔¬A i\/B i)):=fun i hi=>by
  simp only[binV];simp;exact⟨fun h=>by by_cases hx:A i;exact Or.inr (h hx);exact Or.inl hx,fun h hx=>by rcases h with h|h;exact absurd hx h;exact h⟩
 clear hA hv hB hv2;generalize (binV n 13 (A,fun _ _=>False) (B,fun _ _=>False))=V at *;have e1:(n:Int)+1-1=(n:Int):=by omega
 go_enter Tryz.func85,Tryz.ntmps85
 go_wp2;clear hmk
 go_loopw [9] (fun i wr=>∃k:Nat,k<=n+1/\i=.int .i64 ((k:Int)-1)/\(∃bs,Hid (ValAt wr w.heap.size bs)/\Hid (FillB n V k bs))/\Hid (Below w.heap.size w wr)) (fun i _=>(intOf i+1).toNat)
 case atStart=>exact⟨n+1,Nat.le_refl _,by rw[en,e1],⟨List.replicate (n+1) false,ValAt.made w _,by simp,fun i h1 h2=>absurd h1 (by omega)⟩,qc _ _⟩
 case round=>
  obtain⟨k1,hk1,rfl,⟨bs,HB,HF⟩,HW⟩:=hrel;by_cases hk0:k1=0
  ·subst hk0
   have hle:¬(0:Int)<=((0:Nat):Int)-1:=by omega
   go_wp2;go_ret
   unfold ValR;exact⟨_,bs,rfl,HB.out,HF.out.len,fun i hi=>HF.out.done i (Nat.zero_le _) hi,HW.out,nlr⟩
  ·obtain⟨k,rfl⟩:∃k,k1=k+1:=⟨k1-1,by omega⟩
   have hkn:k<=n:=by omega
   have em:(((k+1:Nat):Int)-1)=(k:Int):=by omega
   rw[em];have hle:(0:Int)<=(k:Int):=by omega
   have hAr:=HA.out.up HW.out;have hBr:=HAB.out.up HW.out;have hi1:=fun w'=>qj ga (n+1) k w' (by omega)
   have hi3:=fun w'=>qj gb (n+1) k w' (by omega)
   have hi2:=fun w'=>qj w.heap.size (n+1) k w' (by omega)
   have hca:=hAr.cell (i:=k) (by omega)
   have hcc:=hBr.cell (i:=k) (by omega)
   have hcb:=HB.out.cell (i:=k) (by rw[HF.out.len];omega)
   have hzb:=HB.out.fz k;have HST:Hid (∀b:Bool,ValAt (wr.setCell ⟨w.heap.size,k,none⟩ (.bool b)) w.heap.size (bs.set k b)/\Below w.heap.size w (wr.setCell ⟨w.heap.size,k,none⟩ (.bool b))):=fun b=>⟨HB.out.set k b,HW.out.setCell nlr _⟩
   have HRk:Hid _:=HREC.out k hkn;have HVk:Hid _:=HV.out k hkn;have HVc:Hid _:=HVB.out k hkn;clear em hk0 e1 en hAr hBr;generalize av.getD k false=q at *;generalize bv.getD k false=p at *
   cases q<;>cases p
   all_goals
    go_wp2
    go_roundw
    case rel=>
     refine⟨k,by omega,rfl,⟨_,(HST.out _).1,HF.out.next hkn ?_⟩,(HST.out _).2⟩
     rw[HRk.out];have h1:=HVk.out;have h2:=HVc.out;simp at h1 h2;simp[h1,h2]
    case measure=>simp[intOf]<;>omega
theorem q7W(n ga gb:Nat)(av bv:List Bool)(A B:Nat->Prop)(w:World)(hA:ValAt w ga av)(hB:ValAt w gb bv)(hl:av.length=n+1)(hl2:bv.length=n+1)(hv:∀i,i<=n->(av.getD i false=true↔A i))(hv2:∀i,i<=n->(bv.getD i false=true↔B i))(hn:n<=10000):
  Calls Tryz.prog 85 #[.int .u8 14,.slice (some ⟨ga,0,none⟩) (n+1) (n+1),.slice (some ⟨gb,0,none⟩) (n+1) (n+1)] w (ValR n (binV n 14 (A,fun _ _=>False) (B,fun _ _=>False)) w):=by
 have hmk:=qu (n+1) (by omega)
 have en:((n+1:Nat):Int)=(n:Int)+1:=by omega
 rw[en]at hmk;have HA:=hiq hA;have HAB:=hiq hB;have HV:=hiq hv;have HVB:=hiq hv2
 have HREC:Hid (∀i,i<=n->((binV n 14 (A,fun _ _=>False) (B,fun _ _=>False)) i↔(A i↔B i))):=fun i hi=>by
  simp[binV]
 clear hA hv hB hv2;generalize (binV n 14 (A,fun _ _=>False) (B,fun _ _=>False))=V at *;have e1:(n:Int)+1-1=(n:Int):=by omega
 go_enter Tryz.func85,Tryz.ntmps85
 go_wp2;clear hmk
 go_loopw [9] (fun i wr=>∃k:Nat,k<=n+1/\i=.int .i64 ((k:Int)-1)/\(∃bs,Hid (ValAt wr w.heap.size bs)/\Hid (FillB n V k bs))/\Hid (Below w.heap.size w wr)) (fun i _=>(intOf i+1).toNat)
 case atStart=>exact⟨n+1,Nat.le_refl _,by rw[en,e1],⟨List.replicate (n+1) false,ValAt.made w _,by simp,fun i h1 h2=>absurd h1 (by omega)⟩,qc _ _⟩
 case round=>
  obtain⟨k1,hk1,rfl,⟨bs,HB,HF⟩,HW⟩:=hrel;by_cases hk0:k1=0
  ·subst hk0
   have hle:¬(0:Int)<=((0:Nat):Int)-1:=by omega
   go_wp2;go_ret
   unfold ValR;exact⟨_,bs,rfl,HB.out,HF.out.len,fun i hi=>HF.out.done i (Nat.zero_le _) hi,HW.out,nlr⟩
  ·obtain⟨k,rfl⟩:∃k,k1=k+1:=⟨k1-1,by omega⟩
   have hkn:k<=n:=by omega
   have em:(((k+1:Nat):Int)-1)=(k:Int):=by omega
   rw[em];have hle:(0:Int)<=(k:Int):=by omega
   have hAr:=HA.out.up HW.out;have hBr:=HAB.out.up HW.out;have hi1:=fun w'=>qj ga (n+1) k w' (by omega)
   have hi3:=fun w'=>qj gb (n+1) k w' (by omega)
   have hi2:=fun w'=>qj w.heap.size (n+1) k w' (by omega)
   have hca:=hAr.cell (i:=k) (by omega)
   have hcc:=hBr.cell (i:=k) (by omega)
   have hcb:=HB.out.cell (i:=k) (by rw[HF.out.len];omega)
   have hzb:=HB.out.fz k;have HST:Hid (∀b:Bool,ValAt (wr.setCell ⟨w.heap.size,k,none⟩ (.bool b)) w.heap.size (bs.set k b)/\Below w.heap.size w (wr.setCell ⟨w.heap.size,k,none⟩ (.bool b))):=fun b=>⟨HB.out.set k b,HW.out.setCell nlr _⟩
   have HRk:Hid _:=HREC.out k hkn;have HVk:Hid _:=HV.out k hkn;have HVc:Hid _:=HVB.out k hkn;clear em hk0 e1 en hAr hBr;generalize av.getD k false=q at *;generalize bv.getD k false=p at *
   cases q<;>cases p
   all_goals
    go_wp2
    go_region
    go_wp2
    go_roundw
    case rel=>
     refine⟨k,by omega,rfl,⟨_,(HST.out _).1,HF.out.next hkn ?_⟩,Below.drew (HST.out _).2⟩
     rw[HRk.out];have h1:=HVk.out;have h2:=HVc.out;simp at h1 h2;simp[h1,h2]
    case measure=>simp[intOf]<;>omega
theorem q7X(n ga gb:Nat)(av bv:List Bool)(A B:Nat->Prop)(w:World)(hA:ValAt w ga av)(hB:ValAt w gb bv)(hl:av.length=n+1)(hl2:bv.length=n+1)(hv:∀i,i<=n->(av.getD i false=true↔A i))(hv2:∀i,i<=n->(bv.getD i false=true↔B i))(hn:n<=10000):
  Calls Tryz.prog 85 #[.int .u8 15,.slice (some ⟨ga,0,none⟩) (n+1) (n+1),.slice (some ⟨gb,0,none⟩) (n+1) (n+1)] w (ValR n (binV n 15 (A,fun _ _=>False) (B,fun _ _=>False)) w):=by
 have hmk:=qu (n+1) (by omega)
 have en:((n+1:Nat):Int)=(n:Int)+1:=by omega
 rw[en]at hmk;have HA:=hiq hA;have HAB:=hiq hB;have HV:=hiq hv;have HVB:=hiq hv2
 have HREC:Hid (∀i,i<=n->((binV n 15 (A,fun _ _=>False) (B,fun _ _=>False)) i↔i<n/\(B i\/A i/\(binV n 15 (A,fun _ _=>False) (B,fun _ _=>False)) (i+1)))):=fun i hi=>by
  exact qiB i
 clear hA hv hB hv2;generalize (binV n 15 (A,fun _ _=>False) (B,fun _ _=>False))=V at *;have e1:(n:Int)+1-1=(n:Int):=by omega
 go_enter Tryz.func85,Tryz.ntmps85
 go_wp2;clear hmk
 go_loopw [9] (fun i wr=>∃k:Nat,k<=n+1/\i=.int .i64 ((k:Int)-1)/\(∃bs,Hid (ValAt wr w.heap.size bs)/\Hid (FillB n V k bs))/\Hid (Below w.heap.size w wr)) (fun i _=>(intOf i+1).toNat)
 case atStart=>exact⟨n+1,Nat.le_refl _,by rw[en,e1],⟨List.replicate (n+1) false,ValAt.made w _,by simp,fun i h1 h2=>absurd h1 (by omega)⟩,qc _ _⟩
 case round=>
  obtain⟨k1,hk1,rfl,⟨bs,HB,HF⟩,HW⟩:=hrel;by_cases hk0:k1=0
  ·subst hk0
   have hle:¬(0:Int)<=((0:Nat):Int)-1:=by omega
   go_wp2;go_ret
   unfold ValR;exact⟨_,bs,rfl,HB.out,HF.out.len,fun i hi=>HF.out.done i (Nat.zero_le _) hi,HW.out,nlr⟩
  ·obtain⟨k,rfl⟩:∃k,k1=k+1:=⟨k1-1,by omega⟩
   have hkn:k<=n:=by omega
   have em:(((k+1:Nat):Int)-1)=(k:Int):=by omega
   rw[em];have hle:(0:Int)<=(k:Int):=by omega
   have hAr:=HA.out.up HW.out;have hBr:=HAB.out.up HW.out;have hi1:=fun w'=>qj ga (n+1) k w' (by omega)
   have hi3:=fun w'=>qj gb (n+1) k w' (by omega)
   have hi2:=fun w'=>qj w.heap.size (n+1) k w' (by omega)
   have hca:=hAr.cell (i:=k) (by omega)
   have hcc:=hBr.cell (i:=k) (by omega)
   have hcb:=HB.out.cell (i:=k) (by rw[HF.out.len];omega)
   have hzb:=HB.out.fz k;have HST:Hid (∀b:Bool,ValAt (wr.setCell ⟨w.heap.size,k,none⟩ (.bool b)) w.heap.size (bs.set k b)/\Below w.heap.size w (wr.setCell ⟨w.heap.size,k,none⟩ (.bool b))):=fun b=>⟨HB.out.set k b,HW.out.setCell nlr _⟩
   have HRk:Hid _:=HREC.out k hkn;have HVk:Hid _:=HV.out k hkn;have HVc:Hid _:=HVB.out k hkn;clear em hk0 e1 en hAr hBr;generalize av.getD k false=q at *;generalize bv.getD k false=p at *;by_cases hc:k<n
   ·have hci:(k:Int)<(n:Int):=by omega
    have hj1:=fun w'=>qj w.heap.size (n+1) (k+1) w' (by omega)
    rw[show ((k+1:Nat):Int)=(k:Int)+1 by omega]at hj1
    have hcj:=HB.out.cell (i:=k+1) (by rw[HF.out.len];omega)
    have HVj:Hid _:=HF.out.done (k+1) nlr (by omega)
    generalize bs.getD (k+1) false=r at *
    cases q<;>cases p<;>cases r
    all_goals
     go_wp2
     go_roundw
     case rel=>
      refine⟨k,by omega,rfl,⟨_,(HST.out _).1,HF.out.next hkn ?_⟩,(HST.out _).2⟩
      rw[HRk.out];have h1:=HVk.out;have h2:=HVc.out;have h3:=HVj.out;simp at h1 h2 h3;simp[h1,h2,h3,hc]
     case measure=>simp[intOf]<;>omega
   ·have hci:¬(k:Int)<(n:Int):=by omega
    go_wp2
    go_roundw
    case rel=>
     refine⟨k,by omega,rfl,⟨_,(HST.out _).1,HF.out.next hkn ?_⟩,(HST.out _).2⟩
     rw[HRk.out];simp[hc]
    case measure=>simp[intOf]<;>omega
theorem q7Y(n ga gb:Nat)(av bv:List Bool)(A B:Nat->Prop)(w:World)(hA:ValAt w ga av)(hB:ValAt w gb bv)(hl:av.length=n+1)(hl2:bv.length=n+1)(hv:∀i,i<=n->(av.getD i false=true↔A i))(hv2:∀i,i<=n->(bv.getD i false=true↔B i))(hn:n<=10000):
  Calls Tryz.prog 85 #[.int .u8 16,.slice (some ⟨ga,0,none⟩) (n+1) (n+1),.slice (some ⟨gb,0,none⟩) (n+1) (n+1)] w (ValR n (binV n 16 (A,fun _ _=>False) (B,fun _ _=>False)) w):=by
 have hmk:=qu (n+1) (by omega)
 have en:((n+1:Nat):Int)=(n:Int)+1:=by omega
 rw[en]at hmk;have HA:=hiq hA;have HAB:=hiq hB;have HV:=hiq hv;have HVB:=hiq hv2
 have HREC:Hid (∀i,i<=n->((binV n 16 (A,fun _ _=>False) (B,fun _ _=>False)) i↔i=n\/B i/\(A i\/(binV n 16 (A,fun _ _=>False) (B,fun _ _=>False)) (i+1)))):=fun i hi=>by
  exact qin hi
 clear hA hv hB hv2;generalize (binV n 16 (A,fun _ _=>False) (B,fun _ _=>False))=V at *;have e1:(n:Int)+1-1=(n:Int):=by omega
 go_enter Tryz.func85,Tryz.ntmps85
 go_wp2;clear hmk
 go_loopw [9] (fun i wr=>∃k:Nat,k<=n+1/\i=.int .i64 ((k:Int)-1)/\(∃bs,Hid (ValAt wr w.heap.size bs)/\Hid (FillB n V k bs))/\Hid (Below w.heap.size w wr)) (fun i _=>(intOf i+1).toNat)
 case atStart=>exact⟨n+1,Nat.le_refl _,by rw[en,e1],⟨List.replicate (n+1) false,ValAt.made w _,by simp,fun i h1 h2=>absurd h1 (by omega)⟩,qc _ _⟩
 case round=>
  obtain⟨k1,hk1,rfl,⟨bs,HB,HF⟩,HW⟩:=hrel;by_cases hk0:k1=0
  ·subst hk0
   have hle:¬(0:Int)<=((0:Nat):Int)-1:=by omega
   go_wp2;go_ret
   unfold ValR;exact⟨_,bs,rfl,HB.out,HF.out.len,fun i hi=>HF.out.done i (Nat.zero_le _) hi,HW.out,nlr⟩
  ·obtain⟨k,rfl⟩:∃k,k1=k+1:=⟨k1-1,by omega⟩
   have hkn:k<=n:=by omega
   have em:(((k+1:Nat):Int)-1)=(k:Int):=by omega
   rw[em];have hle:(0:Int)<=(k:Int):=by omega
   have hAr:=HA.out.up HW.out;have hBr:=HAB.out.up HW.out;have hi1:=fun w'=>qj ga (n+1) k w' (by omega)
   have hi3:=fun w'=>qj gb (n+1) k w' (by omega)
   have hi2:=fun w'=>qj w.heap.size (n+1) k w' (by omega)
   have hca:=hAr.cell (i:=k) (by omega)
   have hcc:=hBr.cell (i:=k) (by omega)
   have hcb:=HB.out.cell (i:=k) (by rw[HF.out.len];omega)
   have hzb:=HB.out.fz k;have HST:Hid (∀b:Bool,ValAt (wr.setCell ⟨w.heap.size,k,none⟩ (.bool b)) w.heap.size (bs.set k b)/\Below w.heap.size w (wr.setCell ⟨w.heap.size,k,none⟩ (.bool b))):=fun b=>⟨HB.out.set k b,HW.out.setCell nlr _⟩
   have HRk:Hid _:=HREC.out k hkn;have HVk:Hid _:=HV.out k hkn;have HVc:Hid _:=HVB.out k hkn;clear em hk0 e1 en hAr hBr;generalize av.getD k false=q at *;generalize bv.getD k false=p at *;by_cases hc:k=n
   ·subst hc
    go_wp2
    go_roundw
    case rel=>
     refine⟨k,by omega,rfl,⟨_,(HST.out _).1,HF.out.next hkn ?_⟩,(HST.out _).2⟩
     rw[HRk.out];simp
    case measure=>simp[intOf]<;>omega
   ·have hci:¬(k:Int)=(n:Int):=by omega
    have hj1:=fun w'=>qj w.heap.size (n+1) (k+1) w' (by omega)
    rw[show ((k+1:Nat):Int)=(k:Int)+1 by omega]at hj1
    have hcj:=HB.out.cell (i:=k+1) (by rw[HF.out.len];omega)
    have HVj:Hid _:=HF.out.done (k+1) nlr (by omega)
    generalize bs.getD (k+1) false=r at *
    cases q<;>cases p<;>cases r
    all_goals
     go_wp2
     go_roundw
     case rel=>
      refine⟨k,by omega,rfl,⟨_,(HST.out _).1,HF.out.next hkn ?_⟩,(HST.out _).2⟩
      rw[HRk.out];have h1:=HVk.out;have h2:=HVc.out;have h3:=HVj.out;simp at h1 h2 h3;simp[h1,h2,h3,hc,hci]
     case measure=>simp[intOf]<;>omega
theorem StkAt.only{w w':World}{b B G:Nat}{st:List Mp}(h:StkAt w b B st)(ho:Only G w w'):StkAt w' b B st:=h.keep fun k c t z hc ht _ _=>
 ho.block k (aes hc).1 (Or.inr fun c' z' e=>by
  rw[hc]at e;injection e with e;injection e with _ e _;subst e;rcases ht with ht|ht<;>exact absurd ht (by decide))
section
variable {w w6:World} {n b lo g:Nat} {X:Sk} {rest:List (Sk×Mp)}
theorem qdS{bs:List Bool}(hS:StkAt w6 b w.heap.size ((rest.map (·.2)).reverse))(hP:Parts w6 n b lo rest)(hr:w6.heap[w.heap.size+1]? =some (.cells #[.slice none 0 0,.slice none 0 0] 71 (0,0)))(hb:Below b w w6)(hV:ValAt w6 g bs)(hl:bs.length=n+1)(hX:X.1=false)(hv:∀i,i<=n->(bs.getD i false=true↔X.2.1 i))(hlo:lo<=w6.heap.size)(hgb:b<=g):
  WorkR n b w X rest (.returned (.agg #[.slice (some ⟨g,0,none⟩) (n+1) (n+1),.slice none 0 0])) ((w6.setCell ⟨w.heap.size+1,0,none⟩ (.slice (some ⟨g,0,none⟩) (n+1) (n+1))).setCell ⟨w.heap.size+1,1,none⟩ (.slice none 0 0)):=by
 have q:=(qB w6 (w.heap.size+1) (.slice (some ⟨g,0,none⟩) (n+1) (n+1)) (.slice none 0 0)).size;have hbB:=hS.lt;exact⟨((some ⟨g,0,none⟩,n+1,n+1),(none,0,0)),rfl,hS.fin (Below.refl _ _) (qB ..) (by omega),⟨lo,q7t hX hV hl hv (Below.refl _ _) (qB ..) hr hgb,by omega,hP.keep (q57 (Below.refl _ _) (qB ..) hr)⟩,q3B hb (by omega) _ _⟩
theorem q6h{rs:Nat->List Nat}(hS:StkAt w6 b w.heap.size ((rest.map (·.2)).reverse))(hP:Parts w6 n b lo rest)(hr:w6.heap[w.heap.size+1]? =some (.cells #[.slice none 0 0,.slice none 0 0] 71 (0,0)))(hb:Below b w w6)(hE:EndAt w6 g (n+1) rs)(hX:X.1=true)(hv:∀i,i<=n->∀k,hasW (rs i) k=true↔X.2.2 i k)(hlo:lo<=g):
  WorkR n b w X rest (.returned (.agg #[.slice none 0 0,.slice (some ⟨g,0,none⟩) (n+1) (n+1)])) ((w6.setCell ⟨w.heap.size+1,0,none⟩ (.slice none 0 0)).setCell ⟨w.heap.size+1,1,none⟩ (.slice (some ⟨g,0,none⟩) (n+1) (n+1))):=by
 have q:=(qB w6 (w.heap.size+1) (.slice none 0 0) (.slice (some ⟨g,0,none⟩) (n+1) (n+1))).size;have hbB:=hS.lt;have hlt:=hE.lt;exact⟨((none,0,0),(some ⟨g,0,none⟩,n+1,n+1)),rfl,hS.fin (Below.refl _ _) (qB ..) (by omega),⟨lo,qgU hX hE hv hlo (Below.refl _ _) (qB ..) hr,by omega,hP.keep (q57 (Below.refl _ _) (qB ..) hr)⟩,q3B hb (by omega) _ _⟩
end
section
variable {n:Nat} {t:List Nat} {x y:Sk} {rs us:Nat->List Nat} {av:List Bool}
theorem q3i{R S:Nat->Nat->Prop}(hI:∀i k,i<=n->S i k->i<=k/\k<=n)(hRS:∀i,i<=n->∀k,R i k↔S i k):∀(m i k:Nat),i<=n->(stepsP R m i k↔stepsP S m i k)
 | 0,_,_,_=>Iff.rfl
 |m+1,i,k,hi=>by
  constructor
  ·rintro⟨j,h1,h2⟩
   have h1':=(hRS i hi j).1 h1;exact⟨j,h1',(q3i hI hRS m j k (hI i j hi h1').2).1 h2⟩
  ·rintro⟨j,h1,h2⟩
   exact⟨j,(hRS i hi j).2 h1,(q3i hI hRS m j k (hI i j hi h1).2).2 h2⟩
theorem qiN(hI:InW n x)(hv:∀i,i<=n->∀k,hasW (rs i) k=true↔x.2.2 i k):InR rs (n+1):=fun i hi k hk=>by
 have:=hI i k (by omega) ((hv i (by omega) k).1 hk)
 omega
theorem qh7(hl:t.length=n)(hv:∀i,i<=n->(av.getD i false=true↔x.2.1 i))(hd:∀i,i<n+1->∀j,hasW (rs i) j=stpF av (n+1) i j):∀i,i<=n->∀k,hasW (rs i) k=true↔(skT t (19,0) [x]).2.2 i k:=fun i hi k=>by
 rw[hd i (by omega) k]
 show _↔unY t.length 19 x.2 i k
 rw[hl];have:=hv i hi
 unfold stpF;generalize av.getD i false=q at this ⊢
 rw[Bool.and_eq_true,Bool.and_eq_true,this];simp[unY]
 constructor
 ·rintro⟨⟨h1,h2⟩,h3⟩;exact⟨h3,h2,h1⟩
 ·rintro⟨h3,h2,h1⟩;exact⟨⟨h1,h2⟩,h3⟩
theorem qh8(hv:∀i,i<=n->(av.getD i false=true↔x.2.1 i))(hd:∀i,i<n+1->∀j,hasW (rs i) j=tstF av (n+1) i j):∀i,i<=n->∀k,hasW (rs i) k=true↔(skT t (20,0) [x]).2.2 i k:=fun i hi k=>by
 rw[hd i (by omega) k]
 show _↔unY t.length 20 x.2 i k
 have:=hv i hi
 unfold tstF;generalize av.getD i false=q at this ⊢
 rw[Bool.and_eq_true,this];simp[unY]
 constructor
 ·rintro⟨h1,h2⟩;exact⟨h2,h1⟩
 ·rintro⟨h1,h2⟩;exact⟨h2,h1⟩
theorem qh6(hI:InW n x)(hv:∀i,i<=n->∀k,hasW (rs i) k=true↔x.2.2 i k)(hd:∀i,i<n+1->∀k,hasW (us i) k=true↔∃m,stepsP (Rl rs) m i k):∀i,i<=n->∀k,hasW (us i) k=true↔(skT t (23,0) [x]).2.2 i k:=fun i hi k=>by
 rw[hd i (by omega) k]
 show _↔unY t.length 23 x.2 i k
 simp only[unY,if_neg (show ¬(23=19) by decide),if_neg (show ¬(23=20) by decide)]
 constructor
 ·rintro⟨m,h⟩;exact⟨m,(q3i (R:=Rl rs) hI hv m i k hi).1 h⟩
 ·rintro⟨m,h⟩;exact⟨m,(q3i (R:=Rl rs) hI hv m i k hi).2 h⟩
theorem qis(hI:InW n x)(hv:∀i,i<=n->∀k,hasW (rs i) k=true↔x.2.2 i k)(hv2:∀i,i<=n->(av.getD i false=true↔y.2.1 i)):∀i,i<=n->(someP rs av i (n+1)↔(skT t (17,0) [x,y]).2.1 i):=fun i hi=>by
 show _↔binV t.length 17 x.2 y.2 i
 simp[binV,someP]
 constructor
 ·rintro⟨m,h1,h2,h3⟩;exact⟨m,(hv i hi m).1 h2,(hv2 m (by omega)).1 h3⟩
 ·rintro⟨m,h1,h2⟩
  have:=hI i m hi h1
  exact⟨m,by omega,(hv i hi m).2 h1,(hv2 m this.2).2 h2⟩
theorem qir(hI:InW n x)(hv:∀i,i<=n->∀k,hasW (rs i) k=true↔x.2.2 i k)(hv2:∀i,i<=n->(av.getD i false=true↔y.2.1 i)):∀i,i<=n->(everyP rs av i (n+1)↔(skT t (18,0) [x,y]).2.1 i):=fun i hi=>by
 show _↔binV t.length 18 x.2 y.2 i
 simp[binV,everyP]
 constructor
 ·intro h k hk
  have:=hI i k hi hk
  exact(hv2 k this.2).1 (h k (by omega) ((hv i hi k).2 hk))
 ·intro h m hm hk;exact(hv2 m (by omega)).2 (h m ((hv i hi m).1 hk))
theorem qh5{W:Nat}(hI:InW n y)(hv:∀i,i<=n->∀k,hasW (rs i) k=true↔x.2.2 i k)(hv2:∀i,i<=n->∀k,hasW (us i) k=true↔y.2.2 i k)(ho:∀i,i<n+1->OkW W (rs i))(ho2:∀i,i<n+1->OkW W (us i)):∀i,i<=n->∀k,hasW (plusTo rs us (n+1) i) k=true↔(skT t (21,0) [x,y]).2.2 i k:=fun i hi k=>by
 show _↔binY 21 x.2 y.2 i k
 unfold plusTo;rw[if_pos (by omega),q49 (ho i (by omega)) (ho2 i (by omega)) i k (fun j hj=>(hI i j hi ((hv2 i hi j).1 hj)).1),Bool.or_eq_true,hv i hi,hv2 i hi]
 simp[binY]
theorem qit(hI:InW n x)(hv:∀i,i<=n->∀k,hasW (rs i) k=true↔x.2.2 i k)(hv2:∀i,i<=n->∀k,hasW (us i) k=true↔y.2.2 i k){xs:Nat->List Nat}(hd:∀i,i<n+1->SeqTo rs us i (n+1) (xs i)):∀i,i<=n->∀k,hasW (xs i) k=true↔(skT t (22,0) [x,y]).2.2 i k:=fun i hi k=>by
 rw[hd i (by omega) k]
 show _↔binY 22 x.2 y.2 i k
 simp[binY]
 constructor
 ·rintro⟨m,h1,h2,h3⟩;exact⟨m,(hv i hi m).1 h2,(hv2 m (by omega) k).1 h3⟩
 ·rintro⟨m,h1,h2⟩
  have:=hI i m hi h1
  exact⟨m,by omega,(hv i hi m).2 h1,(hv2 m this.2 k).2 h2⟩
theorem qiu{op:Nat}(hop:11<=op/\op<=16)(hl:t.length=n)(i:Nat):binV n op (x.2.1,fun _ _=>False) (y.2.1,fun _ _=>False) i↔(skT t (op,0) [x,y]).2.1 i:=by
 show _↔binV t.length op x.2 y.2 i
 rw[hl];obtain rfl|rfl|rfl|rfl|rfl|rfl:op=11\/op=12\/op=13\/op=14\/op=15\/op=16:=by omega
 all_goals simp[binV]
end
theorem q45(oi:Int)(F:FuncId)(X x:Sk)(G:List Bool->Nat->Nat->Nat->Bool)(hF:F=78/\oi=19\/F=79/\oi=20)(b n c hi:Nat)(HC:∀(ga:Nat) (av:List Bool) (w:World),ValAt w ga av->av.length=n+1->Calls Tryz.prog F #[.slice (some ⟨ga,0,none⟩) (n+1) (n+1)] w fun e w'=>e=.returned (.slice (some ⟨w.heap.size,0,none⟩) (n+1) (n+1))/\(∃rs,EndAt w' w.heap.size (n+1) rs/\∀i,i<n+1->∀j,hasW (rs i) j=G av (n+1) i j)/\Below w.heap.size w w')(HX:X.1=true)(HSM:∀(av:List Bool) (rs:Nat->List Nat),(∀i,i<=n->(av.getD i false=true↔x.2.1 i))->(∀i,i<n+1->∀j,hasW (rs i) j=G av (n+1) i j)->∀i,i<=n->∀k,hasW (rs i) k=true↔X.2.2 i k)(d:Option Addr)(px:Mp)(rest:List (Sk×Mp))(w:World)(hS:StkAt w b w.heap.size ((((x,px)::rest).map (·.2)).reverse))(hP:Parts w n b hi ((x,px)::rest))(hh:hi<=w.heap.size)(hx:x.1=false)(hr:rest.length<=1000000):
  Calls Tryz.prog 53 #[.pointer (some ⟨b,0,none⟩),.agg #[.int .u8 oi,.int .u8 0],.slice d n c] w (WorkR n b w X rest):=by
 obtain⟨lo,hpx,hlo,hPr⟩:=hP;obtain⟨p1,p2⟩:=px;rw[List.map_cons,List.reverse_cons]at hS;dsimp only at hS
 obtain⟨ga,av,hp1,hVa,hla,hva,_⟩:=hpx.2 hx;dsimp only at hp1
 subst hp1;have hw1:=qc w (.cells #[.int .u8 oi,.int .u8 0] 90);have hw2:=qd hw1 (qc (w.alloc (.cells #[.int .u8 oi,.int .u8 0] 90)) (.cells #[.slice none 0 0,.slice none 0 0] 71));have hbox:=(Below.heap_alloc (w.alloc (.cells #[.int .u8 oi,.int .u8 0] 90)) (.cells #[.slice none 0 0,.slice none 0 0] 71) w.heap.size (by simp)).trans (MapKept.heap_alloc w _).1
 have hres:=(MapKept.heap_alloc (w.alloc (.cells #[.int .u8 oi,.int .u8 0] 90)) (.cells #[.slice none 0 0,.slice none 0 0] 71)).1;have hsz:((w.alloc (.cells #[.int .u8 oi,.int .u8 0] 90)).alloc (.cells #[.slice none 0 0,.slice none 0 0] 71)).heap.size=w.heap.size+2:=by simp
 rw[show (w.alloc (.cells #[.int .u8 oi,.int .u8 0] 90)).heap.size=w.heap.size+1 by simp]at hres
 clear hw1;have HSEM:Hid (∀rs:Nat->List Nat,(∀i,i<n+1->∀j,hasW (rs i) j=G av (n+1) i j)->∀i,i<=n->∀k,hasW (rs i) k=true↔X.2.2 i k):=fun rs hd=>HSM av rs hva hd
 have hcall:=fun W (h:ValAt W ga av)=>HC ga av W h hla
 have HTY:=hiq HX;have hbB:=hS.lt;have HPR:=hiq hPr;have HVA:=hiq hVa;have HS:Hid _:=hS;clear hS hPr hVa hva hla hpx HX;have ho:19<=oi/\oi<=20:=by omega
 have FF:∀k:Int,(k<19\/20<k)->(oi==k)=false:=fun k h=>by rw[bqn];omega
 have f0:=FF 0 (by decide)
 have f1:=FF 1 (by decide)
 have f2:=FF 2 (by decide)
 have f3:=FF 3 (by decide)
 have f4:=FF 4 (by decide)
 have f5:=FF 5 (by decide)
 have f6:=FF 6 (by decide)
 have f7:=FF 7 (by decide)
 have f8:=FF 8 (by decide)
 have f9:=FF 9 (by decide)
 have f10:=FF 10 (by decide)
 have hs:F=78/\(oi==19)=true\/F=79/\(oi==19)=false/\(oi==20)=true:=by
  rcases hF with⟨h,e⟩|⟨h,e⟩
  ·exact Or.inl ⟨h,by rw[e];rfl⟩
  ·exact Or.inr ⟨h,by rw[e];rfl,by rw[e];rfl⟩
 clear FF ho hF HC HSM;rcases hs with⟨rfl,g1⟩|⟨rfl,g1,g2⟩
 all_goals
  go_enter Tryz.func53,Tryz.ntmps53
  go_wp2_with fail
  generalize (w.alloc (.cells #[.int .u8 oi,.int .u8 0] 90)).alloc (.cells #[.slice none 0 0,.slice none 0 0] 71)=w2 at *;have hS2:=HS.out.up hw2;have htk:=qy b w.heap.size _ _ w2 hS2 (by simpa using hr)
  unfold slV at htk;dsimp only at htk
  have hfd:=q5L (.slice (some ⟨ga,0,none⟩) (n+1) (n+1)) (.slice p2.1 p2.2.1 p2.2.2)
  have HTK:Hid (∀w3,StkAt w3 b w.heap.size ((rest.map (·.2)).reverse)->w2.grownBy w3 (some b)->ValAt w3 ga av/\Parts w3 n b lo rest/\w3.heap[w.heap.size+1]? =some (.cells #[.slice none 0 0,.slice none 0 0] 71 (0,0))/\Below b w w3):=fun w3 h1 h2=>by
   obtain⟨v0,hv0,_⟩:=hS2.c;have hK:KeepT w.heap.size w w3:=(KeepT.of_below hw2).trans (KeepT.of_grown (w:=w2) h2 hv0 (by decide) (by decide) (by decide))
   refine⟨(hK _ _ _ _ HVA.out (Or.inl rfl)).trans HVA.out,HPR.out.keep (hK.mono (by omega)),(h2.block _ (by omega) (fun e=>by injection e with e;omega)).trans hres,?_⟩
   exact((hw2.mono (by omega)).trans ⟨h2.os,h2.tape,h2.output,h2.size,fun k hk=>h2.block k (by omega) (fun e=>by injection e with e;omega)⟩)
  have Hsz:Hid _:=hsz;have HB2:Hid _:=hw2;refine htk.mono ?_
  rintro e w3 ⟨rfl,hs3,hg3⟩
  obtain⟨kv3,kp3,kr3,kb3⟩:=HTK.out _ hs3 hg3;have hsz3:=hg3.size;rw[hsz]at hsz3;have hcl:=hcall w3 kv3;have KS:Hid _:=hs3;have KP:Hid _:=kp3;have KR:Hid _:=kr3;have KB:Hid _:=kb3;clear hbox hS2 hsz hw2 hres hg3 hs3 kv3 kp3 kr3 kb3 HTK HS HPR HVA
  go_wp2_with fail
  refine hcl.mono ?_
  rintro e w4 ⟨rfl,⟨us,hE,hd⟩,hb4⟩
  have hr4:=(hb4.block _ (aes KR.out).1).trans KR.out
  have c0:=qb hr4 0;have c1:=qb hr4 1;have z0:=frozen_of_row _ _ 0 _ _ hr4;have z1:=frozen_of_row _ _ 1 _ _ hr4;simp at c0 c1
  have HE:Hid _:=hE;have HD:Hid _:=hd;have HB4:Hid _:=hb4;have HR4:Hid _:=hr4;clear hE hd hb4 hr4 hcl htk hcall;go_wp2;have f:=q1D HR4.out (.slice none 0 0) (.slice (some ⟨w3.heap.size,0,none⟩) (n+1) (n+1));refine bodyPost_ret (v:=.agg #[.slice none 0 0,.slice (some ⟨w3.heap.size,0,none⟩) (n+1) (n+1)]) (by simp[results,Tryz.results53,go_sem,f.1,f.2.1]) rfl ?_
  exact q6h (KS.out.up HB4.out) (KP.out.keep (KeepT.of_below HB4.out)) HR4.out (KB.out.trans (HB4.out.mono (by omega))) HE.out HTY.out (HSEM.out _ HD.out) (by omega)
theorem q73(b n c hi:Nat)(d:Option Addr)(zs:List Int)(x:Sk)(px:Mp)(rest:List (Sk×Mp))(w:World)(hL:LtSl w d n c zs)(hn:n<=10000)(hS:StkAt w b w.heap.size ((((x,px)::rest).map (·.2)).reverse))(hP:Parts w n b hi ((x,px)::rest))(hh:hi<=w.heap.size)(hx:x.1=true)(hI:InW n x)(hr:rest.length<=1000000):
  Calls Tryz.prog 53 #[.pointer (some ⟨b,0,none⟩),.agg #[.int .u8 23,.int .u8 0],.slice d n c] w (WorkR n b w (skT (zN zs) (23,0) [x]) rest):=by
 have hlen:(zN zs).length=n:=by rw[q1f];exact hL.sl.hlen
 obtain⟨lo,hpx,hlo,hPr⟩:=hP;obtain⟨p1,p2⟩:=px;rw[List.map_cons,List.reverse_cons]at hS;dsimp only at hS
 obtain⟨ga,rs,hp1,hEa,hva,hga1,hga2⟩:=hpx.1 hx;dsimp only at hp1
 subst hp1;have hw1:=qc w (.cells #[.int .u8 23,.int .u8 0] 90);have hw2:=qd hw1 (qc (w.alloc (.cells #[.int .u8 23,.int .u8 0] 90)) (.cells #[.slice none 0 0,.slice none 0 0] 71));have hbox:=(Below.heap_alloc (w.alloc (.cells #[.int .u8 23,.int .u8 0] 90)) (.cells #[.slice none 0 0,.slice none 0 0] 71) w.heap.size (by simp)).trans (MapKept.heap_alloc w _).1
 have hres:=(MapKept.heap_alloc (w.alloc (.cells #[.int .u8 23,.int .u8 0] 90)) (.cells #[.slice none 0 0,.slice none 0 0] 71)).1;have hsz:((w.alloc (.cells #[.int .u8 23,.int .u8 0] 90)).alloc (.cells #[.slice none 0 0,.slice none 0 0] 71)).heap.size=w.heap.size+2:=by simp
 rw[show (w.alloc (.cells #[.int .u8 23,.int .u8 0] 90)).heap.size=w.heap.size+1 by simp]at hres
 clear hw1;have HSEM:Hid (∀us:Nat->List Nat,(∀i,i<n+1->∀k,hasW (us i) k=true↔∃m,stepsP (Rl rs) m i k)->∀i,i<=n->∀k,hasW (us i) k=true↔(skT (zN zs) (23,0) [x]).2.2 i k):=fun us hd=>qh6 hI hva hd
 have hcall:=fun W (h:EndAt W ga (n+1) rs)=>q9b ga (n+1) rs W (by omega) (by omega) h (qiN hI hva)
 have HTY:Hid ((skT (zN zs) (23,0) [x]).1=true):=rfl;generalize skT (zN zs) (23,0) [x]=X at *;have hbB:=hS.lt;have HPR:=hiq hPr;have HVA:=hiq hEa;have HS:Hid _:=hS;clear hS hPr hEa hva hL hpx hlen;go_enter Tryz.func53,Tryz.ntmps53
 go_wp2_with fail
 generalize (w.alloc (.cells #[.int .u8 23,.int .u8 0] 90)).alloc (.cells #[.slice none 0 0,.slice none 0 0] 71)=w2 at *;have hS2:=HS.out.up hw2;have htk:=qy b w.heap.size _ _ w2 hS2 (by simpa using hr)
 unfold slV at htk;dsimp only at htk
 have hfd:=qf3 (.slice p1.1 p1.2.1 p1.2.2) (.slice (some ⟨ga,0,none⟩) (n+1) (n+1))
 have HTK:Hid (∀w3,StkAt w3 b w.heap.size ((rest.map (·.2)).reverse)->w2.grownBy w3 (some b)->EndAt w3 ga (n+1) rs/\Parts w3 n b lo rest/\w3.heap[w.heap.size+1]? =some (.cells #[.slice none 0 0,.slice none 0 0] 71 (0,0))/\Below b w w3):=fun w3 h1 h2=>by
  obtain⟨v0,hv0,_⟩:=hS2.c;have hK:KeepT w.heap.size w w3:=(KeepT.of_below hw2).trans (KeepT.of_grown (w:=w2) h2 hv0 (by decide) (by decide) (by decide))
  refine⟨HVA.out.keep (fun k c t z hc ht h1 h2=>hK k c t z hc (Or.inr ⟨ht,by omega⟩)),HPR.out.keep (hK.mono (by omega)),(h2.block _ (by omega) (fun e=>by injection e with e;omega)).trans hres,?_⟩
  exact((hw2.mono (by omega)).trans ⟨h2.os,h2.tape,h2.output,h2.size,fun k hk=>h2.block k (by omega) (fun e=>by injection e with e;omega)⟩)
 have Hsz:Hid _:=hsz;have HB2:Hid _:=hw2;refine htk.mono ?_
 rintro e w3 ⟨rfl,hs3,hg3⟩
 obtain⟨kv3,kp3,kr3,kb3⟩:=HTK.out _ hs3 hg3;have hsz3:=hg3.size;rw[hsz]at hsz3;have hcl:=hcall w3 kv3;have KS:Hid _:=hs3;have KP:Hid _:=kp3;have KR:Hid _:=kr3;have KB:Hid _:=kb3;clear hbox hS2 hsz hw2 hres hg3 hs3 kv3 kp3 kr3 kb3 HTK HS HPR HVA
 go_wp2_with fail
 refine hcl.mono ?_
 rintro e w4 ⟨rfl,⟨us,hE,hd⟩,hb4⟩
 have hr4:=(hb4.block _ (aes KR.out).1).trans KR.out
 have c0:=qb hr4 0;have c1:=qb hr4 1;have z0:=frozen_of_row _ _ 0 _ _ hr4;have z1:=frozen_of_row _ _ 1 _ _ hr4;simp at c0 c1
 have HE:Hid _:=hE;have HD:Hid _:=hd;have HB4:Hid _:=hb4;have HR4:Hid _:=hr4;clear hE hd hb4 hr4 hcl htk hcall;go_wp2;have f:=q1D HR4.out (.slice none 0 0) (.slice (some ⟨w3.heap.size,0,none⟩) (n+1) (n+1));refine bodyPost_ret (v:=.agg #[.slice none 0 0,.slice (some ⟨w3.heap.size,0,none⟩) (n+1) (n+1)]) (by simp[results,Tryz.results53,go_sem,f.1,f.2.1]) rfl ?_
 exact q6h (KS.out.up HB4.out) (KP.out.keep (KeepT.of_below HB4.out)) HR4.out (KB.out.trans (HB4.out.mono (by omega))) HE.out HTY.out (HSEM.out _ HD.out) (by omega)
theorem q1q(op:Nat)(oi:Int)(ho:oi=(op:Int))(h1:11<=op)(h2:op<=16)(b n c hi:Nat)(HC:∀(ga gb:Nat) (av bv:List Bool) (A B:Nat->Prop) (w:World),ValAt w ga av->ValAt w gb bv->av.length=n+1->bv.length=n+1->(∀i,i<=n->(av.getD i false=true↔A i))->(∀i,i<=n->(bv.getD i false=true↔B i))->n<=10000->Calls Tryz.prog 85 #[.int .u8 oi,.slice (some ⟨ga,0,none⟩) (n+1) (n+1),.slice (some ⟨gb,0,none⟩) (n+1) (n+1)] w (ValR n (binV n op (A,fun _ _=>False) (B,fun _ _=>False)) w))(d:Option Addr)(zs:List Int)(x y:Sk)(px py:Mp)(rest:List (Sk×Mp))(w:World)(hL:LtSl w d n c zs)(hn:n<=10000)(hS:StkAt w b w.heap.size ((((y,py)::(x,px)::rest).map (·.2)).reverse))(hP:Parts w n b hi ((y,py)::(x,px)::rest))(hh:hi<=w.heap.size)(hx:x.1=false)(hy:y.1=false)(hr:rest.length<=999999):
  Calls Tryz.prog 53 #[.pointer (some ⟨b,0,none⟩),.agg #[.int .u8 oi,.int .u8 0],.slice d n c] w (WorkR n b w (skT (zN zs) (op,0) [x,y]) rest):=by
 have hlen:(zN zs).length=n:=by rw[q1f];exact hL.sl.hlen
 obtain⟨lo2,hpy,hlo2,lo,hpx,hlo,hPr⟩:=hP;have hblo:=Parts.low hPr;obtain⟨p1,p2⟩:=px;obtain⟨q1,q2⟩:=py;rw[List.map_cons,List.reverse_cons,List.map_cons,List.reverse_cons]at hS;dsimp only at hS
 obtain⟨ga,av,hp1,hVa,hla,hva,_⟩:=hpx.2 hx;dsimp only at hp1
 subst hp1;obtain⟨gb,bv,hq1,hVb,hlb,hvb,_⟩:=hpy.2 hy;dsimp only at hq1
 subst hq1;have hw1:=qc w (.cells #[.int .u8 oi,.int .u8 0] 90);have hw2:=qd hw1 (qc (w.alloc (.cells #[.int .u8 oi,.int .u8 0] 90)) (.cells #[.slice none 0 0,.slice none 0 0] 71));have hbox:=(Below.heap_alloc (w.alloc (.cells #[.int .u8 oi,.int .u8 0] 90)) (.cells #[.slice none 0 0,.slice none 0 0] 71) w.heap.size (by simp)).trans (MapKept.heap_alloc w _).1
 have hres:=(MapKept.heap_alloc (w.alloc (.cells #[.int .u8 oi,.int .u8 0] 90)) (.cells #[.slice none 0 0,.slice none 0 0] 71)).1;have hsz:((w.alloc (.cells #[.int .u8 oi,.int .u8 0] 90)).alloc (.cells #[.slice none 0 0,.slice none 0 0] 71)).heap.size=w.heap.size+2:=by simp
 rw[show (w.alloc (.cells #[.int .u8 oi,.int .u8 0] 90)).heap.size=w.heap.size+1 by simp]at hres
 clear hw1;have HSEM:Hid (∀i,binV n op (x.2.1,fun _ _=>False) (y.2.1,fun _ _=>False) i↔(skT (zN zs) (op,0) [x,y]).2.1 i):=fun i=>qiu (by omega) hlen i
 have hcall:=fun W (h1:ValAt W ga av) (h2:ValAt W gb bv)=>HC ga gb av bv x.2.1 y.2.1 W h1 h2 hla hlb hva hvb hn
 generalize binV n op (x.2.1,fun _ _=>False) (y.2.1,fun _ _=>False)=VV at *
 have HTY:Hid ((skT (zN zs) (op,0) [x,y]).1=false):=by
  obtain rfl|rfl|rfl|rfl|rfl|rfl:op=11\/op=12\/op=13\/op=14\/op=15\/op=16:=by omega
  all_goals rfl
 generalize skT (zN zs) (op,0) [x,y]=X at *;have hbB:=hS.lt;have HPR:=hiq hPr;have HVA:=hiq hVa;have HVB:=hiq hVb;have HS:Hid _:=hS;clear hS hPr hVa hVb hva hvb hla hlb hL hpx hpy hlen;have F:∀k:Int,(k<11\/16<k)->(oi==k)=false:=fun k h=>by rw[bqn];omega
 have f0:=F 0 (by decide)
 have f1:=F 1 (by decide)
 have f2:=F 2 (by decide)
 have f3:=F 3 (by decide)
 have f4:=F 4 (by decide)
 have f5:=F 5 (by decide)
 have f6:=F 6 (by decide)
 have f7:=F 7 (by decide)
 have f8:=F 8 (by decide)
 have f9:=F 9 (by decide)
 have f10:=F 10 (by decide)
 have f17:=F 17 (by decide)
 have f18:=F 18 (by decide)
 have f19:=F 19 (by decide)
 have f20:=F 20 (by decide)
 have f21:=F 21 (by decide)
 have f22:=F 22 (by decide)
 have f23:=F 23 (by decide)
 clear F ho h1 h2 HC;go_enter Tryz.func53,Tryz.ntmps53
 go_wp2_with fail
 generalize (w.alloc (.cells #[.int .u8 oi,.int .u8 0] 90)).alloc (.cells #[.slice none 0 0,.slice none 0 0] 71)=w2 at *;have hS2:=HS.out.up hw2;have htk:=qy b w.heap.size _ _ w2 hS2 (by simp;omega)
 unfold slV at htk;dsimp only at htk
 have Hsz:Hid _:=hsz;have HB2:Hid _:=hw2;have HBX:Hid _:=hbox;have HRS:Hid _:=hres;have HS2:Hid _:=hS2;clear hbox hS2 hsz hw2 hres;refine htk.mono ?_
 rintro e w3 ⟨rfl,hs3,hg3⟩
 have htk2:=qy b w.heap.size _ _ (w3.alloc (.cells #[.slice (some ⟨gb,0,none⟩) (n+1) (n+1),.slice q2.1 q2.2.1 q2.2.2] 71)) (hs3.up (qc _ _)) (by simp;omega)
 unfold slV at htk2;dsimp only at htk2
 have HG3:Hid _:=hg3;have HS3:Hid _:=hs3;clear htk hs3 hg3
 go_wp2_with fail
 refine htk2.mono ?_
 rintro e w4 ⟨rfl,hs4,hg4⟩
 have hz2:=Hsz.out;have hz3:=HG3.out.size;have hz4:=hg4.size;have hz4':w3.heap.size+1<=w4.heap.size:=by simpa using hz4
 have hbx3:=(HG3.out.block w.heap.size (by omega) (fun e=>by injection e with e;omega)).trans HBX.out
 have hbx4:=(hg4.block w.heap.size (by simp;omega) (fun e=>by injection e with e;omega)).trans ((Below.heap_alloc w3 (.cells #[.slice (some ⟨gb,0,none⟩) (n+1) (n+1),.slice q2.1 q2.2.1 q2.2.2] 71) _ (by omega)).trans hbx3)
 have hrs3:=(HG3.out.block (w.heap.size+1) (by omega) (fun e=>by injection e with e;omega)).trans HRS.out
 have hrs4:=(hg4.block (w.heap.size+1) (by simp;omega) (fun e=>by injection e with e;omega)).trans ((Below.heap_alloc w3 (.cells #[.slice (some ⟨gb,0,none⟩) (n+1) (n+1),.slice q2.1 q2.2.1 q2.2.2] 71) _ (by omega)).trans hrs3)
 have hvb4:=(hg4.block w3.heap.size (by simp) (fun e=>by injection e with e;omega)).trans (MapKept.heap_alloc w3 (.cells #[.slice (some ⟨gb,0,none⟩) (n+1) (n+1),.slice q2.1 q2.2.1 q2.2.2] 71)).1
 have hK:KeepT w.heap.size w w4:=by
  obtain⟨v0,hv0,_⟩:=HS2.out.c;obtain⟨v1,hv1,_⟩:=(HS3.out.up (qc w3 (.cells #[.slice (some ⟨gb,0,none⟩) (n+1) (n+1),.slice q2.1 q2.2.1 q2.2.2] 71))).c;exact(((KeepT.of_below HB2.out).trans (KeepT.of_grown HG3.out hv0 (by decide) (by decide) (by decide))).trans (KeepT.of_below (qc _ (.cells #[.slice (some ⟨gb,0,none⟩) (n+1) (n+1),.slice q2.1 q2.2.1 q2.2.2] 71)))).trans (KeepT.of_grown hg4 hv1 (by decide) (by decide) (by decide))
 have hbl:Below b w w4:=by
  have h1:Below b w2 w3:=⟨HG3.out.os,HG3.out.tape,HG3.out.output,HG3.out.size,fun k hk=>HG3.out.block k (by omega) (fun e=>by injection e with e;omega)⟩
  have h2:Below b (w3.alloc (.cells #[.slice (some ⟨gb,0,none⟩) (n+1) (n+1),.slice q2.1 q2.2.1 q2.2.2] 71)) w4:=⟨hg4.os,hg4.tape,hg4.output,hg4.size,fun k hk=>hg4.block k (by simp;omega) (fun e=>by injection e with e;omega)⟩
  exact(((HB2.out.mono (by omega)).trans h1).trans ((qc _ _).mono (by omega))).trans h2
 have KA:Hid (ValAt w4 ga av):=(hK _ _ _ _ HVA.out (Or.inl rfl)).trans HVA.out;have KBv:Hid (ValAt w4 gb bv):=(hK _ _ _ _ HVB.out (Or.inl rfl)).trans HVB.out;have KP:Hid (Parts w4 n b lo rest):=HPR.out.keep (hK.mono (by omega))
 have KB:=hiq hbl;have KS:Hid _:=hs4;have KR:Hid _:=hrs4;have cx:=qb ((Below.heap_alloc w4 (.cells #[.slice (some ⟨ga,0,none⟩) (n+1) (n+1),.slice p2.1 p2.2.1 p2.2.2] 71) _ (by omega)).trans hbx4) 0
 have cb0:=qb ((Below.heap_alloc w4 (.cells #[.slice (some ⟨ga,0,none⟩) (n+1) (n+1),.slice p2.1 p2.2.1 p2.2.2] 71) _ (by omega)).trans hvb4) 0
 have cb1:=qb ((Below.heap_alloc w4 (.cells #[.slice (some ⟨ga,0,none⟩) (n+1) (n+1),.slice p2.1 p2.2.1 p2.2.2] 71) _ (by omega)).trans hvb4) 1
 simp at cx cb0 cb1
 have hcl:=hcall (w4.alloc (.cells #[.slice (some ⟨ga,0,none⟩) (n+1) (n+1),.slice p2.1 p2.2.1 p2.2.2] 71)) (KA.out.up (qc _ _)) (KBv.out.up (qc _ _));have HZ:Hid (w.heap.size+2<=w4.heap.size):=by show _<=_;omega
 clear hbx3 hbx4 hrs3 hrs4 hvb4 hK hbl hs4 hg4 hz2 hz3 hz4 hz4' htk2 hcall HG3 HS3 HS2 HRS HBX HB2 Hsz HPR HVA HVB HS KA KBv
 go_wp2_with fail
 refine hcl.mono ?_
 rintro e w6 ⟨g,bs,rfl,hV,hl,hv,hb6,hge⟩
 have hr6:=(hb6.block (w.heap.size+1) (by have:=HZ.out;simp;omega)).trans ((Below.heap_alloc w4 (.cells #[.slice (some ⟨ga,0,none⟩) (n+1) (n+1),.slice p2.1 p2.2.1 p2.2.2] 71) _ (by have:=HZ.out;omega)).trans KR.out)
 have K6:=qd (qc w4 (.cells #[.slice (some ⟨ga,0,none⟩) (n+1) (n+1),.slice p2.1 p2.2.1 p2.2.2] 71)) hb6;have c0:=qb hr6 0;have c1:=qb hr6 1;have z0:=frozen_of_row _ _ 0 _ _ hr6;have z1:=frozen_of_row _ _ 1 _ _ hr6;simp at c0 c1
 have HR6:Hid _:=hr6
 have HF:Hid (WorkR n b w X rest (.returned (.agg #[.slice (some ⟨g,0,none⟩) (n+1) (n+1),.slice none 0 0])) ((w6.setCell ⟨w.heap.size+1,0,none⟩ (.slice (some ⟨g,0,none⟩) (n+1) (n+1))).setCell ⟨w.heap.size+1,1,none⟩ (.slice none 0 0))) :=
  qdS (KS.out.up K6) (KP.out.keep (KeepT.of_below K6)) hr6 (KB.out.trans (K6.mono (by have:=HZ.out;omega))) hV hl HTY.out (fun i hi=>(hv i hi).trans (HSEM.out i)) (by have:=HZ.out;have:=K6.size;omega) (by have:=HZ.out;simp at hge;omega)
 clear hge hV hl hv hb6 hr6 K6 hcl KS KP KR KB cx cb0 cb1;go_wp2;have f:=q1D HR6.out (.slice (some ⟨g,0,none⟩) (n+1) (n+1)) (.slice none 0 0);refine bodyPost_ret (v:=.agg #[.slice (some ⟨g,0,none⟩) (n+1) (n+1),.slice none 0 0]) (by simp[results,Tryz.results53,go_sem,f.1,f.2.1]) rfl ?_
 exact HF.out
theorem q46(oi:Int)(F:FuncId)(X x y:Sk)(P:(Nat->List Nat)->List Bool->Nat->Nat->Prop)(hF:F=81/\oi=17\/F=82/\oi=18)(b n c hi:Nat)(HC:∀(g gb:Nat) (rs:Nat->List Nat) (bv:List Bool) (w:World),EndAt w g (n+1) rs->ValAt w gb bv->bv.length=n+1->n<=10000->Calls Tryz.prog F #[.slice (some ⟨g,0,none⟩) (n+1) (n+1),.slice (some ⟨gb,0,none⟩) (n+1) (n+1)] w (ValR n (fun i=>P rs bv i (n+1)) w))(HX:X.1=false)(HSM:∀(rs:Nat->List Nat) (bv:List Bool),(∀i,i<=n->∀k,hasW (rs i) k=true↔x.2.2 i k)->(∀i,i<=n->(bv.getD i false=true↔y.2.1 i))->∀i,i<=n->(P rs bv i (n+1)↔X.2.1 i))(d:Option Addr)(px py:Mp)(rest:List (Sk×Mp))(w:World)(hn:n<=10000)(hS:StkAt w b w.heap.size ((((y,py)::(x,px)::rest).map (·.2)).reverse))(hP:Parts w n b hi ((y,py)::(x,px)::rest))(hh:hi<=w.heap.size)(hx:x.1=true)(hy:y.1=false)(hr:rest.length<=999999):
  Calls Tryz.prog 53 #[.pointer (some ⟨b,0,none⟩),.agg #[.int .u8 oi,.int .u8 0],.slice d n c] w (WorkR n b w X rest):=by
 obtain⟨lo2,hpy,hlo2,lo,hpx,hlo,hPr⟩:=hP;have hblo:=Parts.low hPr;obtain⟨p1,p2⟩:=px;obtain⟨q1,q2⟩:=py;rw[List.map_cons,List.reverse_cons,List.map_cons,List.reverse_cons]at hS;dsimp only at hS
 obtain⟨ga,rs,hp1,hEa,hva,hga1,hga2⟩:=hpx.1 hx;dsimp only at hp1
 subst hp1;obtain⟨gb,bv,hq1,hVb,hlb,hvb,_⟩:=hpy.2 hy;dsimp only at hq1
 subst hq1;have hw1:=qc w (.cells #[.int .u8 oi,.int .u8 0] 90);have hw2:=qd hw1 (qc (w.alloc (.cells #[.int .u8 oi,.int .u8 0] 90)) (.cells #[.slice none 0 0,.slice none 0 0] 71));have hbox:=(Below.heap_alloc (w.alloc (.cells #[.int .u8 oi,.int .u8 0] 90)) (.cells #[.slice none 0 0,.slice none 0 0] 71) w.heap.size (by simp)).trans (MapKept.heap_alloc w _).1
 have hres:=(MapKept.heap_alloc (w.alloc (.cells #[.int .u8 oi,.int .u8 0] 90)) (.cells #[.slice none 0 0,.slice none 0 0] 71)).1;have hsz:((w.alloc (.cells #[.int .u8 oi,.int .u8 0] 90)).alloc (.cells #[.slice none 0 0,.slice none 0 0] 71)).heap.size=w.heap.size+2:=by simp
 rw[show (w.alloc (.cells #[.int .u8 oi,.int .u8 0] 90)).heap.size=w.heap.size+1 by simp]at hres
 clear hw1;have HSEM:Hid (∀i,i<=n->(P rs bv i (n+1)↔X.2.1 i)):=HSM rs bv hva hvb;have hcall:=fun W (h1:EndAt W ga (n+1) rs) (h2:ValAt W gb bv)=>HC ga gb rs bv W h1 h2 hlb hn
 have HTY:=hiq HX;have hbB:=hS.lt;have HPR:=hiq hPr;have HVA:=hiq hEa;have HVB:=hiq hVb;have HS:Hid _:=hS;clear hS hPr hEa hVb hva hvb hlb hpx hpy HX;have ho:17<=oi/\oi<=18:=by omega
 have FF:∀k:Int,(k<17\/18<k)->(oi==k)=false:=fun k h=>by rw[bqn];omega
 have f0:=FF 0 (by decide)
 have f1:=FF 1 (by decide)
 have f2:=FF 2 (by decide)
 have f3:=FF 3 (by decide)
 have f4:=FF 4 (by decide)
 have f5:=FF 5 (by decide)
 have f6:=FF 6 (by decide)
 have f7:=FF 7 (by decide)
 have f8:=FF 8 (by decide)
 have f9:=FF 9 (by decide)
 have f10:=FF 10 (by decide)
 have f19:=FF 19 (by decide)
 have f20:=FF 20 (by decide)
 have f23:=FF 23 (by decide)
 have hs:F=81/\(oi==17)=true\/F=82/\(oi==17)=false/\(oi==18)=true:=by
  rcases hF with⟨h,e⟩|⟨h,e⟩
  ·exact Or.inl ⟨h,by rw[e];rfl⟩
  ·exact Or.inr ⟨h,by rw[e];rfl,by rw[e];rfl⟩
 clear FF ho hF HC HSM;rcases hs with⟨rfl,g1⟩|⟨rfl,g1,g2⟩
 all_goals
  go_enter Tryz.func53,Tryz.ntmps53
  go_wp2_with fail
  generalize (w.alloc (.cells #[.int .u8 oi,.int .u8 0] 90)).alloc (.cells #[.slice none 0 0,.slice none 0 0] 71)=w2 at *;have hS2:=HS.out.up hw2;have htk:=qy b w.heap.size _ _ w2 hS2 (by simp;omega)
  unfold slV at htk;dsimp only at htk
  have Hsz:Hid _:=hsz;have HB2:Hid _:=hw2;have HBX:Hid _:=hbox;have HRS:Hid _:=hres;have HS2:Hid _:=hS2;clear hbox hS2 hsz hw2 hres;refine htk.mono ?_
  rintro e w3 ⟨rfl,hs3,hg3⟩
  have htk2:=qy b w.heap.size _ _ (w3.alloc (.cells #[.slice (some ⟨gb,0,none⟩) (n+1) (n+1),.slice q2.1 q2.2.1 q2.2.2] 71)) (hs3.up (qc _ _)) (by simp;omega)
  unfold slV at htk2;dsimp only at htk2
  have HG3:Hid _:=hg3;have HS3:Hid _:=hs3;clear htk hs3 hg3
  go_wp2_with fail
  refine htk2.mono ?_
  rintro e w4 ⟨rfl,hs4,hg4⟩
  have hz2:=Hsz.out;have hz3:=HG3.out.size;have hz4:=hg4.size;have hz4':w3.heap.size+1<=w4.heap.size:=by simpa using hz4
  have hbx3:=(HG3.out.block w.heap.size (by omega) (fun e=>by injection e with e;omega)).trans HBX.out
  have hbx4:=(hg4.block w.heap.size (by simp;omega) (fun e=>by injection e with e;omega)).trans ((Below.heap_alloc w3 (.cells #[.slice (some ⟨gb,0,none⟩) (n+1) (n+1),.slice q2.1 q2.2.1 q2.2.2] 71) _ (by omega)).trans hbx3)
  have hrs3:=(HG3.out.block (w.heap.size+1) (by omega) (fun e=>by injection e with e;omega)).trans HRS.out
  have hrs4:=(hg4.block (w.heap.size+1) (by simp;omega) (fun e=>by injection e with e;omega)).trans ((Below.heap_alloc w3 (.cells #[.slice (some ⟨gb,0,none⟩) (n+1) (n+1),.slice q2.1 q2.2.1 q2.2.2] 71) _ (by omega)).trans hrs3)
  have hvb4:=(hg4.block w3.heap.size (by simp) (fun e=>by injection e with e;omega)).trans (MapKept.heap_alloc w3 (.cells #[.slice (some ⟨gb,0,none⟩) (n+1) (n+1),.slice q2.1 q2.2.1 q2.2.2] 71)).1
  have hK:KeepT w.heap.size w w4:=by
   obtain⟨v0,hv0,_⟩:=HS2.out.c;obtain⟨v1,hv1,_⟩:=(HS3.out.up (qc w3 (.cells #[.slice (some ⟨gb,0,none⟩) (n+1) (n+1),.slice q2.1 q2.2.1 q2.2.2] 71))).c;exact(((KeepT.of_below HB2.out).trans (KeepT.of_grown HG3.out hv0 (by decide) (by decide) (by decide))).trans (KeepT.of_below (qc _ (.cells #[.slice (some ⟨gb,0,none⟩) (n+1) (n+1),.slice q2.1 q2.2.1 q2.2.2] 71)))).trans (KeepT.of_grown hg4 hv1 (by decide) (by decide) (by decide))
  have hbl:Below b w w4:=by
   have h1:Below b w2 w3:=⟨HG3.out.os,HG3.out.tape,HG3.out.output,HG3.out.size,fun k hk=>HG3.out.block k (by omega) (fun e=>by injection e with e;omega)⟩
   have h2:Below b (w3.alloc (.cells #[.slice (some ⟨gb,0,none⟩) (n+1) (n+1),.slice q2.1 q2.2.1 q2.2.2] 71)) w4:=⟨hg4.os,hg4.tape,hg4.output,hg4.size,fun k hk=>hg4.block k (by simp;omega) (fun e=>by injection e with e;omega)⟩
   exact(((HB2.out.mono (by omega)).trans h1).trans ((qc _ _).mono (by omega))).trans h2
  have KA:Hid (EndAt w4 ga (n+1) rs):=HVA.out.keep (fun k c t z hc ht h1 h2=>hK k c t z hc (Or.inr ⟨ht,by omega⟩))
  have KBv:Hid (ValAt w4 gb bv):=(hK _ _ _ _ HVB.out (Or.inl rfl)).trans HVB.out;have KP:Hid (Parts w4 n b lo rest):=HPR.out.keep (hK.mono (by omega))
  have KB:=hiq hbl;have KS:Hid _:=hs4;have KR:Hid _:=hrs4;have cx:=qb ((Below.heap_alloc w4 (.cells #[.slice p1.1 p1.2.1 p1.2.2,.slice (some ⟨ga,0,none⟩) (n+1) (n+1)] 71) _ (by omega)).trans hbx4) 0
  have cb0:=qb ((Below.heap_alloc w4 (.cells #[.slice p1.1 p1.2.1 p1.2.2,.slice (some ⟨ga,0,none⟩) (n+1) (n+1)] 71) _ (by omega)).trans hvb4) 0
  have cb1:=qb ((Below.heap_alloc w4 (.cells #[.slice p1.1 p1.2.1 p1.2.2,.slice (some ⟨ga,0,none⟩) (n+1) (n+1)] 71) _ (by omega)).trans hvb4) 1
  simp at cx cb0 cb1
  have hcl:=hcall (w4.alloc (.cells #[.slice p1.1 p1.2.1 p1.2.2,.slice (some ⟨ga,0,none⟩) (n+1) (n+1)] 71)) (KA.out.up (qc _ _)) (KBv.out.up (qc _ _));have HZ:Hid (w.heap.size+2<=w4.heap.size):=by show _<=_;omega
  clear hbx3 hbx4 hrs3 hrs4 hvb4 hK hbl hs4 hg4 hz2 hz3 hz4 hz4' htk2 hcall HG3 HS3 HS2 HRS HBX HB2 Hsz HPR HVA HVB HS KA KBv
  go_wp2_with fail
  refine hcl.mono ?_
  rintro e w6 ⟨g,bs,rfl,hV,hl,hv,hb6,hge⟩
  have hr6:=(hb6.block (w.heap.size+1) (by have:=HZ.out;simp;omega)).trans ((Below.heap_alloc w4 (.cells #[.slice p1.1 p1.2.1 p1.2.2,.slice (some ⟨ga,0,none⟩) (n+1) (n+1)] 71) _ (by have:=HZ.out;omega)).trans KR.out)
  have K6:=qd (qc w4 (.cells #[.slice p1.1 p1.2.1 p1.2.2,.slice (some ⟨ga,0,none⟩) (n+1) (n+1)] 71)) hb6;have c0:=qb hr6 0;have c1:=qb hr6 1;have z0:=frozen_of_row _ _ 0 _ _ hr6;have z1:=frozen_of_row _ _ 1 _ _ hr6;simp at c0 c1
  have HR6:Hid _:=hr6
  have HF:Hid (WorkR n b w X rest (.returned (.agg #[.slice (some ⟨g,0,none⟩) (n+1) (n+1),.slice none 0 0])) ((w6.setCell ⟨w.heap.size+1,0,none⟩ (.slice (some ⟨g,0,none⟩) (n+1) (n+1))).setCell ⟨w.heap.size+1,1,none⟩ (.slice none 0 0))) :=
   qdS (KS.out.up K6) (KP.out.keep (KeepT.of_below K6)) hr6 (KB.out.trans (K6.mono (by have:=HZ.out;omega))) hV hl HTY.out (fun i hi=>(hv i hi).trans (HSEM.out i hi)) (by have:=HZ.out;have:=K6.size;omega) (by have:=HZ.out;simp at hge;omega)
  clear hge hV hl hv hb6 hr6 K6 hcl KS KP KR KB cx cb0 cb1;go_wp2;have f:=q1D HR6.out (.slice (some ⟨g,0,none⟩) (n+1) (n+1)) (.slice none 0 0);refine bodyPost_ret (v:=.agg #[.slice (some ⟨g,0,none⟩) (n+1) (n+1),.slice none 0 0]) (by simp[results,Tryz.results53,go_sem,f.1,f.2.1]) rfl ?_
  exact HF.out
theorem q71(b n c hi:Nat)(d:Option Addr)(zs:List Int)(x y:Sk)(px py:Mp)(rest:List (Sk×Mp))(w:World)(hL:LtSl w d n c zs)(hn:n<=10000)(hS:StkAt w b w.heap.size ((((y,py)::(x,px)::rest).map (·.2)).reverse))(hP:Parts w n b hi ((y,py)::(x,px)::rest))(hh:hi<=w.heap.size)(hx:x.1=true)(hy:y.1=true)(hJ:InW n y)(hr:rest.length<=999999):
  Calls Tryz.prog 53 #[.pointer (some ⟨b,0,none⟩),.agg #[.int .u8 21,.int .u8 0],.slice d n c] w (WorkR n b w (skT (zN zs) (21,0) [x,y]) rest):=by
 have hlen:(zN zs).length=n:=by rw[q1f];exact hL.sl.hlen
 obtain⟨lo2,hpy,hlo2,lo,hpx,hlo,hPr⟩:=hP;have hblo:=Parts.low hPr;obtain⟨p1,p2⟩:=px;obtain⟨q1,q2⟩:=py;rw[List.map_cons,List.reverse_cons,List.map_cons,List.reverse_cons]at hS;dsimp only at hS
 obtain⟨ga,rs,hp1,hEa,hva,hga1,hga2⟩:=hpx.1 hx;dsimp only at hp1
 subst hp1;obtain⟨gb,us,hq1,hEb,hvb,hgb1,hgb2⟩:=hpy.1 hy;dsimp only at hq1
 subst hq1;have hw1:=qc w (.cells #[.int .u8 21,.int .u8 0] 90);have hw2:=qd hw1 (qc (w.alloc (.cells #[.int .u8 21,.int .u8 0] 90)) (.cells #[.slice none 0 0,.slice none 0 0] 71));have hbox:=(Below.heap_alloc (w.alloc (.cells #[.int .u8 21,.int .u8 0] 90)) (.cells #[.slice none 0 0,.slice none 0 0] 71) w.heap.size (by simp)).trans (MapKept.heap_alloc w _).1
 have hres:=(MapKept.heap_alloc (w.alloc (.cells #[.int .u8 21,.int .u8 0] 90)) (.cells #[.slice none 0 0,.slice none 0 0] 71)).1;have hsz:((w.alloc (.cells #[.int .u8 21,.int .u8 0] 90)).alloc (.cells #[.slice none 0 0,.slice none 0 0] 71)).heap.size=w.heap.size+2:=by simp
 rw[show (w.alloc (.cells #[.int .u8 21,.int .u8 0] 90)).heap.size=w.heap.size+1 by simp]at hres
 clear hw1;have HSEM:Hid (∀i,i<=n->∀k,hasW (plusTo rs us (n+1) i) k=true↔(skT (zN zs) (21,0) [x,y]).2.2 i k):=qh5 hJ hva hvb hEa.ok hEb.ok;have hcall:=fun W (h1:EndAt W ga (n+1) rs) (h2:EndAt W gb (n+1) us)=>q9a ga gb (n+1) rs us W (by omega) h1 h2 (by omega)
 have HTY:Hid ((skT (zN zs) (21,0) [x,y]).1=true):=rfl;generalize skT (zN zs) (21,0) [x,y]=X at *;have hbB:=hS.lt;have HPR:=hiq hPr;have HVA:=hiq hEa;have HVB:=hiq hEb;have HS:Hid _:=hS;clear hS hPr hEa hEb hva hvb hL hpx hpy hlen;go_enter Tryz.func53,Tryz.ntmps53
 go_wp2_with fail
 generalize (w.alloc (.cells #[.int .u8 21,.int .u8 0] 90)).alloc (.cells #[.slice none 0 0,.slice none 0 0] 71)=w2 at *;have hS2:=HS.out.up hw2;have htk:=qy b w.heap.size _ _ w2 hS2 (by simp;omega)
 unfold slV at htk;dsimp only at htk
 have Hsz:Hid _:=hsz;have HB2:Hid _:=hw2;have HBX:Hid _:=hbox;have HRS:Hid _:=hres;have HS2:Hid _:=hS2;clear hbox hS2 hsz hw2 hres;refine htk.mono ?_
 rintro e w3 ⟨rfl,hs3,hg3⟩
 have htk2:=qy b w.heap.size _ _ (w3.alloc (.cells #[.slice q1.1 q1.2.1 q1.2.2,.slice (some ⟨gb,0,none⟩) (n+1) (n+1)] 71)) (hs3.up (qc _ _)) (by simp;omega)
 unfold slV at htk2;dsimp only at htk2
 have HG3:Hid _:=hg3;have HS3:Hid _:=hs3;clear htk hs3 hg3
 go_wp2_with fail
 refine htk2.mono ?_
 rintro e w4 ⟨rfl,hs4,hg4⟩
 have hz2:=Hsz.out;have hz3:=HG3.out.size;have hz4:=hg4.size;have hz4':w3.heap.size+1<=w4.heap.size:=by simpa using hz4
 have hbx3:=(HG3.out.block w.heap.size (by omega) (fun e=>by injection e with e;omega)).trans HBX.out
 have hbx4:=(hg4.block w.heap.size (by simp;omega) (fun e=>by injection e with e;omega)).trans ((Below.heap_alloc w3 (.cells #[.slice q1.1 q1.2.1 q1.2.2,.slice (some ⟨gb,0,none⟩) (n+1) (n+1)] 71) _ (by omega)).trans hbx3)
 have hrs3:=(HG3.out.block (w.heap.size+1) (by omega) (fun e=>by injection e with e;omega)).trans HRS.out
 have hrs4:=(hg4.block (w.heap.size+1) (by simp;omega) (fun e=>by injection e with e;omega)).trans ((Below.heap_alloc w3 (.cells #[.slice q1.1 q1.2.1 q1.2.2,.slice (some ⟨gb,0,none⟩) (n+1) (n+1)] 71) _ (by omega)).trans hrs3)
 have hvb4:=(hg4.block w3.heap.size (by simp) (fun e=>by injection e with e;omega)).trans (MapKept.heap_alloc w3 (.cells #[.slice q1.1 q1.2.1 q1.2.2,.slice (some ⟨gb,0,none⟩) (n+1) (n+1)] 71)).1
 have hK:KeepT w.heap.size w w4:=by
  obtain⟨v0,hv0,_⟩:=HS2.out.c;obtain⟨v1,hv1,_⟩:=(HS3.out.up (qc w3 (.cells #[.slice q1.1 q1.2.1 q1.2.2,.slice (some ⟨gb,0,none⟩) (n+1) (n+1)] 71))).c;exact(((KeepT.of_below HB2.out).trans (KeepT.of_grown HG3.out hv0 (by decide) (by decide) (by decide))).trans (KeepT.of_below (qc _ (.cells #[.slice q1.1 q1.2.1 q1.2.2,.slice (some ⟨gb,0,none⟩) (n+1) (n+1)] 71)))).trans (KeepT.of_grown hg4 hv1 (by decide) (by decide) (by decide))
 have hbl:Below b w w4:=by
  have h1:Below b w2 w3:=⟨HG3.out.os,HG3.out.tape,HG3.out.output,HG3.out.size,fun k hk=>HG3.out.block k (by omega) (fun e=>by injection e with e;omega)⟩
  have h2:Below b (w3.alloc (.cells #[.slice q1.1 q1.2.1 q1.2.2,.slice (some ⟨gb,0,none⟩) (n+1) (n+1)] 71)) w4:=⟨hg4.os,hg4.tape,hg4.output,hg4.size,fun k hk=>hg4.block k (by simp;omega) (fun e=>by injection e with e;omega)⟩
  exact(((HB2.out.mono (by omega)).trans h1).trans ((qc _ _).mono (by omega))).trans h2
 have KA:Hid (EndAt w4 ga (n+1) rs):=HVA.out.keep (fun k c t z hc ht h1 h2=>hK k c t z hc (Or.inr ⟨ht,by omega⟩))
 have KBv:Hid (EndAt w4 gb (n+1) us):=HVB.out.keep (fun k c t z hc ht h1 h2=>hK k c t z hc (Or.inr ⟨ht,by omega⟩))
 have KP:Hid (Parts w4 n b lo rest):=HPR.out.keep (hK.mono (by omega))
 have KB:=hiq hbl;have KS:Hid _:=hs4;have KR:Hid _:=hrs4;have cx:=qb ((Below.heap_alloc w4 (.cells #[.slice p1.1 p1.2.1 p1.2.2,.slice (some ⟨ga,0,none⟩) (n+1) (n+1)] 71) _ (by omega)).trans hbx4) 0
 have cb0:=qb ((Below.heap_alloc w4 (.cells #[.slice p1.1 p1.2.1 p1.2.2,.slice (some ⟨ga,0,none⟩) (n+1) (n+1)] 71) _ (by omega)).trans hvb4) 0
 have cb1:=qb ((Below.heap_alloc w4 (.cells #[.slice p1.1 p1.2.1 p1.2.2,.slice (some ⟨ga,0,none⟩) (n+1) (n+1)] 71) _ (by omega)).trans hvb4) 1
 simp at cx cb0 cb1
 have hcl:=hcall (w4.alloc (.cells #[.slice p1.1 p1.2.1 p1.2.2,.slice (some ⟨ga,0,none⟩) (n+1) (n+1)] 71)) (KA.out.up (qc _ _)) (KBv.out.up (qc _ _));have HZ:Hid (w.heap.size+2<=w4.heap.size):=by show _<=_;omega
 clear hbx3 hbx4 hrs3 hrs4 hvb4 hK hbl hs4 hg4 hz2 hz3 hz4 hz4' htk2 hcall HG3 HS3 HS2 HRS HBX HB2 Hsz HPR HVA HVB HS KA KBv
 go_wp2_with fail
 refine hcl.mono ?_
 rintro e w6 ⟨rfl,hE,ho6⟩
 have hr6:=(ho6.block (w.heap.size+1) (by have:=HZ.out;simp;omega) (Or.inr fun c z e=>by
  rw[(Below.heap_alloc w4 (.cells #[.slice p1.1 p1.2.1 p1.2.2,.slice (some ⟨ga,0,none⟩) (n+1) (n+1)] 71) _ (by have:=HZ.out;omega)).trans KR.out]at e
  injection e with e;injection e with _ e _;exact absurd e (by decide))).trans ((Below.heap_alloc w4 (.cells #[.slice p1.1 p1.2.1 p1.2.2,.slice (some ⟨ga,0,none⟩) (n+1) (n+1)] 71) _ (by have:=HZ.out;omega)).trans KR.out)
 have c0:=qb hr6 0;have c1:=qb hr6 1;have z0:=frozen_of_row _ _ 0 _ _ hr6;have z1:=frozen_of_row _ _ 1 _ _ hr6;simp at c0 c1
 have HR6:Hid _:=hr6
 have HF:Hid (WorkR n b w X rest (.returned (.agg #[.slice none 0 0,.slice (some ⟨ga,0,none⟩) (n+1) (n+1)])) ((w6.setCell ⟨w.heap.size+1,0,none⟩ (.slice none 0 0)).setCell ⟨w.heap.size+1,1,none⟩ (.slice (some ⟨ga,0,none⟩) (n+1) (n+1)))) :=
  q6h ((KS.out.up (qc _ (.cells #[.slice p1.1 p1.2.1 p1.2.2,.slice (some ⟨ga,0,none⟩) (n+1) (n+1)] 71))).only ho6) ((KP.out.keep (KeepT.of_below (qc _ (.cells #[.slice p1.1 p1.2.1 p1.2.2,.slice (some ⟨ga,0,none⟩) (n+1) (n+1)] 71)))).keep ((KeepT.of_only ho6).mono (by omega))) hr6 ((KB.out.trans ((qc _ (.cells #[.slice p1.1 p1.2.1 p1.2.2,.slice (some ⟨ga,0,none⟩) (n+1) (n+1)] 71)).mono (by have:=HZ.out;omega))).trans (ho6.below (by omega) (by have:=HZ.out;simp;omega))) hE HTY.out HSEM.out (by omega)
 clear hE ho6 hr6 hcl KS KP KR KB cx cb0 cb1;go_wp2;have f:=q1D HR6.out (.slice none 0 0) (.slice (some ⟨ga,0,none⟩) (n+1) (n+1));refine bodyPost_ret (v:=.agg #[.slice none 0 0,.slice (some ⟨ga,0,none⟩) (n+1) (n+1)]) (by simp[results,Tryz.results53,go_sem,f.1,f.2.1]) rfl ?_
 exact HF.out
theorem q72(b n c hi:Nat)(d:Option Addr)(zs:List Int)(x y:Sk)(px py:Mp)(rest:List (Sk×Mp))(w:World)(hL:LtSl w d n c zs)(hn:n<=10000)(hS:StkAt w b w.heap.size ((((y,py)::(x,px)::rest).map (·.2)).reverse))(hP:Parts w n b hi ((y,py)::(x,px)::rest))(hh:hi<=w.heap.size)(hx:x.1=true)(hy:y.1=true)(hI:InW n x)(hJ:InW n y)(hr:rest.length<=999999):
  Calls Tryz.prog 53 #[.pointer (some ⟨b,0,none⟩),.agg #[.int .u8 22,.int .u8 0],.slice d n c] w (WorkR n b w (skT (zN zs) (22,0) [x,y]) rest):=by
 have hlen:(zN zs).length=n:=by rw[q1f];exact hL.sl.hlen
 obtain⟨lo2,hpy,hlo2,lo,hpx,hlo,hPr⟩:=hP;have hblo:=Parts.low hPr;obtain⟨p1,p2⟩:=px;obtain⟨q1,q2⟩:=py;rw[List.map_cons,List.reverse_cons,List.map_cons,List.reverse_cons]at hS;dsimp only at hS
 obtain⟨ga,rs,hp1,hEa,hva,hga1,hga2⟩:=hpx.1 hx;dsimp only at hp1
 subst hp1;obtain⟨gb,us,hq1,hEb,hvb,hgb1,hgb2⟩:=hpy.1 hy;dsimp only at hq1
 subst hq1;have hw1:=qc w (.cells #[.int .u8 22,.int .u8 0] 90);have hw2:=qd hw1 (qc (w.alloc (.cells #[.int .u8 22,.int .u8 0] 90)) (.cells #[.slice none 0 0,.slice none 0 0] 71));have hbox:=(Below.heap_alloc (w.alloc (.cells #[.int .u8 22,.int .u8 0] 90)) (.cells #[.slice none 0 0,.slice none 0 0] 71) w.heap.size (by simp)).trans (MapKept.heap_alloc w _).1
 have hres:=(MapKept.heap_alloc (w.alloc (.cells #[.int .u8 22,.int .u8 0] 90)) (.cells #[.slice none 0 0,.slice none 0 0] 71)).1;have hsz:((w.alloc (.cells #[.int .u8 22,.int .u8 0] 90)).alloc (.cells #[.slice none 0 0,.slice none 0 0] 71)).heap.size=w.heap.size+2:=by simp
 rw[show (w.alloc (.cells #[.int .u8 22,.int .u8 0] 90)).heap.size=w.heap.size+1 by simp]at hres
 clear hw1;have HSEM:Hid (∀xs:Nat->List Nat,(∀i,i<n+1->SeqTo rs us i (n+1) (xs i))->∀i,i<=n->∀k,hasW (xs i) k=true↔(skT (zN zs) (22,0) [x,y]).2.2 i k):=fun xs hd=>qit hI hva hvb hd
 have hcall:=fun W (h1:EndAt W ga (n+1) rs) (h2:EndAt W gb (n+1) us)=>qb8 ga gb (n+1) rs us W (by omega) h1 h2 (fun j hj k hk=>(hJ j k (by omega) ((hvb j (by omega) k).1 hk)).1)
 have HTY:Hid ((skT (zN zs) (22,0) [x,y]).1=true):=rfl;generalize skT (zN zs) (22,0) [x,y]=X at *;have hbB:=hS.lt;have HPR:=hiq hPr;have HVA:=hiq hEa;have HVB:=hiq hEb;have HS:Hid _:=hS;clear hS hPr hEa hEb hva hvb hL hpx hpy hlen;go_enter Tryz.func53,Tryz.ntmps53
 go_wp2_with fail
 generalize (w.alloc (.cells #[.int .u8 22,.int .u8 0] 90)).alloc (.cells #[.slice none 0 0,.slice none 0 0] 71)=w2 at *;have hS2:=HS.out.up hw2;have htk:=qy b w.heap.size _ _ w2 hS2 (by simp;omega)
 unfold slV at htk;dsimp only at htk
 have Hsz:Hid _:=hsz;have HB2:Hid _:=hw2;have HBX:Hid _:=hbox;have HRS:Hid _:=hres;have HS2:Hid _:=hS2;clear hbox hS2 hsz hw2 hres;refine htk.mono ?_
 rintro e w3 ⟨rfl,hs3,hg3⟩
 have htk2:=qy b w.heap.size _ _ (w3.alloc (.cells #[.slice q1.1 q1.2.1 q1.2.2,.slice (some ⟨gb,0,none⟩) (n+1) (n+1)] 71)) (hs3.up (qc _ _)) (by simp;omega)
 unfold slV at htk2;dsimp only at htk2
 have HG3:Hid _:=hg3;have HS3:Hid _:=hs3;clear htk hs3 hg3
 go_wp2_with fail
 refine htk2.mono ?_
 rintro e w4 ⟨rfl,hs4,hg4⟩
 have hz2:=Hsz.out;have hz3:=HG3.out.size;have hz4:=hg4.size;have hz4':w3.heap.size+1<=w4.heap.size:=by simpa using hz4
 have hbx3:=(HG3.out.block w.heap.size (by omega) (fun e=>by injection e with e;omega)).trans HBX.out
 have hbx4:=(hg4.block w.heap.size (by simp;omega) (fun e=>by injection e with e;omega)).trans ((Below.heap_alloc w3 (.cells #[.slice q1.1 q1.2.1 q1.2.2,.slice (some ⟨gb,0,none⟩) (n+1) (n+1)] 71) _ (by omega)).trans hbx3)
 have hrs3:=(HG3.out.block (w.heap.size+1) (by omega) (fun e=>by injection e with e;omega)).trans HRS.out
 have hrs4:=(hg4.block (w.heap.size+1) (by simp;omega) (fun e=>by injection e with e;omega)).trans ((Below.heap_alloc w3 (.cells #[.slice q1.1 q1.2.1 q1.2.2,.slice (some ⟨gb,0,none⟩) (n+1) (n+1)] 71) _ (by omega)).trans hrs3)
 have hvb4:=(hg4.block w3.heap.size (by simp) (fun e=>by injection e with e;omega)).trans (MapKept.heap_alloc w3 (.cells #[.slice q1.1 q1.2.1 q1.2.2,.slice (some ⟨gb,0,none⟩) (n+1) (n+1)] 71)).1
 have hK:KeepT w.heap.size w w4:=by
  obtain⟨v0,hv0,_⟩:=HS2.out.c;obtain⟨v1,hv1,_⟩:=(HS3.out.up (qc w3 (.cells #[.slice q1.1 q1.2.1 q1.2.2,.slice (some ⟨gb,0,none⟩) (n+1) (n+1)] 71))).c;exact(((KeepT.of_below HB2.out).trans (KeepT.of_grown HG3.out hv0 (by decide) (by decide) (by decide))).trans (KeepT.of_below (qc _ (.cells #[.slice q1.1 q1.2.1 q1.2.2,.slice (some ⟨gb,0,none⟩) (n+1) (n+1)] 71)))).trans (KeepT.of_grown hg4 hv1 (by decide) (by decide) (by decide))
 have hbl:Below b w w4:=by
  have h1:Below b w2 w3:=⟨HG3.out.os,HG3.out.tape,HG3.out.output,HG3.out.size,fun k hk=>HG3.out.block k (by omega) (fun e=>by injection e with e;omega)⟩
  have h2:Below b (w3.alloc (.cells #[.slice q1.1 q1.2.1 q1.2.2,.slice (some ⟨gb,0,none⟩) (n+1) (n+1)] 71)) w4:=⟨hg4.os,hg4.tape,hg4.output,hg4.size,fun k hk=>hg4.block k (by simp;omega) (fun e=>by injection e with e;omega)⟩
  exact(((HB2.out.mono (by omega)).trans h1).trans ((qc _ _).mono (by omega))).trans h2
 have KA:Hid (EndAt w4 ga (n+1) rs):=HVA.out.keep (fun k c t z hc ht h1 h2=>hK k c t z hc (Or.inr ⟨ht,by omega⟩))
 have KBv:Hid (EndAt w4 gb (n+1) us):=HVB.out.keep (fun k c t z hc ht h1 h2=>hK k c t z hc (Or.inr ⟨ht,by omega⟩))
 have KP:Hid (Parts w4 n b lo rest):=HPR.out.keep (hK.mono (by omega))
 have KB:=hiq hbl;have KS:Hid _:=hs4;have KR:Hid _:=hrs4;have cx:=qb ((Below.heap_alloc w4 (.cells #[.slice p1.1 p1.2.1 p1.2.2,.slice (some ⟨ga,0,none⟩) (n+1) (n+1)] 71) _ (by omega)).trans hbx4) 0
 have cb0:=qb ((Below.heap_alloc w4 (.cells #[.slice p1.1 p1.2.1 p1.2.2,.slice (some ⟨ga,0,none⟩) (n+1) (n+1)] 71) _ (by omega)).trans hvb4) 0
 have cb1:=qb ((Below.heap_alloc w4 (.cells #[.slice p1.1 p1.2.1 p1.2.2,.slice (some ⟨ga,0,none⟩) (n+1) (n+1)] 71) _ (by omega)).trans hvb4) 1
 simp at cx cb0 cb1
 have hcl:=hcall (w4.alloc (.cells #[.slice p1.1 p1.2.1 p1.2.2,.slice (some ⟨ga,0,none⟩) (n+1) (n+1)] 71)) (KA.out.up (qc _ _)) (KBv.out.up (qc _ _));have HZ:Hid (w.heap.size+2<=w4.heap.size):=by show _<=_;omega
 clear hbx3 hbx4 hrs3 hrs4 hvb4 hK hbl hs4 hg4 hz2 hz3 hz4 hz4' htk2 hcall HG3 HS3 HS2 HRS HBX HB2 Hsz HPR HVA HVB HS KA KBv
 go_wp2_with fail
 refine hcl.mono ?_
 rintro e w6 ⟨rfl,⟨xs,hE,hd⟩,hb6⟩
 have hr6:=(hb6.block (w.heap.size+1) (by have:=HZ.out;simp;omega)).trans ((Below.heap_alloc w4 (.cells #[.slice p1.1 p1.2.1 p1.2.2,.slice (some ⟨ga,0,none⟩) (n+1) (n+1)] 71) _ (by have:=HZ.out;omega)).trans KR.out)
 have K6:=qd (qc w4 (.cells #[.slice p1.1 p1.2.1 p1.2.2,.slice (some ⟨ga,0,none⟩) (n+1) (n+1)] 71)) hb6;have c0:=qb hr6 0;have c1:=qb hr6 1;have z0:=frozen_of_row _ _ 0 _ _ hr6;have z1:=frozen_of_row _ _ 1 _ _ hr6;simp at c0 c1
 have HR6:Hid _:=hr6;have eg:(w4.alloc (.cells #[.slice p1.1 p1.2.1 p1.2.2,.slice (some ⟨ga,0,none⟩) (n+1) (n+1)] 71)).heap.size=w4.heap.size+1:=by simp
 rw[eg]at hE
 have HF:Hid (WorkR n b w X rest (.returned (.agg #[.slice none 0 0,.slice (some ⟨(w4.heap.size+1),0,none⟩) (n+1) (n+1)])) ((w6.setCell ⟨w.heap.size+1,0,none⟩ (.slice none 0 0)).setCell ⟨w.heap.size+1,1,none⟩ (.slice (some ⟨(w4.heap.size+1),0,none⟩) (n+1) (n+1)))) :=
  q6h (KS.out.up K6) (KP.out.keep (KeepT.of_below K6)) hr6 (KB.out.trans (K6.mono (by have:=HZ.out;omega))) hE HTY.out (HSEM.out _ hd) (by have:=HZ.out;omega)
 clear hE hd hb6 K6 hr6 hcl KS KP KR KB cx cb0 cb1;go_wp2;have f:=q1D HR6.out (.slice none 0 0) (.slice (some ⟨(w4.heap.size+1),0,none⟩) (n+1) (n+1));refine bodyPost_ret (v:=.agg #[.slice none 0 0,.slice (some ⟨(w4.heap.size+1),0,none⟩) (n+1) (n+1)]) (by simp[results,Tryz.results53,go_sem,f.1,f.2.1]) rfl ?_
 exact HF.out
theorem fit1{op:Nat}{q:Bool}(h:fitK op [q]=true)(h1:op≠23):q=false:=by
 unfold fitK at h;rw[if_neg h1]at h
 split at h
 ·cases q<;>simp at h
 ·split at h
  ·cases q<;>simp at h
  ·cases q<;>simp_all
theorem qdL{op p m:Nat}(h:takesN (op,p)=some m):(op<=5/\m=0/\(op≠2->p=0)/\p<=7)\/((6<=op/\op<=10\/op=19\/op=20\/op=23)/\m=1/\p=0)\/((11<=op/\op<=18\/op=21\/op=22)/\m=2/\p=0):=by
 unfold takesN at h;dsimp only at h
 split at h
 ·cases h
 ·next h0=>
  split at h
  ·cases h;exact Or.inl ⟨by omega,rfl,by omega,by omega⟩
  ·split at h
   ·cases h;exact Or.inr (Or.inl ⟨by omega,rfl,by omega⟩)
   ·cases h;exact Or.inr (Or.inr ⟨by omega,rfl,by omega⟩)
theorem q9e(b n c hi:Nat)(d:Option Addr)(zs:List Int)(op p:Nat)(l:List (Sk×Mp))(w:World)(hL:LtSl w d n c zs)(hn:n<=10000)(hS:StkAt w b w.heap.size ((l.map (·.2)).reverse))(hP:Parts w n b hi l)(hh:hi<=w.heap.size)(hl:l.length<=100000)(hok:OkAt n ((l.map (·.1)).reverse) (op,p)):
  ∃x rest,skStep (zN zs) ((l.map (·.1)).reverse) (op,p)=(rest.map (·.1)).reverse++[x]/\rest.length<=l.length/\Calls Tryz.prog 53 #[.pointer (some ⟨b,0,none⟩),.agg #[.int .u8 (op:Int),.int .u8 (p:Int)],.slice d n c] w (WorkR n b w x rest):=by
 obtain⟨m,hm,hml,hf,hin⟩:=hok;have ht:=q1S hm;rcases qdL hm with⟨h1,rfl,h3,h4⟩|⟨h1,rfl,rfl⟩|⟨h1,rfl,rfl⟩
 ·refine⟨skT (zN zs) (op,p) [],l,?_,nlr,?_⟩
  ·unfold skStep
   have:=qZ ((l.map (·.1)).reverse) [] 0 rfl
   rw[List.append_nil]at this;rw[ht,this.1,this.2]
  ·obtain rfl|rfl|rfl|rfl|rfl|rfl:op=0\/op=1\/op=2\/op=3\/op=4\/op=5:=by omega
   ·obtain rfl:=h3 (by decide)
    exact q1r 0 0 rfl (by decide) 0 b n c hi 0 d zs (fun w h=>q6V n c d zs w h hn) l w hL hS hP hh
   ·obtain rfl:=h3 (by decide)
    exact q1r 1 1 rfl (by decide) 0 b n c hi 0 d zs (fun w h=>q6W n c d zs w h hn) l w hL hS hP hh
   ·exact q1r 2 2 rfl (by decide) p b n c hi p d zs (fun w h=>q6X n c p d zs w h hn h4) l w hL hS hP hh
   ·obtain rfl:=h3 (by decide)
    exact q1r 3 3 rfl (by decide) 0 b n c hi 0 d zs (fun w h=>q6Y n c d zs w h hn) l w hL hS hP hh
   ·obtain rfl:=h3 (by decide)
    exact q1r 4 4 rfl (by decide) 0 b n c hi 0 d zs (fun w h=>q6Z n c d zs w h hn) l w hL hS hP hh
   ·obtain rfl:=h3 (by decide)
    exact q1r 5 5 rfl (by decide) 0 b n c hi 0 d zs (fun w h=>q70 n c d zs w h hn) l w hL hS hP hh
 ·obtain⟨⟨x,px⟩,rest,rfl⟩:∃q rest,l=q::rest:=by
   cases l with
   |nil=>simp at hml
   |cons q r=>exact⟨q,r,rfl⟩
  have hd:=qZ ((rest.map (·.1)).reverse) [x] 1 rfl;have e0:(((x,px)::rest).map (·.1)).reverse=(rest.map (·.1)).reverse++[x]:=by simp
  rw[e0]at hf hin ⊢;refine⟨skT (zN zs) (op,0) [x],rest,?_,by simp,?_⟩
  ·unfold skStep
   rw[ht,hd.1,hd.2]
  ·rw[hd.1]at hf
   have hI:InW n x:=hin x (by simp)
   have hr:rest.length<=1000000:=by simp at hl;omega
   obtain rfl|rfl|rfl|rfl|rfl|rfl|rfl|rfl:op=6\/op=7\/op=8\/op=9\/op=10\/op=19\/op=20\/op=23:=by omega
   ·exact q1P 6 6 rfl (by decide) (by decide) b n c hi (q96 n) d zs x px rest w hL hn hS hP hh (fit1 hf (by decide)) hr
   ·exact q1P 7 7 rfl (by decide) (by decide) b n c hi (q97 n) d zs x px rest w hL hn hS hP hh (fit1 hf (by decide)) hr
   ·exact q1P 8 8 rfl (by decide) (by decide) b n c hi (q98 n) d zs x px rest w hL hn hS hP hh (fit1 hf (by decide)) hr
   ·exact q1P 9 9 rfl (by decide) (by decide) b n c hi (q99 n) d zs x px rest w hL hn hS hP hh (fit1 hf (by decide)) hr
   ·exact q1P 10 10 rfl (by decide) (by decide) b n c hi (q7R n) d zs x px rest w hL hn hS hP hh (fit1 hf (by decide)) hr
   ·exact q45 19 _ _ x stpF (Or.inl ⟨rfl,rfl⟩) b n c hi (fun ga av w h1 h2=>q9c ga (n+1) av w (by omega) h1 h2) rfl (fun av rs h1 h2=>qh7 (by rw[q1f];exact hL.sl.hlen) h1 h2) d px rest w hS hP hh (fit1 hf (by decide)) hr
   ·exact q45 20 _ _ x tstF (Or.inr ⟨rfl,rfl⟩) b n c hi (fun ga av w h1 h2=>q9d ga (n+1) av w (by omega) h1 h2) rfl (fun av rs h1 h2=>qh8 h1 h2) d px rest w hS hP hh (fit1 hf (by decide)) hr
   ·exact q73 b n c hi d zs x px rest w hL hn hS hP hh (by have:=hf;simpa [fitK] using this) hI hr
 ·obtain⟨⟨y,py⟩,⟨x,px⟩,rest,rfl⟩:∃q q' rest,l=q::q'::rest:=by
   match l,hml with
   | [],h=>simp at h
   | [_],h=>simp at h
   |q::q'::r,_=>exact⟨q,q',r,rfl⟩
  have hd:=qZ ((rest.map (·.1)).reverse) [x,y] 2 rfl;have e0:(((y,py)::(x,px)::rest).map (·.1)).reverse=(rest.map (·.1)).reverse++[x,y]:=by simp
  rw[e0]at hf hin ⊢;refine⟨skT (zN zs) (op,0) [x,y],rest,?_,by simp;omega,?_⟩
  ·unfold skStep
   rw[ht,hd.1,hd.2]
  ·rw[hd.1]at hf
   have hI:InW n x:=hin x (by simp)
   have hJ:InW n y:=hin y (by simp)
   have hr:rest.length<=999999:=by simp at hl;omega
   obtain rfl|rfl|rfl|rfl|rfl|rfl|rfl|rfl|rfl|rfl:op=11\/op=12\/op=13\/op=14\/op=15\/op=16\/op=17\/op=18\/op=21\/op=22:=by omega
   ·have hk:x.1=false/\y.1=false:=by have:=hf;simpa [fitK] using this
    exact q1q 11 11 rfl (by decide) (by decide) b n c hi (q7T n) d zs x y px py rest w hL hn hS hP hh hk.1 hk.2 hr
   ·have hk:x.1=false/\y.1=false:=by have:=hf;simpa [fitK] using this
    exact q1q 12 12 rfl (by decide) (by decide) b n c hi (q7U n) d zs x y px py rest w hL hn hS hP hh hk.1 hk.2 hr
   ·have hk:x.1=false/\y.1=false:=by have:=hf;simpa [fitK] using this
    exact q1q 13 13 rfl (by decide) (by decide) b n c hi (q7V n) d zs x y px py rest w hL hn hS hP hh hk.1 hk.2 hr
   ·have hk:x.1=false/\y.1=false:=by have:=hf;simpa [fitK] using this
    exact q1q 14 14 rfl (by decide) (by decide) b n c hi (q7W n) d zs x y px py rest w hL hn hS hP hh hk.1 hk.2 hr
   ·have hk:x.1=false/\y.1=false:=by have:=hf;simpa [fitK] using this
    exact q1q 15 15 rfl (by decide) (by decide) b n c hi (q7X n) d zs x y px py rest w hL hn hS hP hh hk.1 hk.2 hr
   ·have hk:x.1=false/\y.1=false:=by have:=hf;simpa [fitK] using this
    exact q1q 16 16 rfl (by decide) (by decide) b n c hi (q7Y n) d zs x y px py rest w hL hn hS hP hh hk.1 hk.2 hr
   ·have hk:x.1=true/\y.1=false:=by have:=hf;simpa [fitK] using this
    exact q46 17 _ _ x y someP (Or.inl ⟨rfl,rfl⟩) b n c hi (q6z n) rfl (fun rs bv h1 h2=>qis hI h1 h2) d px py rest w hn hS hP hh hk.1 hk.2 hr
   ·have hk:x.1=true/\y.1=false:=by have:=hf;simpa [fitK] using this
    exact q46 18 _ _ x y everyP (Or.inr ⟨rfl,rfl⟩) b n c hi (q5Q n) rfl (fun rs bv h1 h2=>qir hI h1 h2) d px py rest w hn hS hP hh hk.1 hk.2 hr
   ·have hk:x.1=true/\y.1=true:=by have:=hf;simpa [fitK] using this
    exact q71 b n c hi d zs x y px py rest w hL hn hS hP hh hk.1 hk.2 hJ hr
   ·have hk:x.1=true/\y.1=true:=by have:=hf;simpa [fitK] using this
    exact q72 b n c hi d zs x y px py rest w hL hn hS hP hh hk.1 hk.2 hI hJ hr
theorem q8L{w:World}{ops:Array Oper}{rest:List Oper}{o:Oper}{a:Act}{Q:Exit->Act->World->Prop}(hgd:o.guard=none)(s x:Operand)
  (ho:o.op=.call { callee:=.builtin .append,args:=#[s,x],argTypes:=#[99,99] }) (base:Nat)
  (v:Value) (st:List Mp) (hs:a.eval s=v) (hown:w.ownsRow base 71 2 v st.length (encS st)) (g:Nat) (p:Mp) (hx:a.eval x=.slice (some ⟨g,0,none⟩) 1 1) (hB:w.heap[g]? =some (.cells #[slV p.1,slV p.2] 71 (0,0)))
  (hn:st.length<=1000000) (hbase:base<=w.heap.size)
  (h:∀v' w',w'.ownsRow base 71 2 v' (st.length+1) (encS (st++[p]))->w.grownBy w' v.ownBlock->wpList Tryz.prog ops Q rest (a.put o.dst v') w'):wpList Tryz.prog ops Q (o::rest) a w:=by
 obtain⟨i,hi,hz0,hz1,hz2⟩:=info_parts qdb;refine wpList_append_own w hgd s x 99 ho base 71 i _ 2 48 Tryz.underlying99 hi hz0 hz1 hz2 rfl (by decide) v st.length _ hs hown ⟨g,0,none⟩ 1 1 [slV p.1,slV p.2] hx rfl (fun j u hj=>?_) (fun u hu=>qgn [p] u (by simpa [encS] using hu)) (by unfold maxLen;omega) (by omega) hbase ?_
 ·rw[qg,Nat.zero_add,qb hB];simpa using hj
 ·intro v' w' h1 h2 _
  exact h v' w' (by rw[q4k];simpa [encS] using h1) h2
structure Good (t:List Nat) (ts:List Tk) (x:Sk):Prop where
 few:ts.length<=512
 ok:∀k (h:k<ts.length),OkAt t.length (skS t (ts.take k) []) ts[k]
 fin:skS t ts []=[x]
theorem PartOk.low{w:World}{n b b' lo hi:Nat}{x:Sk}{p:Mp}(h:PartOk w n b x p lo hi)(hb:b'<=b):PartOk w n b' x p lo hi:=⟨h.1,fun hx=>by
 obtain⟨g,bs,h1,h2,h3,h4,h5⟩:=h.2 hx;exact⟨g,bs,h1,h2,h3,h4,Nat.le_trans hb h5⟩⟩
def WholeR (n:Nat) (x:Sk) (w:World) (e:Ending) (w':World):Prop:=∃p lo hi,e=.returned (.agg #[slV p.1,slV p.2])/\PartOk w' n w.heap.size x p lo hi/\w.heap.size<=lo/\Below w.heap.size w w'
theorem KeepT.of_grownO{G:Nat}{w w':World}{v:Value}{n m:Nat}{xs:List Value}(h:w.grownBy w' v.ownBlock)(ho:w.ownsRow m 71 2 v n xs):KeepT G w w':=fun k c t z hc ht=>
 h.block k (aes hc).1 fun e=>by
  rcases ho.2 with⟨rfl,_⟩|⟨g,cap,cur,rfl,_,hcell,_⟩
  ·cases e
  ·injection e with e
   dsimp only at e
   subst e;rw[hcell]at hc;injection hc with hc;injection hc with _ hc _;subst hc;rcases ht with ht|⟨ht|ht,_⟩<;>exact absurd ht (by decide)
theorem KeepT.of_set{G b:Nat}{w:World}{c0:Array Value}{z0:Nat×Nat}(hj:w.heap[b]? =some (.cells c0 99 z0))(i:Nat)(u:Value):KeepT G w (w.setCell ⟨b,i,none⟩ u) :=
 KeepT.of_grown (j:=b) ⟨rfl,rfl,rfl,by simp[World.setCell],fun k _ hne=>Below.heap_setCell _ _ _ _ (fun e=>hne (congrArg some e))⟩ hj (by decide) (by decide) (by decide)
theorem q7Z(a:Option Addr)(len cap:Nat)(ts:List Tk)(n c:Nat)(d:Option Addr)(zs:List Int)(x:Sk)(w:World)(hT:TkSl w a len cap ts)(hL:LtSl w d n c zs)(hn:n<=10000)(hG:Good (zN zs) ts x):
  Calls Tryz.prog 31 #[.slice a len cap,.slice d n c] w (WholeR n x w):=by
 have hlen:=hT.hlen;have hzl:(zN zs).length=n:=by rw[q1f];exact hL.sl.hlen
 have hl5:=hG.few;have HT:=hiq hT;have HL:=hiq hL;have HG:=hiq hG;have hw2:=qd (qc w (.cells #[.slice none 0 0,.slice none 0 0] 71)) (qc (w.alloc (.cells #[.slice none 0 0,.slice none 0 0] 71)) (.cells #[.slice none 0 0] 99));have hres:=(Below.heap_alloc (w.alloc (.cells #[.slice none 0 0,.slice none 0 0] 71)) (.cells #[.slice none 0 0] 99) w.heap.size (by simp)).trans (MapKept.heap_alloc w _).1
 have hstk:=(MapKept.heap_alloc (w.alloc (.cells #[.slice none 0 0,.slice none 0 0] 71)) (.cells #[.slice none 0 0] 99)).1;have hsz:((w.alloc (.cells #[.slice none 0 0,.slice none 0 0] 71)).alloc (.cells #[.slice none 0 0] 99)).heap.size=w.heap.size+2:=by simp
 rw[show (w.alloc (.cells #[.slice none 0 0,.slice none 0 0] 71)).heap.size=w.heap.size+1 by simp]at hstk
 clear hT hL hG;go_enter Tryz.func31,Tryz.ntmps31
 go_wp2;generalize (w.alloc (.cells #[.slice none 0 0,.slice none 0 0] 71)).alloc (.cells #[.slice none 0 0] 99)=w2 at *;have HB2:=hiq hw2;have HS0:Hid (StkAt w2 (w.heap.size+1) w2.heap.size []):=⟨⟨.slice none 0 0,hstk,⟨rfl,Or.inl ⟨rfl,rfl⟩⟩,fun k hk=>by cases hk⟩,by omega⟩
 have HR:Hid _:=hres;have Hsz:Hid _:=hsz;clear hw2 hres hstk hsz
 go_loopw [11] (fun i wr=>∃k:Nat,k<=len/\i=.int .i64 k/\(∃l:List (Sk×Mp),Hid (StkAt wr (w.heap.size+1) wr.heap.size ((l.map (·.2)).reverse))/\Hid (Parts wr n (w.heap.size+1) wr.heap.size l)/\Hid ((l.map (·.1)).reverse=skS (zN zs) (ts.take k) [])/\Hid (l.length<=k))/\Hid (Below (w.heap.size+1) w2 wr)) (fun i _=>len-(intOf i).toNat)
 case atStart=>exact⟨0,Nat.zero_le _,rfl,⟨[],HS0,by show Parts _ _ _ _ _;have:=Hsz.out;unfold Parts;omega,rfl,nlr⟩,Below.refl _ _⟩
 case round=>
  obtain⟨k,hk,rfl,⟨l,HS,HP,HE,HLL⟩,HW⟩:=hrel;clear HS0;have hszr:=HW.out.size;have hsz2:=Hsz.out;have HWW:Hid (Below w.heap.size w wr):=HB2.out.trans (HW.out.mono (by omega))
  by_cases hlt:k<len
  ·obtain⟨g1,o1,s1,hi1,hx0,hx1,hg1,_⟩:=(HT.out.up HWW.out).at Tryz.underlying22 q1G k hlt
   have hidx:=fun w'=>hi1 len w' hlt
   clear hi1;have hxl:k<ts.length:=by omega
   have hok:=HG.out.ok k hxl;have HNX:Hid (skS (zN zs) (ts.take (k+1)) []=skStep (zN zs) (skS (zN zs) (ts.take k) []) ts[k]):=qhb _ hxl _;rw[<-HE.out]at hok HNX;rw[hzl]at hok;generalize ts[k]=q at *;obtain⟨op,p⟩:=q;dsimp only at hx0 hx1
   have hb1:=qc wr (.cells #[.int .u8 (op:Int),.int .u8 (p:Int)] 90);have hll:=HLL.out;obtain⟨y,rest,hst,hrl,hcall⟩:=q9e (w.heap.size+1) n c wr.heap.size d zs op p l (wr.alloc (.cells #[.int .u8 (op:Int),.int .u8 (p:Int)] 90)) ((HL.out.up HWW.out).up hb1) hn ((HS.out.up hb1).size) (HP.out.keep (KeepT.of_below hb1)) hb1.size (by omega) hok
   have HST:Hid _:=hst;have HRL:Hid _:=hrl;have hz1:(wr.alloc (.cells #[.int .u8 (op:Int),.int .u8 (p:Int)] 90)).heap.size=wr.heap.size+1:=by simp
   clear hst hrl hok HS HP
   go_wp2_with fail
   have HB1:Hid _:=hb1;clear hb1 hx0 hx1 hidx;generalize wr.alloc (.cells #[.int .u8 (op:Int),.int .u8 (p:Int)] 90)=w3 at *;refine hcall.mono ?_
   rintro e w4 ⟨pv,rfl,hs4,hp4,hb4⟩
   obtain⟨⟨xa,xl,xc⟩,⟨ya,yl,yc⟩⟩:=pv;obtain⟨v,hr4,ho4,_⟩:=hs4.c;obtain⟨va,vc,rfl⟩:=qfK ho4;have hbl4:w.heap.size+1<w4.heap.size:=(aes hr4).1
   have hz4:=hb4.size;rw[hz1]at hz4;have hlr:=HRL.out;have HRS:Hid (((((y,((xa,xl,xc),(ya,yl,yc)))::rest).map (·.2)).reverse:List Mp)=(rest.map (·.2)).reverse++[((xa,xl,xc),(ya,yl,yc))]):=by show _=_;simp
   have HLE:Hid (((rest.map (·.2)).reverse:List Mp).length=rest.length):=by show _=_;simp
   have HPt:=hiq hp4;have hll3:((rest.map (·.2)).reverse:List Mp).length<=1000:=by rw[HLE.out];omega
   have hz4':=hb4.size;have HW4:Hid (Below (w.heap.size+1) w2 w4):=(HW.out.trans (HB1.out.mono (by omega))).trans hb4
   generalize hst:((rest.map (·.2)).reverse:List Mp)=st at *;have HST2:=hiq hst;clear hst;have hb5:=qc w4 (.cells #[.slice xa xl xc,.slice ya yl yc] 71);have hb6:=qd hb5 (qc (w4.alloc (.cells #[.slice xa xl xc,.slice ya yl yc] 71)) (.cells #[.slice xa xl xc,.slice ya yl yc] 71));have cb5:=qb ((hb5.block (w.heap.size+1) (by omega)).trans hr4) 0
   simp at cb5
   have hO6:=q1b ho4 hb6;have hB6:=(MapKept.heap_alloc (w4.alloc (.cells #[.slice xa xl xc,.slice ya yl yc] 71)) (.cells #[.slice xa xl xc,.slice ya yl yc] 71)).1;rw[show (w4.alloc (.cells #[.slice xa xl xc,.slice ya yl yc] 71)).heap.size=w4.heap.size+1 by simp]at hB6
   have hR6:=(hb6.block (w.heap.size+1) (by omega)).trans hr4
   have hz6:((w4.alloc (.cells #[.slice xa xl xc,.slice ya yl yc] 71)).alloc (.cells #[.slice xa xl xc,.slice ya yl yc] 71)).heap.size=w4.heap.size+2:=by simp
   have HO6:Hid _:=hO6;have HB6:Hid _:=hB6;have HR6:Hid _:=hR6;have Hb6:Hid _:=hb6;have Hz6:Hid _:=hz6;have HGE:Hid (∀j,(Value.slice va st.length vc).ownBlock=some j->w.heap.size+1+1<=j):=q3o ho4;unfold slV;clear hO6 hB6 hR6 hb6 hz6 ho4 hr4 hs4 hp4 hb4 hb5 hcall;dsimp only
   go_wp2_with (at_builtin;refine q8L rfl _ _ rfl (w.heap.size+1+1) _ st rfl HO6.out (w4.heap.size+1) ((xa,xl,xc),(ya,yl,yc)) rfl HB6.out (by omega) (by rw[Hz6.out];omega) ?_)
   intro v7 w7 hown7 hgr7;obtain⟨va7,vc7,rfl⟩:=qfK hown7;have hR7:=(hgr7.block (w.heap.size+1) (by rw[Hz6.out];omega) (fun e=>by have:=HGE.out _ e.symm;omega)).trans HR6.out
   have cb7:=qb hR7 0;have zb7:=frozen_of_row _ _ 0 _ _ hR7;simp at cb7
   have HFIN:Hid (StkAt (w7.setCell ⟨w.heap.size+1,0,none⟩ (.slice va7 (st.length+1) vc7)) (w.heap.size+1) (w7.setCell ⟨w.heap.size+1,0,none⟩ (.slice va7 (st.length+1) vc7)).heap.size (st++[((xa,xl,xc),(ya,yl,yc))])/\Parts (w7.setCell ⟨w.heap.size+1,0,none⟩ (.slice va7 (st.length+1) vc7)) n (w.heap.size+1) (w7.setCell ⟨w.heap.size+1,0,none⟩ (.slice va7 (st.length+1) vc7)).heap.size ((y,((xa,xl,xc),(ya,yl,yc)))::rest)/\Below (w.heap.size+1) w2 (w7.setCell ⟨w.heap.size+1,0,none⟩ (.slice va7 (st.length+1) vc7))):=by
    have hK:KeepT w4.heap.size w4 (w7.setCell ⟨w.heap.size+1,0,none⟩ (.slice va7 (st.length+1) vc7)):=((KeepT.of_below Hb6.out).trans (KeepT.of_grownO hgr7 HO6.out)).trans (KeepT.of_set hR7 0 _);have hsS:(w7.setCell ⟨w.heap.size+1,0,none⟩ (.slice va7 (st.length+1) vc7)).heap.size=w7.heap.size:=by simp[World.setCell]
    have hsz7:=hgr7.size;rw[Hz6.out]at hsz7;refine⟨?_,(HPt.out.keep hK).mono (by omega),?_⟩
    ·have hfin:StkAt (w7.setCell ⟨w.heap.size+1,0,none⟩ (.slice va7 (st.length+1) vc7)) (w.heap.size+1) (w7.setCell ⟨w.heap.size+1,0,none⟩ (.slice va7 (st.length+1) vc7)).heap.size (st++[((xa,xl,xc),(ya,yl,yc))]):=by
      refine⟨⟨.slice va7 (st.length+1) vc7,?_,?_,fun j hj=>?_⟩,by omega⟩
      ·rw[heap_setCell_same _ _ 0 _ _ _ hR7];rfl
      ·have h8:(w7.setCell ⟨w.heap.size+1,0,none⟩ (.slice va7 (st.length+1) vc7)).ownsRow (w.heap.size+1+1) 71 2 (.slice va7 (st.length+1) vc7) (st.length+1) (encS (st++[((xa,xl,xc),(ya,yl,yc))])):=qgT hown7 (by dsimp only;omega) _
       rw[List.length_append];exact h8
      ·rcases hown7.2 with⟨e,_⟩|⟨g,cap,cur,e,_,hcell,_⟩
       ·rw[e]at hj;cases hj
       ·rw[e]at hj
        injection hj with hj;dsimp only at hj
        subst hj;rw[hsS];exact(aes hcell).1
     exact hfin
    ·have h9:Below (w.heap.size+1) w2 w7:=(HW4.out.trans (Hb6.out.mono (by omega))).grown hgr7 (by rw[Hz6.out];omega) (fun j e=>by have:=HGE.out _ e;omega)
     exact h9.setCell (by dsimp only;omega) _
   clear hown7 hgr7 hR7;go_wp2
   go_roundw
   case rel=>
    refine⟨k+1,by omega,by go_num,⟨(y,((xa,xl,xc),(ya,yl,yc)))::rest,?_,HFIN.out.2.1,?_,?_⟩,HFIN.out.2.2⟩
    ·show StkAt _ _ _ _
     rw[HRS.out];exact HFIN.out.1
    ·show _=_
     rw[HNX.out,HST.out];simp
    ·show _<=_
     simp;omega
   case measure=>simp[intOf]<;>omega
  ·obtain rfl:k=len:=by omega
   have he:=HE.out;rw[List.take_of_length_le (by omega),HG.out.fin]at he
   obtain⟨⟨x',p⟩,rfl⟩:∃q,l=[q]:=by
    match l,he with
    | [],h=>simp at h
    | [q],_=>exact⟨q,rfl⟩
    |_::_::_,h=>have:=congrArg List.length h;simp at this
   obtain rfl:x'=x:=by simpa using he
   obtain⟨⟨xa,xl,xc⟩,⟨ya,yl,yc⟩⟩:=p;have hS:=HS.out;have htk:=qy (w.heap.size+1) wr.heap.size [] ((xa,xl,xc),(ya,yl,yc)) wr (by simpa using hS) (by simp)
   obtain⟨lo,hpo,hlo,hlo2⟩:=HP.out;have hlo3:w.heap.size+1<lo:=hlo2;have hrr:=(HW.out.block w.heap.size (by omega)).trans HR.out
   have HPO:=hiq hpo;have HRR:Hid _:=hrr;have HSS:Hid _:=hS;clear hpo hrr hS HS HP HE he;unfold slV at htk;dsimp only at htk
   go_wp2_with fail
   refine htk.mono ?_
   rintro e w3 ⟨rfl,hs3,hg3⟩
   have hr3:=(hg3.block w.heap.size (by omega) (fun e=>by injection e with e;omega)).trans HRR.out
   have c0:=qb hr3 0;have c1:=qb hr3 1;have z0:=frozen_of_row _ _ 0 _ _ hr3;have z1:=frozen_of_row _ _ 1 _ _ hr3;simp at c0 c1
   have HR3:Hid _:=hr3
   have HF:Hid (WholeR n x' w (.returned (.agg #[.slice xa xl xc,.slice ya yl yc])) ((w3.setCell ⟨w.heap.size,0,none⟩ (.slice xa xl xc)).setCell ⟨w.heap.size,1,none⟩ (.slice ya yl yc))):=by
    obtain⟨v0,hv0,_⟩:=HSS.out.c;have hK:KeepT wr.heap.size wr ((w3.setCell ⟨w.heap.size,0,none⟩ (.slice xa xl xc)).setCell ⟨w.heap.size,1,none⟩ (.slice ya yl yc)):=(KeepT.of_grown hg3 hv0 (by decide) (by decide) (by decide)).trans (KeepT.of_grown (qB ..) hr3 (by decide) (by decide) (by decide))
    refine⟨((xa,xl,xc),(ya,yl,yc)),lo,wr.heap.size,rfl,(PartOk.keep HPO.out hK).low (by omega),by omega,?_⟩
    have h1:Below w.heap.size w w3:=HWW.out.trans ⟨hg3.os,hg3.tape,hg3.output,hg3.size,fun k hk=>hg3.block k (by omega) (fun e=>by injection e with e;omega)⟩
    exact(h1.setCell nlr _).setCell nlr _
   clear hs3 hg3 hr3 htk;go_wp2;have f:=q1D HR3.out (.slice xa xl xc) (.slice ya yl yc);refine bodyPost_ret (v:=.agg #[.slice xa xl xc,.slice ya yl yc]) (by simp[results,Tryz.results31,go_sem,f.1,f.2.1]) rfl ?_
   exact HF.out
def EntersM (F:FuncId):Prop:=∀args w,(callFunc F args).run Tryz.prog w=.ok (.enter F args) w
def refM (ts:List Tk) (want:Nat) (zs:List Int):Int:=if lookE ts want=0 then trE zs else (lookE ts want:Int)
theorem qb7(F:FuncId)(want:Nat)(hE:EntersM F)(hF:∀a len cap ts w,TkSl w a len cap ts->Calls Tryz.prog F #[.slice a len cap] w fun e w'=>e=.returned (.int .i64 (lookE ts want:Int))/\Below w.heap.size w w')
  (a:Option Addr) (len cap:Nat) (ts:List Tk) (d:Option Addr) (m c:Nat) (zs:List Int) (w:World) (hT:TkSl w a len cap ts) (hL:LtSl w d m c zs):
  Calls Tryz.prog 30 #[.slice a len cap,.slice d m c,.func (.func F) #[] #[]] w fun e w'=>e=.returned (.int .i64 (refM ts want zs))/\Below w.heap.size w w':=by
 have h1:=hF a len cap ts w hT;have h2:=fun w' (h:Below w.heap.size w w')=>q7S d m c zs w' (hL.up h)
 unfold EntersM at hE;unfold refM;clear hF hT hL;generalize trE zs=T at *;generalize lookE ts want=E at *;by_cases hz:E=0
 ·subst hz
  go_enter Tryz.func30,Tryz.ntmps30
  go_wp2_with fail
  refine h1.mono ?_
  rintro e w1 ⟨rfl,hb1⟩
  go_wp2_with fail
  refine (h2 w1 hb1).mono ?_
  rintro e w2 ⟨rfl,hb2⟩
  go_wp2;go_ret
  exact⟨rfl,qd hb1 hb2⟩
 ·have hz':¬(E:Int)=0:=by omega
  rw[if_neg hz];go_enter Tryz.func30,Tryz.ntmps30
  go_wp2_with fail
  refine h1.mono ?_
  rintro e w1 ⟨rfl,hb1⟩
  go_wp2;go_ret
  exact⟨rfl,hb1⟩
theorem q8W:EntersM 8:=fun _ _=>rfl
theorem qfU(ts:List Tk)(want:Nat)(zs:List Int):(refM ts want zs≠0/\(lookE ts want≠0/\refM ts want zs=(lookE ts want:Int)\/lookE ts want=0/\trE zs≠0/\refM ts want zs=trE zs))\/(refM ts want zs=0/\lookE ts want=0/\trE zs=0):=by
 unfold refM;by_cases h:lookE ts want=0
 ·rw[if_pos h]
  by_cases h2:trE zs=0
  ·exact Or.inr ⟨h2,h,h2⟩
  ·exact Or.inl ⟨h2,Or.inr ⟨h,h2,rfl⟩⟩
 ·rw[if_neg h]
  exact Or.inl ⟨by omega,Or.inl ⟨h,rfl⟩⟩
theorem qg7{zs:List Int}(h:trE zs=0):zs.length<=1024:=by
 unfold trE at h
 split at h
 ·cases h
 ·omega
theorem qhK(zs:List Int){ts:List Tk}{want:Nat}(h:lookE ts want=0):∃(v:Sv) (b:Bool),Cl (zN zs) ts v/\Good (zN zs) ts (b,v)/\(want=1->b=false)/\(want=3->b=true)/\InW (zN zs).length (b,v):=by
 obtain⟨v,b,h1,h2,h3,h4,h5,h6,h7⟩:=qiw (zN zs) h;exact⟨v,b,h1,⟨h6,h7,h2⟩,h3,h4,h5⟩
theorem qga{n:Nat}{b:Bool}{v:Sv}{w:World}{e:Ending}{w':World}(h:WholeR n (b,v) w e w')(hb:b=false):∃g bs q,e=.returned (.agg #[.slice (some ⟨g,0,none⟩) (n+1) (n+1),slV q])/\ValAt w' g bs/\bs.length=n+1/\(∀i,i<=n->(bs.getD i false=true↔v.1 i))/\w.heap.size<=g/\Below w.heap.size w w':=by
 obtain⟨⟨p,q⟩,lo,hi,rfl,hp,_,hw⟩:=h;obtain⟨g,bs,h1,h2,h3,h4,h5⟩:=hp.2 hb;dsimp only at h1
 subst h1;exact⟨g,bs,q,rfl,h2,h3,h4,h5,hw⟩
theorem qii{w:World}{g base:Nat}{bs:List Bool}(h:ValAt w g bs)(hb:base<=g)(hl:bs.length<=1000000):w.ownsRow base 4 1 (.slice (some ⟨g,0,none⟩) bs.length bs.length) bs.length (bs.map Value.bool) :=
 ⟨by simp,Or.inr ⟨g,bs.length,_,rfl,hb,h,Nat.le_refl _,by unfold maxLen;omega,by simp,by simp;exact List.take_of_length_le (by simp)⟩⟩
theorem q9f(a:Option Addr)(len cap:Nat)(ts:List Tk)(d:Option Addr)(m c:Nat)(zs:List Int)(w:World)(hT:TkSl w a len cap ts)(hL:LtSl w d m c zs)(h0:lookE ts 1=0)(ht:trE zs=0):Calls Tryz.prog 31 #[.slice a len cap,.slice d m c] w fun e w''=>∃g bs q,e=.returned (.agg #[.slice (some ⟨g,0,none⟩) (m+1) (m+1),slV q])/\ValAt w'' g bs/\bs.length=m+1/\ValB (zN zs) ts bs/\w.heap.size<=g/\Below w.heap.size w w'':=by
 have hm:zs.length=m:=hL.sl.hlen;obtain⟨v,b,hc,hg,hb1,_,_⟩:=qhK zs h0;have hf:=qg7 ht;refine (q7Z a len cap ts m c d zs (b,v) w hT hL (by omega) hg).mono fun e w'' h=>?_
 obtain⟨g,bs,q,h1,h2,h3,h4,h5,h6⟩:=qga h (hb1 rfl);refine⟨g,bs,q,h1,h2,h3,⟨by rw[h3,q1f,hm],fun u hu i hi=>?_⟩,h5,h6⟩
 obtain rfl:=hc.same hu
 have:=h4 i (by omega)
 simpa [List.getD_eq_getElem?_getD,hi] using this
theorem q5q:AllC 11:=by
 intro a len cap ts d m c zs w hT hL;have hm:zs.length=m:=hL.sl.hlen;have h1:=qb7 8 1 q8W q4s a len cap ts d m c zs w hT hL;have HK:Hid _:=qfU ts 1 zs;have HG:Hid (lookE ts 1=0->trE zs=0->∀w',Below w.heap.size w w'->Calls Tryz.prog 31 #[.slice a len cap,.slice d m c] w' fun e w''=>∃g bs q,e=.returned (.agg #[.slice (some ⟨g,0,none⟩) (m+1) (m+1),slV q])/\ValAt w'' g bs/\bs.length=m+1/\ValB (zN zs) ts bs/\w'.heap.size<=g/\Below w'.heap.size w' w''):=fun h0 ht w' hb=>q9f a len cap ts d m c zs w' (hT.up hb) (hL.up hb) h0 ht
 clear hT hL;unfold AllR;generalize refM ts 1 zs=R at *;rcases HK.out with⟨hr,hk⟩|⟨hr,hk1,hk2⟩
 ·have HKK:Hid _:=hk
  clear HK HG hk;go_enter Tryz.func11,Tryz.ntmps11
  go_wp2_with fail
  refine h1.mono ?_
  rintro e w1 ⟨rfl,hb1⟩
  have HB:Hid _:=hb1;clear h1 hb1;go_wp2;go_ret2
  exact⟨_,R,rfl,HB.out,Or.inl ⟨hr,(by rcases HKK.out with⟨q1,q2⟩|⟨q1,_,q3⟩;exact Or.inl ⟨q1,q2⟩;exact Or.inr ⟨q1,q3⟩),rfl⟩⟩
 ·have h2:=HG.out hk1 hk2
  have HK1:Hid _:=hk1;have HK2:Hid _:=hk2;have Hm:Hid (m<=1024):=by show _<=_;have:=qg7 hk2;omega
  subst hr;clear HK HG hk1 hk2;go_enter Tryz.func11,Tryz.ntmps11
  go_wp2_with fail
  refine h1.mono ?_
  rintro e w1 ⟨rfl,hb1⟩
  have h3:=h2 w1 hb1;have HB1:Hid _:=hb1;clear h1 hb1 h2
  go_wp2_with fail
  refine h3.mono ?_
  rintro e w2 ⟨g,bs,q,rfl,hV,hl,hv,hg,hb2⟩
  have hfd:=q5L (.slice (some ⟨g,0,none⟩) (m+1) (m+1)) (slV q);have HV:Hid _:=hV;have Hl:Hid _:=hl;have Hv:=hiq hv;have Hg:Hid _:=hg;have HB2:Hid _:=hb2;clear hV hl hv hg hb2 h3;go_wp2;go_ret2
  have e1:=Hl.out;have e2:=Hm.out;have e3:=HB1.out.size;have e4:=Hg.out;refine⟨_,0,rfl,qd HB1.out HB2.out,Or.inr ⟨rfl,HK1.out,HK2.out,bs,?_,Hv.out⟩⟩
  have:=qii (base:=w.heap.size) HV.out (by omega) (by omega)
  rw[<-e1];exact this
end Go.Proofs.YtailhklbmenaoaaGreatDoor
