import Derived.Test.YtoioiellaomonaaGreatDoorZ02
import Derived.Test.YtoioiellaomonaaGreatDoorZ06
import Derived.Test.YtoioiellaomonaaGreatDoorZ11
import Derived.Test.YtoioiellaomonaaGreatDoorZ24
import Derived.Test.YtoioiellaomonaaGreatDoorZ25
set_option maxRecDepth 100000
set_option maxHeartbeats 16000000
namespace Go.Proofs.YtoioiellaomonaaGreatDoor
open Go.RowKit Go.Maps Proofs.Tryz
variable {w w':World}{F:Nat->Prop}{L t xs:List Nat}{x y k:Nat}{T0:Tr}{M:Mt}{R:Option Mt}
def Tj(R:Rt)(p:Nat)(vb:Value)(F:Nat->Prop)(M0:Mt)(w:World)(e:Ending)(w':World):Prop :=
 (∃L M' F' a c,R=some (L,M')/\e=.returned (.tuple #[.slice a L.length c,.int .i64 0])/\RP w' F' p M' 0 vb/\eP w' F' a c L/\M0 <+: M'/\Fr w w' F F'/\∀q,q<L.length->w.heap.size<=(aG a q).block) \/
 (R=none/\e=.returned (.tuple #[.slice none 0 0,.int .i64 9])/\∃F',Fr w w' F F')
theorem qh2{a:Option Addr}{c:Nat}(h:fH w' a L.length c L)(hn:∀k,k<L.length->w.heap.size<=(aG a k).block)(hF:∀k,F k->k<w.heap.size)(hs:Sm L)(hl:L.length<=1024):eP w' F a c L :=
 ⟨h,fun k hk hf=>by have:=hF _ hf;have:=hn k hk;omega,hs,hl⟩
section
variable {w:World}{F:Nat->Prop}{p:Nat}{vb:Value}{M0:Mt}{la:Option Addr}{lc:Nat}{l:List Nat}{x:Nat}{R:Rt}{k:Nat}{ov:Value}{wr:World}
theorem EP.set(h:EP w F p vb M0 la lc l x R k ov wr)(hk:k<l.length)(hb:∀s∈l,s<2 ^ M0.length)(h64:M0.length<=64):
  ∃(er:Nat) (oa:Option Addr) (oc:Nat) (out:List Nat),ov=.slice oa out.length oc/\(er=0\/er=9)/\wr.cell? ⟨p,2,none⟩=some (.int .i64 er) /\
   (er=0->∃Q1,Calls prog 32 #[] wr Q1/\∀e w1,Q1 e w1->∃v1,e=.returned v1/\w1.cell? (aG la k)=some (.int .u64 (l.getD k 0:Nat)) /\
    ∃Q2,Calls prog 33 #[.int .u64 (l.getD k 0:Nat)] w1 Q2/\∀e w2,Q2 e w2->∃ia ic,e=.returned (.slice ia (aY (l.getD k 0)).length ic) /\
     (∀(n j:Nat)(w':World),j<n->n<=(aY (l.getD k 0)).length->(Instr.indexAt 71 (.slice ia n ic) (.int .i64 j)).run prog w'=.ok (.pointer (some (aG ia j))) w') /\
     Le w F p vb M0 la lc l x R k oa oc out ia ic (aY (l.getD k 0)) 0 v1 w2):=by
 obtain⟨F',M',er,out,oa,oc,rfl,hK,hO,hR,_⟩:=h;obtain⟨vm,rows,vF⟩:=hK.rp;obtain⟨e0,_,_,_⟩:=vF.kP;refine⟨er,oa,oc,out,rfl,hK.er,e0,fun h0=>?_⟩
 subst h0;have hs:=hb _ (Nw hk);have Gp:l.getD k 0<2 ^ 64:=Nat.lt_of_lt_of_le hs (Nat.pow_le_pow_right (by decide) h64)
 refine⟨_,SV wr,?_⟩
 rintro e w1 ⟨a1,c1,rfl,u1,b1,n1⟩
 refine⟨_,rfl,Iy (hK.us.sl.up b1) k hk,_,wA (l.getD k 0) w1 Gp,?_⟩
 rintro e w2 ⟨ia,ic,rfl,i2,b2,n2⟩
 have b12:Below wr.heap.size wr w2:=qe b1 b2;have f2:Fr wr w2 F' F':=Fr.au b12;have xo:∀q,F' q->q<wr.heap.size:=vF.flt;have hs1:=b1.size;refine⟨ia,ic,rfl,i2.idx,F',M',0,[0],a1,c1,rfl,⟨RP.up ⟨vm,rows,vF⟩ b12,.inl rfl,hK.us.fr f2,hK.pre,hK.fr.trans f2⟩,hO.fr f2,?_,⟨i2,fun q hq hf=>?_⟩,?_⟩
 ·exact(qh2 u1 n1 xo (fun z hz=>by simp at hz;subst hz;decide) (by simp)).fr (Fr.au b2)
 ·have:=xo _ hf;have:=n2 q hq;omega
 ·have hd:l.drop k=l.getD k 0::l.drop (k+1):=by
   rw[List.drop_eq_getElem_cons hk,List.getD_eq_getElem?_getD,kU hk];rfl
  rw[<-hR,hd,stepM]
  rfl
theorem Le.last{oa:Option Addr}{oc:Nat}{out:List Nat}{ia:Option Addr}{ic:Nat}{I:List Nat}{mv:Value}(h:Le w F p vb M0 la lc l x R k oa oc out ia ic I I.length mv wr):
  ∃ma ml mc,mv=.slice ma ml mc/\∃Q1,Calls prog 37 #[.pointer (some ⟨p,0,none⟩),.slice oa out.length oc,.slice ma ml mc] wr Q1/\∀e w1,Q1 e w1->∃v1,e=.returned v1/\EP w F p vb M0 la lc l x R (k+1) v1 w1:=by
 obtain⟨F',M',er,m,ma,mc,rfl,hK,hO,hm,hI,hR⟩:=h;refine⟨ma,_,mc,rfl,_,qb4 p vb F' M' er oa oc out ma mc m wr hK.rp hK.er hO hm,?_⟩
 rintro e w1 ⟨F1,M1,jq,L1,a1,c1,rfl,f1,p1,u1,m1,r1,n1⟩
 have he1:jq=0\/jq=9:=by rcases r1 with h|h;exact .inl h.1;exact .inr h.1
 refine⟨_,rfl,F1,M1,jq,L1,a1,c1,rfl,⟨p1,he1,hK.us.fr f1,hK.pre.trans m1,hK.fr.trans f1⟩,u1,?_,fun q hq=>Nat.le_trans hK.fr.size (n1 q hq)⟩
 rw[<-hR,List.drop_length,jI]
 show _=dX er (zJ x l out k m M')
 unfold zJ;rw[qy r1]
theorem EP.fin(h:EP w F p vb M0 la lc l x R k ov wr)(hk:k<=l.length):
  ∃(er:Nat) (oa:Option Addr) (on oc:Nat),ov=.slice oa on oc/\(er=0\/er=9)/\wr.cell? ⟨p,2,none⟩=some (.int .i64 er) /\
   (er=0->k=l.length->Tj R p vb F M0 w (.returned (.tuple #[.slice oa on oc,.int .i64 0])) wr) /\
   (er=9->∃va n vc,wr.cell? ⟨p,0,none⟩=some (.slice va n vc)/\wr.frozen? ⟨p,0,none⟩=false/\(∀w',(Instr.sliceAt 67 (.slice va n vc) none (some (.int .i64 M0.length)) none).run prog w'=.ok (.slice va M0.length vc) w') /\
    (wr.setCell ⟨p,0,none⟩ (.slice va M0.length vc)).cell? ⟨p,2,none⟩=some (.int .i64 9)/\∀w',Below (wr.setCell ⟨p,0,none⟩ (.slice va M0.length vc)).heap.size (wr.setCell ⟨p,0,none⟩ (.slice va M0.length vc)) w'->Tj R p vb F M0 w (.returned (.tuple #[.slice none 0 0,.int .i64 9])) w'):=by
 obtain⟨F',M',er,out,oa,oc,rfl,hK,hO,hR,hN⟩:=h;obtain⟨vm,rows,vF⟩:=hK.rp;obtain⟨e0,_,e2,e3⟩:=vF.kP;refine⟨er,oa,_,oc,rfl,hK.er,e0,fun h0 hkl=>?_,fun h9=>?_⟩
 ·subst h0 hkl
  left
  refine⟨out,M',F',oa,oc,?_,rfl,⟨vm,rows,vF⟩,hO,hK.pre,hK.fr,hN⟩
  rw[<-hR,List.drop_length];rfl
 ·subst h9
  have hvm:∃va vc,vm=.slice va M'.length vc/\M'.length<=vc/\(va=none->vc=0):=by
   obtain⟨hl,h⟩:=vF.row;rcases h with⟨h1,h2⟩|⟨g,cap,cur,h1,hg,hcell,hnc,hcm,hsz,htk⟩
   ·exact⟨none,0,by rw[h1,h2],by omega,fun _=>rfl⟩
   ·exact⟨_,cap,h1,hnc,fun h=>by cases h⟩
  obtain⟨va,vc,rfl,hc,hn⟩:=hvm;have Tf:F' p:=(vF.foot p).2 (.inl rfl);refine⟨va,_,vc,e2,e3,fun w'=>Iw (P:=prog) (T:=67) underlying67 uW va _ vc _ hK.pre.length_le hc hn w',?_,fun w' hb=>?_⟩
  ·have:=heap_setCell_same wr p 0 _ _ (.slice va M0.length vc) vF.blk
   exact qc this 2
  ·right
   exact⟨by rw[<-hR];rfl,rfl,F',(hK.fr.trans ((Fr.au (Below.refl _ _)).oh (F:=F') _ (.inl Tf))).trans (Fr.au hb)⟩
end
theorem qgr{s n:Nat}(h:s<2 ^ n){j:Nat}(hj:j<(aY s).length):(aY s).getD j 0<n:=by
 have ht:=(qS.1 (Nw hj)).2;rcases Nat.lt_or_ge ((aY s).getD j 0) n with h9|h9
 ·exact h9
 ·rw[Nat.testBit_lt_two_pow (Nat.lt_of_lt_of_le h (Nat.pow_le_pow_right (by decide) h9))]at ht
  cases ht
theorem EP.start{p:Nat}{vb:Value}{M0:Mt}{la:Option Addr}{lc:Nat}{l:List Nat}{er:Nat}(hP:RP w F p M0 er vb)(hU:eP w F la lc l):EP w F p vb M0 la lc l x (stepM aV x l [] M0) 0 (.slice none 0 0) (w.setCell ⟨p,2,none⟩ (.int .i64 0)):=by
 obtain⟨vm,rows,hR⟩:=hP;have Tf:F p:=(hR.foot p).2 (.inl rfl);have f:Fr w (w.setCell ⟨p,2,none⟩ (.int .i64 0)) F F:=(Fr.au (Below.refl _ _)).oh _ (.inl Tf);exact⟨F,M0,0,[],none,0,rfl,⟨⟨vm,rows,hR.Bd 0⟩,.inl rfl,hU.fr f,List.prefix_refl _,f⟩,eP.nil,rfl,fun q hq=>by simp at hq⟩
theorem xp(p:Nat)(vb:Value)(F:Nat->Prop)(M0:Mt)(xr:Nat)(la:Option Addr)(lc:Nat)(l:List Nat)(x:Nat)(w:World)(hP:RP w F p M0 xr vb)(hU:eP w F la lc l)(hb:∀s∈l,s<2 ^ M0.length)(hS:bj M0 x):
  Calls prog 17 #[dY p,.slice la l.length lc,.int .u8 x] w (Tj (stepM aV x l [] M0) p vb F M0 w):=by
 have HST:Hid _:=EP.start (x:=x) hP hU;have HS:=aX hS;have HB:=aX hb;have hb0:=hU.sl.bd;have hb1:=hU.sl.hcap;unfold maxLen at hb0;have wY:Hid (∀k (w':World),k<l.length->(Instr.indexAt 36 (.slice la l.length lc) (.int .i64 k)).run prog w'=.ok (.pointer (some (aG la k))) w'):=fun k w' h=>hU.sl.idx _ k w' h bZ
 have dL:Hid (∀k,k<l.length->w.cell? (aG la k)=some (.int .u64 (l.getD k 0:Nat))):=fun k h=>Iy hU.sl k h
 have h64:M0.length<=64:=by obtain⟨_,_,h⟩:=hP;exact h.few
 have Ti:Hid (∀k,k<l.length->Calls prog 31 #[.pointer (some ⟨p,0,none⟩),.int .u64 (l.getD k 0:Nat)] w fun e w''=>e=.returned (.bool true)/\w''=w):=fun k h=>by
  have hs:=hb _ (Nw h);have:=xc p vb F M0 xr (l.getD k 0) w hP (Nat.lt_of_lt_of_le hs (Nat.pow_le_pow_right (by decide) h64))
  rw[decide_eq_true hs]at this;exact this
 have xt:Hid (∀k,k<l.length->∀j,j<(aY (l.getD k 0)).length->(aY (l.getD k 0)).getD j 0<M0.length):=fun k h j hj=>qgr (hb _ (Nw h)) hj
 have Sz:Hid (∀s,(aY s).length<=64):=fun s=>by
  unfold aY;exact Nat.le_trans (List.length_filter_le _ _) (by simp)
 obtain⟨vm,rows,hR⟩:=hP;obtain⟨k0,k1,k2,k3⟩:=hR.kP;obtain⟨va,vc,rfl,_⟩:=qO hR.row bZ;clear hR hU hS hb;generalize stepM aV x l [] M0=R at *;obtain⟨Q,hQ⟩:∃Q:Ending->World->Prop,Q=Tj R p vb F M0 w:=⟨_,rfl⟩
 have HQ:Hid (∀e w',Tj R p vb F M0 w e w'->Q e w'):=fun e w' h=>by rw[hQ];exact h
 rw[<-hQ];clear hQ;unfold dY;go_enter func17,ntmps17
 go_wp2
 go_loopw [8] (fun i wr=>∃k:Nat,k<=l.length/\i=.int .i64 k/\wr=w) (fun i _=>l.length-(intOf i).toNat)
 case atStart=>exact⟨0,Nat.zero_le _,rfl,rfl⟩
 case round=>
  obtain⟨k,hkN,rfl,JA⟩:=hrel;have Lh:=JA.symm;subst Lh;clear JA;by_cases hlt:k<l.length
  ·have hidx:=fun w'=>wY.out k w' hlt
   have hcl:=dL.out k hlt;have jk:=Ti.out k hlt;generalize l.getD k 0=s at *;generalize aG la k=ad at *;obtain⟨g0,o0,s0⟩:=ad
   go_wp2_with fail
   (with_reducible refine jk.mono ?_)
   rintro e w2 ⟨rfl,rfl⟩
   go_wp2
   go_roundw
   case rel=>exact⟨k+1,by omega,by go_num,trivial⟩
   case measure=>simp[intOf];omega
  ·obtain rfl:k=l.length:=by omega
   clear Ti dL;go_wp2;generalize w.setCell ⟨p,2,none⟩ (.int .i64 0)=w0 at *;clear k0 k1 k2 k3
   go_loopw [10,11] (fun ov i wr=>∃k:Nat,k<=l.length/\i=.int .i64 k/\Hid (EP w F p vb M0 la lc l x R k ov wr)) (fun _ i _=>l.length-(intOf i).toNat)
   case atStart=>exact⟨0,Nat.zero_le _,rfl,HST⟩
   case round=>
    obtain⟨k,hk2,rfl,HO⟩:=hrel;clear HST;by_cases hlt:k<l.length
    ·obtain⟨er,oa,oc,out,rfl,her,c2,hch⟩:=EP.set HO.out hlt HB.out h64
     rcases her with rfl|rfl
     ·obtain⟨Q1,j1,h1⟩:=hch rfl
      have ru:Hid _:=h1;have hidx:=fun w'=>wY.out k w' hlt
      have HBk:Hid _:=xt.out k hlt;have hil:=Sz.out (l.getD k 0);clear hch h1 xt wY;generalize aY (l.getD k 0)=I at *;generalize l.getD k 0=s at *;generalize aG la k=ad at *;obtain⟨g0,o0,s0⟩:=ad
      go_wp2_with fail
      (with_reducible refine j1.mono ?_)
      intro e w1 hq1;obtain⟨v1,he1,cl1,Q2,j2,h2⟩:=ru.out e w1 hq1;subst he1;have kG:Hid _:=h2;clear h2 hq1 j1 ru c2
      go_wp2_with fail
      (with_reducible refine j2.mono ?_)
      intro e w2 hq2;obtain⟨ia,ic,he2,hix,hin⟩:=kG.out e w2 hq2;subst he2;have bq:Hid _:=hix;have KX:=aX hin;clear hix hin hq2 j2 kG cl1 hidx;go_wp2
      go_loopw [12,14] (fun mv j wr=>∃m:Nat,m<=I.length/\j=.int .i64 m/\Hid (Le w F p vb M0 la lc l x R k oa oc out ia ic I m mv wr)) (fun _ j _=>I.length-(intOf j).toNat)
      case atStart=>exact⟨0,Nat.zero_le _,rfl,KX⟩
      case round=>
       obtain⟨m,hm,rfl,HM⟩:=hrel;clear KX;by_cases hml:m<I.length
       ·obtain⟨g,cap,n,am,nm,cm,ma,ml,mc,rfl,hi,c1,c2,c3,Q1,j1,h1⟩:=HM.out.item HS.out hml (HBk.out m hml)
        have ru:Hid _:=h1;have i1:=fun w'=>bq.out I.length m w' hml bZ
        have i2:=fun w'=>ZX g n cap (I.getD m 0) w' hi
        clear h1 HM;generalize I.getD m 0=it at *;generalize aG ia m=ai at *;obtain⟨gi,oi,si⟩:=ai
        go_wp2_with fail
        go_region_with (first
         | (revert j1;intro j1;go_at_call 36;(with_reducible refine j1.mono ?_);intro e w3 hq3;obtain⟨so,sp,ua,um,uc,he3,Q2,j2,h2⟩:=ru.out e w3 hq3;subst he3;have kG:Hid _:=h2;clear hq3 h2 j1)
         | (revert j2;intro j2;go_at_call 35;(with_reducible refine j2.mono ?_);intro e w4 hq4;obtain⟨a4,n4,c4,he4,Q3,j3,h3⟩:=kG.out e w4 hq4;subst he4;have jW:Hid _:=h3;clear hq4 h3 j2)
         | (revert j3;intro j3;go_at_call 34;(with_reducible refine j3.mono ?_);intro e w5 hq5;obtain⟨v5,bm,Tn⟩:=jW.out e w5 hq5;subst bm;have SN:=aX Tn;clear hq5 Tn j3)
         |fail)
        all_goals
         go_wp2
         go_roundw
         case rel=>exact⟨m+1,by omega,by go_num,SN⟩
         case measure=>simp[intOf];omega
       ·obtain rfl:m=I.length:=by omega
        obtain⟨ma,ml,mc,rfl,Q1,j1,h1⟩:=HM.out.last;have ru:Hid _:=h1;clear h1 HM
        go_wp2_with fail
        (with_reducible refine j1.mono ?_)
        intro e w3 hq3;obtain⟨v3,he3,ho3⟩:=ru.out e w3 hq3;subst he3;have rU:=aX ho3;clear ho3 hq3 j1 ru;go_wp2
        go_roundw
        case rel=>exact⟨k+1,by omega,by go_num,rU⟩
        case measure=>simp[intOf];omega
     ·clear hch
      obtain⟨er,oa2,on,oc2,he,her,c2',f0,f9⟩:=HO.out.fin hk2;clear he f0;rcases her with rfl|rfl
      ·rw[c2']at c2
       injection c2 with c2;injection c2 with _ c2;exact absurd c2 (by decide)
      ·obtain⟨Jw,n2,Jy,c0,fz,hsl,c9,hfin⟩:=f9 rfl
       have HX:Hid (∀w',Below (wr.setCell ⟨p,0,none⟩ (.slice Jw M0.length Jy)).heap.size (wr.setCell ⟨p,0,none⟩ (.slice Jw M0.length Jy)) w'->Q (.returned (.tuple #[.slice none 0 0,.int .i64 9])) w'):=fun w' h=>HQ.out _ _ (hfin w' h)
       clear f9 HO hfin c2'
       go_wp2_with fail
       go_quiet (fail)
       go_wp2;exact HX.out _ (below_drewN (Below.refl _ _) nq)
    ·obtain rfl:k=l.length:=by omega
     obtain⟨er,oa,on,oc,rfl,her,c2,f0,f9⟩:=HO.out.fin hk2;rcases her with rfl|rfl
     ·have HX:Hid (Q (.returned (.tuple #[.slice oa on oc,.int .i64 0])) wr):=HQ.out _ _ (f0 rfl rfl)
      clear f0 f9 HO;go_wp2;exact HX.out
     ·obtain⟨Jw,n2,Jy,c0,fz,hsl,c9,hfin⟩:=f9 rfl
      have HX:Hid (∀w',Below (wr.setCell ⟨p,0,none⟩ (.slice Jw M0.length Jy)).heap.size (wr.setCell ⟨p,0,none⟩ (.slice Jw M0.length Jy)) w'->Q (.returned (.tuple #[.slice none 0 0,.int .i64 9])) w'):=fun w' h=>HQ.out _ _ (hfin w' h)
      clear f0 f9 HO hfin
      go_wp2_with fail
      go_quiet (fail)
      go_wp2;exact HX.out _ (below_drewN (Below.refl _ _) nq)
def vG(T0:Tr)(M:Mt):Prop:=∀f∈M,∃S,KT S/\jD T0 S/\f=S.flat
theorem br{T:Tr}{M':Mt}(kT:KT T)(hT:jD T0 T)(hM:vG T0 M)(h:dQ T.flat M=some (L,M')):vG T0 M':=by
 unfold dQ at h
 split at h
 ·injection h with h;injection h with h1 h2;subst h1 h2;exact hM
 ·split at h
  ·injection h with h;injection h with h1 h2;subst h1 h2
   intro g hg;rcases List.mem_append.1 hg with hg|hg
   ·exact hM g hg
   ·exact⟨T,kT,hT,List.mem_singleton.1 hg⟩
  ·cases h
theorem GH{T0:Tr}:∀(T:Tr){M M':Mt}{L:List Nat},KT T->jD T0 T->vG T0 M->aH T M=some (L,M')->vG T0 M'
 | .leaf (op,p),M,M',L,kT,hT,hM,h=>by
  unfold aH at h;dsimp only at h
  split at h
  ·injection h with h;injection h with h1 h2;subst h1 h2;exact hM
  ·split at h
   ·injection h with h;injection h with h1 h2;subst h1 h2;exact hM
   ·exact br kT hT hM h
 | .un k c,M,M',L,kT,hT,hM,h=>br kT hT hM h
 | .bin (op,p) c d,M,M',L,kT,hT,hM,h=>by
  unfold aH at h;dsimp only at h
  split at h
  ·rename_i ho
   obtain⟨rfl,_⟩:=xG kT;obtain⟨kc,kd⟩:=qB kT (by rcases ho with h|h<;>simp[h])
   obtain⟨a,M1,ha,h2⟩:=qg h;obtain⟨b,M2,hb,h3⟩:=qg h2;rw[(qu h3).1];exact GH d kd (ML hT).2.1 (GH c kc (ML hT).1 hM ha) hb
  ·exact br kT hT hM h
theorem xy{T0:Tr}{x:Nat}:∀n,(∀T M M' L,KT T->jD T0 T->vG T0 M->eu n T x M=some (L,M')->vG T0 M')/\(∀box r s f M M' L,KP r->r∈bY T0->KT f->jD T0 f->(∀S,S∈iK box r f->jD T0 S)->vG T0 M->fO n box r s f x M=some (L,M')->vG T0 M')
 | 0=>⟨fun T M M' L _ _ _ h=>(by rw[Jb]at h;cases h),fun box r s f M M' L _ _ _ _ _ _ h=>(by rw[LQ]at h;cases h)⟩
 |n+1=>by
  obtain⟨ih,jh⟩:=xy (T0:=T0) (x:=x) n;refine⟨fun T M M' L hT hp hM h=>?_,fun box r s f M M' L hr hs kf hf hw hM h=>?_⟩
  ·match T,hT,hp,h with
   | .leaf (op,p),hT,hp,h=>
    rw[EX]at h;injection h with h;injection h with h1 h2;subst h1 h2;exact hM
   | .un (op,p) c,hT,hp,h=>
    rw[CJ]at h;dsimp only at h
    split at h
    ·injection h with h;injection h with h1 h2;subst h1 h2;exact hM
    ·rename_i h6
     obtain⟨rfl,⟨h6',_⟩|⟨ho,kc⟩⟩:=ku hT
     ·exact absurd h6' h6
     ·split at h
      ·obtain⟨a,M1,ha,h2⟩:=qg h
       obtain⟨b,M2,hb,h3⟩:=qg h2;rw[(qu h3).1];exact GH c kc (Ya hp) (GH (.leaf (4,0)) ⟨⟨rfl,rfl⟩,rfl,rfl⟩ (Qc (.inl rfl)) hM ha) hb
      ·obtain⟨a,M1,ha,h2⟩:=qg h
       obtain⟨b,M2,hb,h3⟩:=qg h2;rw[(qu h3).1];exact GH c kc (Ya hp) (GH (.leaf (5,0)) ⟨⟨rfl,rfl⟩,rfl,rfl⟩ (Qc (.inr rfl)) hM ha) hb
   | .bin (op,p) c d,hT,hp,h=>
    rw[zS]at h;dsimp only at h
    obtain⟨rfl,ho⟩:=xG hT;obtain⟨iC,iD,iW⟩:=ML hp
    split at h
    ·rename_i ho2
     obtain⟨kc,kd⟩:=qB hT (by rcases ho2 with h|h<;>simp[h])
     obtain⟨a,M1,ha,h2⟩:=qg h;obtain⟨b,M2,hb,h3⟩:=qg h2;rw[(qu h3).1];exact ih d M1 M2 b kd iD (ih c M M1 a kc iC hM ha) hb
    ·split at h
     ·rename_i ho1 ho2
      obtain⟨kc,kd⟩:=qB hT (by rcases ho2 with h|h<;>simp[h])
      obtain⟨b,M1,hb,h2⟩:=qg h;obtain⟨a,M2,ha,h3⟩:=qg h2;obtain⟨u,M3,hu,h4⟩:=qg h3;obtain⟨v,M4,hv,h5⟩:=qg h4;rw[(qu h5).1,(qu hv).1];exact GH _ hT hp (ih c M1 M2 a kc iC (ih d M M1 b kd iD hM hb) ha) hu
     ·have how:op=17\/op=18:=by omega
      obtain⟨kc,kd⟩:=uP hT how;obtain⟨s,M1,hs,h2⟩:=qg h;have e:aO (op==18)=op:=by rcases how with rfl|rfl<;>rfl
      exact jh _ c s d M1 M' L kc (iW how) kd iD (mH (by rw[e];exact hp)) (ih d M M1 s kd iD hM hs) h2
  ·match r,hr,hs,hw,h with
   | .leaf k,hr,hs,hw,h=>exact(EZ hr).elim
   | .un (op,p) c,hr,hs,hw,h=>
    rw[BD]at h;dsimp only at h
    have hcs:=EC hs;obtain⟨rfl,⟨rfl,hc,hpl⟩|⟨rfl,hc⟩|⟨rfl,hc⟩⟩:=kC hr
    ·rw[if_pos rfl]at h
     split at h
     ·exact GH f kf hf hM h
     ·injection h with h;injection h with h1 h2;subst h1 h2;exact hM
    ·rw[if_neg (by decide),if_pos rfl]at h
     obtain⟨a,M1,ha,h2⟩:=qg h;rw[(qu h2).1]
     cases box
     ·exact ih _ M M1 a hc (MK hcs) hM ha
     ·exact ih _ M M1 a (GY hc) (MJ hcs hc) hM ha
    ·rw[if_neg (by decide),if_neg (by decide)]at h
     obtain⟨a,M1,ha,h2⟩:=qg h;rw[(qu h2).1];have e:iK box (.un (23,0) c) f=.bin (aO box,0) (.un (23,0) c) f::iK box c (.bin (aO box,0) (.un (23,0) c) f):=by rw[iK,if_pos rfl]
     rw[e]at hw;exact jh box c _ _ M M1 a hc hcs (zT hr kf box) (hw _ (List.mem_cons_self ..)) (fun S hS=>hw S (List.mem_cons_of_mem _ hS)) hM ha
   | .bin (op,p) c d,hr,hs,hw,h=>
    rw[CO]at h;dsimp only at h
    obtain⟨hcs,hds⟩:=yg hs;obtain⟨rfl,ho,kc,kd⟩:=xH hr;rcases ho with rfl|rfl
    ·rw[if_pos rfl]at h
     have e:iK box (.bin (21,0) c d) f=iK box c f++iK box d f:=by rw[iK,if_pos rfl]
     rw[e]at hw;obtain⟨a,M1,ha,h2⟩:=qg h;obtain⟨b,M2,hb,h3⟩:=qg h2;rw[(qu h3).1];exact jh box d s f M1 M2 b kd hds kf hf (fun S hS=>hw S (List.mem_append_right _ hS)) (jh box c s f M M1 a kc hcs kf hf (fun S hS=>hw S (List.mem_append_left _ hS)) hM ha) hb
    ·rw[if_neg (by decide)]at h
     have e:iK box (.bin (22,0) c d) f=.bin (aO box,0) d f::(iK box d f++iK box c (.bin (aO box,0) d f)):=by rw[iK,if_neg (by decide),if_pos rfl]
     rw[e]at hw;obtain⟨a,M1,ha,h2⟩:=qg h;exact jh box c a _ M1 M' L kc hcs (zT kd kf box) (hw _ (List.mem_cons_self ..)) (fun S hS=>hw S (List.mem_cons_of_mem _ (List.mem_append_right _ hS))) (jh box d s f M M1 a kd hds kf hf (fun S hS=>hw S (List.mem_cons_of_mem _ (List.mem_append_left _ hS))) hM ha) h2
theorem xF(h0:KT T0)(h2:T0.size<=200)(hx:x<256)(hM:vG T0 M):bj M x:=by
 intro k hk;obtain⟨S,kS,iS,e⟩:=hM _ (List.getElem_mem hk);have hV:∀c,c.WF->bD c=true->c∈bY T0->S9 c x:=fun c hw hp hs=>qdU c hw hp (by rw[<-qQ];have:=BH hs;omega) x hx
 have hsz:=Vr h2 iS;refine⟨S,kS,by rw[kU hk,e],(wh h0 h2 hx hV (hgt S)).1 S iS kS bZ,by rw[<-qQ];omega,fun M' hk'=>?_⟩
 have e2:M'.getD k []=S.flat:=by rw[List.getD_eq_getElem?_getD,hk'];rfl
 rw[e2,GZ kS.wf];exact congrFun (oN kS (Qd (by omega) iS).2) M'
theorem xN{T0:Tr}{n x:Nat}:∀(ks m:List Nat)(M M':Mt)(L:List Nat),vG T0 M->(∀k∈ks,k<M.length)->jI n x ks m M=some (L,M')->vG T0 M'
 | [],m,M,M',L,hM,_,h=>by
  unfold jI at h;injection h with h;injection h with h1 h2;subst h1 h2;exact hM
 |k::ks,m,M,M',L,hM,hk,h=>by
  unfold jI at h;obtain⟨a,M1,ha,h2⟩:=qg h;obtain⟨b,M2,hb,h3⟩:=qg h2;have hkl:=hk k (List.mem_cons_self ..);obtain⟨S,kS,iS,e⟩:=hM _ (List.getElem_mem hkl)
  have e2:lY (M.getD k [])=S:=by
   rw[List.getD_eq_getElem?_getD,kU hkl,Option.getD_some,e,GZ kS.wf]
  rw[e2]at ha;have h1:=(xy n).1 S M M1 a kS iS hM ha;have hp:=Cd ha;have e3:=(qu hb).1;subst e3;exact xN ks b _ M' L h1 (fun q hq=>Nat.lt_of_lt_of_le (hk q (List.mem_cons_of_mem _ hq)) hp.length_le) h3
theorem xT{T0:Tr}{n x:Nat}:∀(l out:List Nat)(M M':Mt)(L:List Nat),vG T0 M->(∀s∈l,s<2 ^ M.length)->stepM n x l out M=some (L,M')->vG T0 M'/\M <+: M'
 | [],out,M,M',L,hM,_,h=>by
  unfold stepM at h;injection h with h;injection h with h1 h2;subst h1 h2;exact⟨hM,List.prefix_refl _⟩
 |s::ss,out,M,M',L,hM,hs,h=>by
  unfold stepM at h;obtain⟨a,M1,ha,h2⟩:=qg h;obtain⟨b,M2,hb,h3⟩:=qg h2;have hsl:=hs s (List.mem_cons_self ..)
  have hk:∀k∈aY s,k<M.length:=fun k hk=>by
   have ht:=(qS.1 hk).2;rcases Nat.lt_or_ge k M.length with h9|h9
   ·exact h9
   ·rw[Nat.testBit_lt_two_pow (Nat.lt_of_lt_of_le hsl (Nat.pow_le_pow_right (by decide) h9))]at ht
    cases ht
  have h1:=xN _ _ _ _ _ hM hk ha;have hp:=(WE n x _ _ _ _ _ hk ha).1;have e3:=(qu hb).1;subst e3;obtain⟨i1,i2⟩:=xT ss b _ M' L h1 (fun q hq=>Nat.lt_of_lt_of_le (hs q (List.mem_cons_of_mem _ hq)) (Nat.pow_le_pow_right (by decide) hp.length_le)) h3
  exact⟨i1,hp.trans i2⟩
theorem qdC(x:Nat)(w:World):Calls prog 84 #[.int .i64 8,.int .u8 x] w fun e w'=>e=.returned (.bool true)/\w'=w:=by
 go_enter func84,ntmps84
 go_wp2
 go_loopw [5] (fun i wr=>i=.int .i64 8/\wr=w) (fun i _=>0)
 case atStart=>exact⟨rfl,rfl⟩
 case round=>
  obtain⟨rfl,rfl⟩:=hrel;go_wp2;go_ret
  exact⟨rfl,rfl⟩
theorem qc6(a:Option Addr)(len cap:Nat)(zs:List Int)(w:World)(hL:lX w a len cap zs):
  Calls prog 56 #[.int .i64 8,.slice a len cap] w fun e w'=>e=.returned (.int .i64 (wU zs))/\w'=w:=by
 have hS:=hL.sl;have hln:=hS.hlen;have hb0:=hS.bd;have hb1:=hS.hcap;unfold maxLen at hb0;by_cases hlong:1024<len
 ·have HX:Hid (wU zs=3):=by show _=_;unfold wU;rw[hln,if_pos hlong]
  generalize wU zs=r at *;clear hln;go_enter func56,ntmps56
  go_wp2;go_ret
  exact⟨by rw[HX.out];rfl,rfl⟩
 ·have HX:Hid (wU zs=0):=by show _=_;unfold wU;rw[hln,if_neg hlong]
  generalize wU zs=r at *;have hidx:=fun (k:Nat) (w:World) (h:k<len)=>hS.idx len k w h bZ
  have dL:Hid (∀k,k<len->∃x:Nat,w.cell? (aG a k)=some (.int .u8 x)):=fun k h=>⟨(zs.getD k 0).toNat,by
   have hv:=hL.ok (zs.getD k 0) (by rw[List.getD_eq_getElem?_getD,kU (by rw[hln];exact h)];exact List.getElem_mem _)
   rw[hS.cell k h]
   congr 2
   omega⟩
  clear hS hL hln;go_enter func56,ntmps56
  go_wp2
  go_loopw [5] (fun i wr=>∃k:Nat,k<=len/\i=.int .i64 k/\wr=w) (fun i _=>len-(intOf i).toNat)
  case atStart=>exact⟨0,Nat.zero_le _,rfl,rfl⟩
  case round=>
   obtain⟨k,hk,rfl,JA⟩:=hrel;have Lh:=JA.symm;subst Lh;clear JA;by_cases hlt:k<len
   ·obtain⟨x,hc⟩:=dL.out k hlt
    have hi:=fun w'=>hidx k w' hlt
    have jf:=qdC x w;clear hidx;generalize aG a k=ad at *;obtain⟨g0,o0,s0⟩:=ad
    go_wp2_with fail
    (with_reducible refine jf.mono ?_)
    rintro e w2 ⟨rfl,rfl⟩
    go_wp2
    go_roundw
    case rel=>exact⟨k+1,by omega,by go_num,trivial⟩
    case measure=>simp[intOf];omega
   ·obtain rfl:k=len:=by omega
    go_wp2;go_ret
    exact⟨by rw[HX.out];rfl,rfl⟩
noncomputable def jH (ts:List Tk) (zs:List Int):Int:=if bM ts=0 then wU zs else (bM ts:Int)
theorem qaU(a:Option Addr)(len cap:Nat)(ts:List Tk)(d:Option Addr)(m c:Nat)(zs:List Int)(w:World)(hT:bG w a len cap ts)(hL:lX w d m c zs):
  Calls prog 29 #[.slice a len cap,.slice d m c] w fun e w'=>e=.returned (.int .i64 (jH ts zs))/\Below w.heap.size w w':=by
 have j1:=vB a len cap ts w hT;have HJ:Hid (∀w',Below w.heap.size w w'->Calls prog 56 #[.int .i64 8,.slice d m c] w' fun e w''=>e=.returned (.int .i64 (wU zs))/\w''=w'):=fun w' hb=>qc6 d m c zs w' (hL.up hb)
 clear hT hL;by_cases h0:bM ts=0
 ·have HX:Hid (jH ts zs=wU zs):=if_pos h0
  rw[h0]at j1;generalize jH ts zs=r at *;generalize wU zs=q at *;rw[show ((0:Nat):Int)=0 from rfl]at j1;go_enter func29,ntmps29
  go_wp2_with fail
  (with_reducible refine j1.mono ?_)
  rintro e w1 ⟨rfl,b1⟩
  have j2:=HJ.out w1 b1;have HB:Hid _:=b1;clear b1 j1
  go_wp2_with fail
  (with_reducible refine j2.mono ?_)
  rintro e w2 ⟨rfl,rfl⟩
  go_wp2;go_ret
  exact⟨by rw[HX.out];rfl,HB.out⟩
 ·have HX:Hid (jH ts zs=(bM ts:Int)):=if_neg h0
  have hne:((bM ts:Int) != 0)=true:=by simp;omega
  generalize jH ts zs=r at *;generalize bM ts=q at *;clear h0;go_enter func29,ntmps29
  go_wp2_with fail
  (with_reducible refine j1.mono ?_)
  rintro e w1 ⟨rfl,b1⟩
  have HB:Hid _:=b1;clear b1 j1;go_wp2;go_ret
  exact⟨by rw[HX.out];rfl,HB.out⟩
def oZ(t:List Nat)(y:Nat):List Nat:=((List.range 256).drop y).filter fun x=>decide (x∈t)
theorem qeK(t:List Nat):oZ t 0=bP t:=by unfold oZ bP;rw[List.drop_zero]
theorem bu(h:y<256):oZ t y=if y∈t then y::oZ t (y+1) else oZ t (y+1):=by
 unfold oZ;rw[List.drop_eq_getElem_cons (by simpa using h),List.getElem_range,List.filter_cons]
 simp
theorem qfs(t:List Nat):oZ t 256=[]:=by
 unfold oZ;rw[List.drop_of_length_le (by simp)];rfl
def Ee(xs:List Nat)(k:Nat)(r:Option Mt):Option Mt:=match r with
 |none=>none
 |some M1=>dF aV xs (63-k) (k+1) M1
theorem qfh(hk:k<64)(hM:k<M.length):dF aV xs (64-k) k M=Ee xs k (jU aV k xs M):=by
 have e:64-k=(63-k)+1:=by omega
 rw[e,dF,if_pos hM];rfl
theorem qdX(hM:¬k<M.length):dF aV xs (64-k) k M=some M:=by
 cases h:64-k with
 |zero=>rfl
 |succ f=>rw[dF,if_neg hM]
structure bz(w:World)(F:Nat->Prop)(p:Nat)(T:Tr)(t:List Nat)(la:Option Addr)(lc:Nat)(l:List Nat)(gi:Nat)(wr:World)(F':Nat->Prop)(M':Mt):Prop where
 rp:RP wr F' p M' 0 (.slice la l.length lc)
 us:eP wr F' la lc l
 bA:vG T M'
 fr:Fr w wr F F'
 row:aN wr gi (dW (fun i=>decide (i∈t)) 256)
 nf:¬F' gi
section
variable {w:World}{F:Nat->Prop}{p:Nat}{T:Tr}{t:List Nat}{la:Option Addr}{lc:Nat}{l:List Nat}{gi:Nat}{wr:World}
def Bv(w:World)(F:Nat->Prop)(p:Nat)(T:Tr)(t:List Nat)(la:Option Addr)(lc:Nat)(l:List Nat)(gi:Nat)(R:Option Mt)(k:Nat)(wr:World):Prop :=
 ∃F' M',bz w F p T t la lc l gi wr F' M'/\dF aV (bP t) (64-k) k M'=R
def Cc(w:World)(F:Nat->Prop)(p:Nat)(T:Tr)(t:List Nat)(la:Option Addr)(lc:Nat)(l:List Nat)(gi:Nat)(R:Option Mt)(k y:Nat)(wr:World):Prop :=
 ∃F' M',bz w F p T t la lc l gi wr F' M'/\k<M'.length/\Ee (bP t) k (jU aV k (oZ t y) M')=R
theorem aN.fr{w:World}{F F':Nat->Prop}{g:Nat}{bs:List Bool}(h:aN w g bs)(fr:Fr w w' F F')(hn:¬F g):aN w' g bs:=(fr.keep g h.lt hn).trans h
theorem Bv.open(h:Bv w F p T t la lc l gi R k wr):∃va n vc,wr.cell? ⟨p,0,none⟩=some (.slice va n vc)/\n<=64/\(k<n->Cc w F p T t la lc l gi R k 0 wr)/\(¬k<n->∃F' M',bz w F p T t la lc l gi wr F' M'/\R=some M'):=by
 obtain⟨F',M',hB,hR⟩:=h;obtain⟨vm,rows,vF⟩:=hB.rp;obtain⟨_,_,e2,_⟩:=vF.kP;obtain⟨va,vc,rfl,_⟩:=qO vF.row bZ;have h64:=vF.few;refine⟨va,_,vc,e2,h64,fun hk=>⟨F',M',hB,hk,?_⟩,fun hk=>⟨F',M',hB,?_⟩⟩
 ·rw[<-hR,qfh (by omega) hk,qeK]
 ·rw[<-hR,qdX hk]
theorem Cc.last(h:Cc w F p T t la lc l gi R k 256 wr):Bv w F p T t la lc l gi R (k+1) wr:=by
 obtain⟨F',M',hB,hk,hR⟩:=h;refine⟨F',M',hB,?_⟩
 rw[<-hR,qfs]
 show _=dF aV (bP t) (63-k) (k+1) M'
 rw[show 64-(k+1)=63-k by omega]
theorem Cc.skip(h:Cc w F p T t la lc l gi R k y wr)(hy:y<256)(hn:y ∉ t):Cc w F p T t la lc l gi R k (y+1) wr:=by
 obtain⟨F',M',hB,hk,hR⟩:=h;exact⟨F',M',hB,hk,by rw[<-hR,bu hy,if_neg hn]⟩
theorem Cc.step(h:Cc w F p T t la lc l gi R k y wr)(kT:KT T)(hsz:T.size<=200)(bB:k<64)(hy:y<256)(hn:y∈t):
  ∃Q,Calls prog 17 #[.pointer (some ⟨p,0,none⟩),.slice (some ⟨wr.heap.size,0,none⟩) 1 1,.int .u8 y] (wr.alloc (.cells #[.int .u64 (2 ^ k:Nat)] 37)) Q /\
   ∀e w1,Q e w1->(∃a n c,e=.returned (.tuple #[.slice a n c,.int .i64 0])/\Cc w F p T t la lc l gi R k (y+1) w1)\/(e=.returned (.tuple #[.slice none 0 0,.int .i64 9])/\R=none/\∃F1,Fr w w1 F F1):=by
 obtain⟨F',M',hB,hk,hR⟩:=h;have hbn:=qd wr (.cells #[.int .u64 (2 ^ k:Nat)] 37);have fn:Fr wr (wr.alloc (.cells #[.int .u64 (2 ^ k:Nat)] 37)) F' F':=Fr.au hbn;obtain⟨vm,rows,vF⟩:=hB.rp;have hU:eP (wr.alloc (.cells #[.int .u64 (2 ^ k:Nat)] 37)) F' (some ⟨wr.heap.size,0,none⟩) 1 [2 ^ k]:=ZY vF.flt bB;refine⟨_,xp p _ F' M' 0 _ 1 [2 ^ k] y _ (hB.rp.up hbn) hU (fun s hs=>by rw[List.mem_singleton.1 hs];exact Nat.pow_lt_pow_right (by decide) hk) (xF kT hsz hy hB.bA),?_⟩
 rintro e w1 (⟨L,M1,F1,a1,c1,hs,rfl,p1,u1,m1,f1,_⟩|⟨hs,rfl,F1,f1⟩)
 ·left
  have f2:Fr wr w1 F' F1:=fn.trans f1;have hi:=(xT [2 ^ k] [] M' M1 L hB.bA (fun s hs=>by rw[List.mem_singleton.1 hs];exact Nat.pow_lt_pow_right (by decide) hk) hs).1
  refine⟨a1,_,c1,rfl,F1,M1,⟨p1,hB.us.fr f2,hi,hB.fr.trans f2,hB.row.fr f2 hB.nf,f2.out hB.nf hB.row.lt⟩,Nat.lt_of_lt_of_le hk m1.length_le,?_⟩
  rw[<-hR,bu hy,if_pos hn,jU,hs]
 ·right
  refine⟨rfl,?_,F1,hB.fr.trans (fn.trans f1)⟩
  rw[<-hR,bu hy,if_pos hn,jU,hs];rfl
end
def bE(ts : List Tk)(zs : List Int)(w : World)(e : Ending)(w' : World) : Prop := Below w.heap.size w w' ∧
  ((jH ts zs ≠ 0 ∧ e = .returned (.tuple #[.pointer none, .int .i64 (jH ts zs)])) ∨
   (jH ts zs = 0 ∧ ∃ T, KT T ∧ ts = T.flat ∧ ((eU T (zN zs) = none ∧ e = .returned (.tuple #[.pointer none, .int .i64 9])) ∨
     ∃ l0 M F p a c, eU T (zN zs) = some (l0, M) ∧ e = .returned (.tuple #[.pointer (some ⟨p, 0, none⟩), .int .i64 0]) ∧ RP w' F p M 0 (.slice a l0.length c) ∧ lN w w' F a c l0 ∧ vG T M ∧ ∀ k, F k → w.heap.size ≤ k)))
theorem qev(g n k:Nat)(w:World)(hk:k<n):(Instr.indexAt 66 (.slice (some ⟨g,0,none⟩) n n) (.int .u8 k)).run prog w=.ok (.pointer (some ⟨g,k,none⟩)) w:=by
 simp[Instr.indexAt,run_underlying underlying66,asIntOf,qZ gd,hk,Result.andThen,go_sem,qi]
theorem qhP(ht:t[k]? =some x):(dW (fun i=>decide (i∈t.take k)) 256).set x true=dW (fun i=>decide (i∈t.take (k+1))) 256:=by
 apply List.ext_getElem (by simp[dW])
 intro i h1 h2;rw[List.getElem_set];simp only[dW,List.getElem_map,List.getElem_range]
 rw[List.take_add_one,ht];by_cases e:x=i
 ·subst e;simp
 ·rw[if_neg e]
  have:¬i=x:=fun h=>e h.symm
  simp[this]
theorem qg2(t:List Nat)(n:Nat):List.replicate n false=dW (fun i=>decide (i∈t.take 0)) n:=by
 apply List.ext_getElem (by simp[dW])
 intro i h1 h2;simp[dW]
theorem qgQ(t:List Nat):List.replicate 256 false=dW (fun i=>decide (i∈t.take 0)) 256:=qg2 t 256
theorem qhN(t:List Nat):dW (fun i=>decide (i∈t.take t.length)) 256=dW (fun i=>decide (i∈t)) 256:=by rw[List.take_length]
theorem qbL(w:World):(Instr.makeSlice 66 (.int .i64 256) (.int .i64 256)).run prog w=.ok (.slice (some ⟨w.heap.size,0,none⟩) 256 256) (w.alloc (.cells (Array.replicate 256 (Value.bool false)) 4)):=YJ 256 (by omega) w
theorem q7u(a:Option Addr)(len cap:Nat)(ts:List Tk)(d:Option Addr)(m c:Nat)(zs:List Int)(w:World)(hT:bG w a len cap ts)(hL:lX w d m c zs)(hsz:ts.length<=200):
  Calls prog 15 #[.slice a len cap,.slice d m c] w (bE ts zs w):=by
 have j1:=qaU a len cap ts d m c zs w hT hL;obtain⟨Q,hQ⟩:∃Q:Ending->World->Prop,Q=bE ts zs w:=⟨_,rfl⟩
 have HQ:Hid (∀e w',bE ts zs w e w'->Q e w'):=fun e w' h=>by rw[hQ];exact h
 rw[<-hQ];clear hQ;by_cases hck:jH ts zs=0
 ·have HJ2:Hid (∀w1,Below w.heap.size w w1->Calls prog 30 #[.slice a len cap] w1 (Ap ts w1)):=fun w1 hb=>q9A a len cap ts w1 (hT.up hb)
  have hc0:bM ts=0:=by
   unfold jH at hck
   split at hck
   ·assumption
   ·omega
  have FV:Hid (∀w1 e w2,Below w.heap.size w w1->Ap ts w1 e w2->(e=.returned (.tuple #[.pointer none,.int .i64 9])/\Q (.returned (.tuple #[.pointer none,.int .i64 9])) w2) \/
    ∃T L M F p la lc,e=.returned (.tuple #[.pointer (some ⟨p,0,none⟩),.int .i64 0])/\KT T/\T.size<=200/\Below w.heap.size w w2/\(∀k,F k->w.heap.size<=k)/\RP w2 F p M 0 (.slice la L.length lc)/\eP w2 F la lc L/\vG T M /\
     (dF aV (bP (zN zs)) 64 0 M=none->∀w3 F3,Fr w2 w3 F F3->Q (.returned (.tuple #[.pointer none,.int .i64 9])) w3) /\
     (∀w3 F3 M3,dF aV (bP (zN zs)) 64 0 M=some M3->Fr w2 w3 F F3->RP w3 F3 p M3 0 (.slice la L.length lc)->eP w3 F3 la lc L->vG T M3->Q (.returned (.tuple #[.pointer (some ⟨p,0,none⟩),.int .i64 0])) w3)):=fun w1 e w2 hb1 hn=>by
   obtain⟨hb2,⟨h0,_⟩|⟨_,T,kT,rfl,⟨hn0,rfl⟩|⟨L,M,F,p,la,lc,hn1,rfl,hP,hU,hF⟩⟩⟩:=hn
   ·exact absurd hc0 h0
   ·refine .inl ⟨rfl,HQ.out _ _ ⟨qe hb1 hb2,.inr ⟨hck,T,kT,rfl,.inl ⟨?_,rfl⟩⟩⟩⟩
    unfold eU;rw[hn0]
   ·have uH:=qe hb1 hb2
    have hF':∀k,F k->w.heap.size<=k:=fun k hk=>Nat.le_trans hb1.size (hF k hk)
    refine .inr ⟨T,L,M,F,p,la,lc,rfl,kT,by rw[qQ];exact hsz,uH,hF',hP,hU,GH T kT (mE T) (fun f hf=>by cases hf) hn1,fun hc w3 F3 f3=>?_,fun w3 F3 M3 hc f3 p3 u3 i3=>?_⟩
    ·refine HQ.out _ _ ⟨uH.trans (f3.below hF' uH.size),.inr ⟨hck,T,kT,rfl,.inl ⟨?_,rfl⟩⟩⟩
     unfold eU;rw[hn1];dsimp only;rw[hc];rfl
    ·refine HQ.out _ _ ⟨uH.trans (f3.below hF' uH.size),.inr ⟨hck,T,kT,rfl,.inr ⟨L,M3,F3,p,la,lc,?_,rfl,p3,⟨u3,fun k hk=>Nat.le_trans hb1.size (hU.nw k hk)⟩,i3,f3.ge hF' uH.size⟩⟩⟩
     unfold eU;rw[hn1];dsimp only;rw[hc];rfl
  have hlen:=hL.sl.hlen;have wY:Hid (∀k (w':World),k<m->(Instr.indexAt 23 (.slice d m c) (.int .i64 k)).run prog w'=.ok (.pointer (some (aG d k))) w'):=fun k w' h=>hL.sl.idx _ k w' h bZ
  have dL:Hid (∀k w',k<m->Below w.heap.size w w'->∃x:Nat,x<256/\(zN zs)[k]? =some x/\w'.cell? (aG d k)=some (.int .u8 x)):=fun k w' h hb=>by
   have hk:k<zs.length:=by omega
   have hv:=hL.ok _ (List.getElem_mem hk);refine⟨zs[k].toNat,by omega,by simp[zN,List.getElem?_eq_getElem hk],?_⟩
   rw[(hL.up hb).sl.cell k h,List.getD_eq_getElem?_getD,kU hk,Option.getD_some]
   congr 2
   omega
  have Tq:Hid ((zN zs).length=m):=by show _=_;rw[H9];exact hlen
  have hb0:=hL.sl.bd;have hb1:=hL.sl.hcap;unfold maxLen at hb0;rw[hck]at j1;clear hT hL hsz hc0 hck hlen;generalize zN zs=t at *;go_enter func15,ntmps15
  go_wp2_with fail
  (with_reducible refine j1.mono ?_)
  rintro e w1 ⟨rfl,Ll⟩
  have j2:=HJ2.out w1 Ll;have HB1:Hid _:=Ll;clear j1 Ll HJ2
  go_wp2_with fail
  (with_reducible refine j2.mono ?_)
  intro e w2 hn;rcases FV.out w1 e w2 HB1.out hn with⟨he,hq⟩|⟨T,L,M,F,p,la,lc,he,kT,hsz,hB2,hF,hP,hU,hI,hno,hyes⟩
  ·subst he
   have HX:Hid _:=hq;clear hq hn j2;go_wp2;exact HX.out
  ·subst he
   have EN:Hid (KT T/\T.size<=200):=⟨kT,hsz⟩;have HB2:=aX hB2;have HP:Hid (RP w2 F p M 0 (.slice la L.length lc)/\eP w2 F la lc L/\vG T M):=⟨hP,hU,hI⟩;have BL:Hid _:=hno;have JR:Hid _:=hyes;have hm:=qbL w2
   have HRW:Hid (aN (w2.alloc (.cells (Array.replicate 256 (Value.bool false)) 4)) w2.heap.size (dW (fun i=>decide (i∈t.take 0)) 256)):=by
    show aN _ _ _
    rw[<-qgQ];exact aN.made w2 256
   have Dl:Hid (Below w2.heap.size w2 (w2.alloc (.cells (Array.replicate 256 (Value.bool false)) 4))):=qd w2 _;clear hn j2 FV kT hsz hB2 hP hU hI hno hyes hF;go_wp2;clear hm;generalize w2.alloc (.cells (Array.replicate 256 (Value.bool false)) 4)=w3 at *
   go_loopw [10] (fun i wr=>∃k:Nat,k<=m/\i=.int .i64 k/\Hid (aN wr w2.heap.size (dW (fun i=>decide (i∈t.take k)) 256))/\Hid (Below w2.heap.size w2 wr)) (fun i _=>m-(intOf i).toNat)
   case atStart=>exact⟨0,Nat.zero_le _,rfl,HRW,Dl⟩
   case round=>
    obtain⟨k,hk,rfl,HR,HW⟩:=hrel;clear HRW Dl;by_cases hlt:k<m
    ·obtain⟨x,hx,htx,hcx⟩:=dL.out k wr hlt (qe HB2.out HW.out)
     have hi:=fun w'=>wY.out k w' hlt
     have hi8:=fun w'=>qev w2.heap.size 256 x w' hx
     have hcc:=HR.out.cell (i:=x) (by rw[qR];exact hx)
     have hfz:=HR.out.fz x
     have HS:Hid (aN (wr.setCell ⟨w2.heap.size,x,none⟩ (.bool true)) w2.heap.size (dW (fun i=>decide (i∈t.take (k+1))) 256)):=by
      have:=HR.out.set x true
      rw[qhP htx]at this;exact this
     have YL:Hid (Below w2.heap.size w2 (wr.setCell ⟨w2.heap.size,x,none⟩ (.bool true))):=HW.out.setCell bZ _;clear htx;generalize (dW (fun i=>decide (i∈t.take k)) 256).getD x false=q at *;generalize aG d k=ad at *;obtain⟨g0,o0,s0⟩:=ad;go_wp2
     go_roundw
     case rel=>exact⟨k+1,by omega,by go_num,HS,YL⟩
     case measure=>simp[intOf];omega
    ·obtain rfl:k=m:=by omega
     have HST:Hid (Bv w2 F p T t la lc L w2.heap.size (dF aV (bP t) 64 0 M) 0 wr):=by
      obtain⟨h1,h2,h3⟩:=HP.out;have fr:Fr w2 wr F F:=Fr.au HW.out;refine⟨F,M,⟨h1.up HW.out,h2.fr fr,h3,fr,?_,fun hf=>?_⟩,rfl⟩
      ·have:=HR.out
       rw[<-Tq.out,qhN]at this;exact this
      ·obtain⟨_,_,hR⟩:=h1
       have:=hR.flt _ hf
       omega
     clear HR HW dL wY;go_wp2;generalize dF aV (bP t) 64 0 M=R at *
     go_loopw [11] (fun i wr=>∃k:Nat,k<=64/\i=.int .i64 k/\Hid (Bv w2 F p T t la lc L w2.heap.size R k wr)) (fun i _=>64-(intOf i).toNat)
     case atStart=>exact⟨0,by omega,rfl,HST⟩
     case round=>
      obtain⟨k,hk,rfl,HO⟩:=hrel;clear HST;obtain⟨va,n,vc,c0,Rk,hgo,hstop⟩:=HO.out.open;by_cases hlt:k<n
      ·have HI:Hid (Cc w2 F p T t la lc L w2.heap.size R k 0 wr):=hgo hlt
       clear hgo hstop HO;go_wp2;clear c0
       go_loopw [12] (fun i wr=>∃y:Nat,y<=256/\i=.int .i64 y/\Hid (Cc w2 F p T t la lc L w2.heap.size R k y wr)) (fun i _=>256-(intOf i).toNat)
       case atStart=>exact⟨0,by omega,rfl,HI⟩
       case round=>
        obtain⟨y,hy,rfl,HY⟩:=hrel;clear HI;by_cases hy2:y<256
        ·have hrow:wr.cell? ⟨w2.heap.size,y,none⟩=some (.bool (decide (y∈t))):=by
          obtain⟨_,_,hB,_⟩:=HY.out;have:=hB.row.cell (i:=y) (by rw[qR];exact hy2)
          rw[qW _ hy2]at this;exact this
         have hi:=fun w'=>qM w2.heap.size 256 y w' hy2
         by_cases hmem:y∈t
         ·rw[decide_eq_true hmem]at hrow
          obtain⟨Q1,j1,h1⟩:=HY.out.step EN.out.1 EN.out.2 (by omega) hy2 hmem
          have ru:Hid _:=h1;have hpw:=ZW (k:=k) (by omega)
          have Om:IntKind.u8.wrap (y:Int)=(y:Int):=by rw[IntKind.wrap_u8];omega
          rw[show (((2 ^ k:Nat):Int))=(2:Int) ^ k by simp]at j1
          clear h1 hmem HY
          go_wp2_with fail
          (with_reducible refine j1.mono ?_)
          intro e w4 hq;rcases ru.out e w4 hq with⟨a1,n1,c1,he,hcl⟩|⟨he,hR,F1,f1⟩
          ·subst he
           have HC:=aX hcl;clear hcl hq j1 ru hrow;go_wp2
           go_roundw
           case rel=>exact⟨y+1,by omega,by go_num,HC⟩
           case measure=>simp[intOf];omega
          ·subst he
           have HX:Hid (Q (.returned (.tuple #[.pointer none,.int .i64 9])) w4):=BL.out hR w4 F1 f1;clear hR f1 hq j1 ru hrow;go_wp2;exact HX.out
         ·rw[decide_eq_false hmem]at hrow
          have HC:Hid (Cc w2 F p T t la lc L w2.heap.size R k (y+1) wr):=HY.out.skip hy2 hmem;clear hmem HY;go_wp2
          go_roundw
          case rel=>exact⟨y+1,by omega,by go_num,HC⟩
          case measure=>simp[intOf];omega
        ·obtain rfl:y=256:=by omega
         have HC:Hid (Bv w2 F p T t la lc L w2.heap.size R (k+1) wr):=HY.out.last;clear HY;go_wp2
         go_roundw
         case rel=>exact⟨k+1,by omega,by go_num,HC⟩
         case measure=>simp[intOf];omega
      ·obtain⟨F',M',hB,hR⟩:=hstop hlt
       have HX:Hid (Q (.returned (.tuple #[.pointer (some ⟨p,0,none⟩),.int .i64 0])) wr):=JR.out wr F' M' hR hB.fr hB.rp hB.us hB.bA;clear hB hR hgo hstop HO;go_wp2;exact HX.out
 ·have HX:Hid (∀w',Below w.heap.size w w'->Q (.returned (.tuple #[.pointer none,.int .i64 (jH ts zs)])) w'):=fun w' hb=>HQ.out _ _ ⟨hb,.inl ⟨hck,rfl⟩⟩
  have hne:((jH ts zs) != 0)=true:=by simpa using hck
  generalize jH ts zs=r at *;clear hT hL hck HQ;go_enter func15,ntmps15
  go_wp2_with fail
  (with_reducible refine j1.mono ?_)
  rintro e w1 ⟨rfl,hb⟩
  have HB:Hid _:=hb;clear hb j1;go_wp2;exact HX.out _ HB.out
theorem q8o(p:Nat)(va:Option Addr)(n vc:Nat)(F:Nat->Prop)(M:Mt)(er:Nat)(w:World)(hP:RP w F p M er (.slice va n vc)):
  Calls prog 16 #[.pointer (some ⟨p,0,none⟩)] w fun e w'=>e=.returned (.slice va n vc)/\w'=w:=by
 obtain⟨vm,rows,hR⟩:=hP;have c1:w.cell? ⟨p,1,none⟩=some (.slice va n vc):=qc hR.blk 1;clear hR;go_enter func16,ntmps16
 go_wp2;go_ret
 exact⟨rfl,rfl⟩
end Go.Proofs.YtoioiellaomonaaGreatDoor
