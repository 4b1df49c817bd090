import Derived.Deep.RegionLaw
import Derived.Deep.RegionHeld2
import Derived.Test.YtoioiellaomonaaGreatDoorZ06
import Derived.Test.YtoioiellaomonaaGreatDoorZ08
import Derived.Test.YtoioiellaomonaaGreatDoorZ11
import Derived.Test.YtoioiellaomonaaGreatDoorZ13
import Derived.Test.YtoioiellaomonaaGreatDoorZ19
import Derived.Test.YtoioiellaomonaaGreatDoorZ20
set_option maxRecDepth 100000
set_option maxHeartbeats 16000000
namespace Go.Proofs.YtoioiellaomonaaGreatDoor
open Go.RowKit Go.Maps Proofs.Tryz
variable {b mp n B k t p mn bp bw c d E g h m x:Nat}{w w' wr w1 W w2 w5:World}{T T0:Tr}{vi vt vs v':Value}{aj:List It}{F F' F1:Nat->Prop}{M:Mt}{a q:Option Addr}{l l0:List Nat}{R:Rt}{o:Obj}
def lQ(n:Nat):List ByteArray:=List.replicate n ⟨#[]⟩
theorem qfK(n:Nat):lQ n++[⟨#[]⟩]=lQ (n+1):=by
 unfold lQ;rw[List.replicate_succ']
structure KN(w:World)(B b:Nat)(vi:Value)(mp:Nat)(vt:Value)(T:Tr)(aj:List It)(n:Nat):Prop where
 k:mN T aj n
 ok:∀x∈aj,kF x
 r:jM w b 86 [] vi mp vt aj (lQ aj.length) aj.length (gI aj)
 ge:∀k,FP b mp vi vt k->B<=k
theorem qhK{w3:World}(hb:w3.heap[b]? =some (.cells #[.slice none 0 0,.map none,.slice none 0 0] 86 (0,0))):
  yM ((w3.setCell ⟨b,1,none⟩ (.map (some w3.heap.size))).alloc (.map #[] 0)) (fun k=>k=b\/k=w3.heap.size) b 86 [] [] []:=by
 have hl:b<w3.heap.size:=(lC hb).1
 have h1:=heap_setCell_same _ b 1 _ _ (.map (some w3.heap.size)) hb;have hz:(w3.setCell ⟨b,1,none⟩ (.map (some w3.heap.size))).heap.size=w3.heap.size:=by simp
 have hn:=gl (w3.setCell ⟨b,1,none⟩ (.map (some w3.heap.size)));rw[hz]at hn;refine⟨by simp,rfl,by simp,fun x hx=>(by cases hx),fun x hx=>(by cases hx),.slice none 0 0,w3.heap.size,.slice none 0 0,⟨Or.inl rfl,?_,⟨rfl,Or.inl ⟨rfl,rfl⟩⟩,⟨rfl,Or.inl ⟨rfl,rfl⟩⟩,hn.alike fun x _=>rfl⟩,fun k=>?_⟩
 ·rw[(qd _ _).block b (by rw[hz];exact hl),h1];rfl
 ·constructor
  ·rintro (h|h)
   ·exact Or.inl h
   ·exact Or.inr (Or.inl h)
  ·rintro (h|h|h|h)
   ·exact Or.inl h
   ·exact Or.inr h
   ·cases h
   ·cases h
theorem jM.again{T:TypeId}{aS:List ByteArray}{f:It->Option Nat}(h:jM w b T [] vi mp vt aj aS n f):
  jM (((w.setCell ⟨b,0,none⟩ vi).setCell ⟨b,1,none⟩ (.map (some mp))).setCell ⟨b,2,none⟩ vt) b T [] vi mp vt aj aS n f/\∀k:Nat,(((w.setCell ⟨b,0,none⟩ vi).setCell ⟨b,1,none⟩ (.map (some mp))).setCell ⟨b,2,none⟩ vt).heap[k]? =w.heap[k]? := by
 have k1:=heap_setCell_same w b 0 _ _ vi h.blk;have k2:=heap_setCell_same _ b 1 _ _ (.map (some mp)) k1;have k3:=heap_setCell_same _ b 2 _ _ vt k2
 have all:∀k:Nat,(((w.setCell ⟨b,0,none⟩ vi).setCell ⟨b,1,none⟩ (.map (some mp))).setCell ⟨b,2,none⟩ vt).heap[k]? =w.heap[k]? := fun k=>by
  by_cases e:k=b
  ·subst e;rw[k3,h.blk];rfl
  ·exact(Below.heap_setCell _ _ _ _ e).trans ((Below.heap_setCell _ _ _ _ e).trans (Below.heap_setCell _ _ _ _ e))
 exact⟨h.far fun k _=>all k,all⟩
theorem IQ(h:Below B w w')(a:Addr)(v:Value)(ha:B<=a.block):Below B w (w'.setCell a v) :=
 ⟨h.os,h.tape,h.output,by simp;exact h.size,fun k hk=>(Below.heap_setCell _ _ _ _ (by omega)).trans (h.block k hk)⟩
structure EK(w wr:World)(b t:Nat)(F:Nat->Prop)(aj:List It)(k:Nat):Prop where
 p:∃G,yM wr G b 86 [] (aj.take k) (lQ k)/\(∀j,G j->w.heap.size<=j)/\∀j,F j->¬G j
 t:iR wr F t aj
 b:Below w.heap.size w wr
theorem qgY(hn:aj.Nodup)(hk:k<aj.length):aj[k] ∉ aj.take k:=fun h=>by
 obtain⟨j,hj,e⟩:=List.getElem_of_mem h;rw[List.getElem_take]at e;have:=(List.getElem_inj hn).1 e
 simp at hj
 omega
theorem EK.up(h:EK w wr b t F aj k)(hb:Below wr.heap.size wr w'):EK w w' b t F aj k:=by
 obtain⟨G,hp,h1,h2⟩:=h.p;exact⟨⟨G,hp.up hb,h1,h2⟩,h.t.up hb,qe h.b hb⟩
theorem q8g(h:EK w wr b t F aj k)(hk:k<aj.length):Calls prog 73 #[.pointer (some ⟨b,0,none⟩),iV aj[k]] wr fun e w'=>(∃j,e=.returned (.int .i64 j))/\EK w w' b t F aj (k+1):=by
 obtain⟨G,hp,h1,h2⟩:=h.p;have hnd:=h.t.nd;have hfew:=h.t.few;refine (nk hp aj[k] (h.t.ok _ (List.getElem_mem hk)) (qgY hnd hk) (by simp;omega)).mono ?_
 rintro e w' ⟨rfl,G',hp',fr⟩
 rw[qfK,List.take_append_getElem hk]at hp';refine⟨⟨_,rfl⟩,⟨G',hp',fr.ge h1 h.b.size,fun j hj hG=>?_⟩,h.t.far fun j hj=>fr.keep j (h.t.lt j hj) (h2 j hj),h.b.trans (fr.below h1 h.b.size)⟩
 rcases fr.foot j hG with e|e
 ·exact h2 j hj e
 ·have:=h.t.lt j hj;omega
theorem EK.fin(h:EK w wr b t F aj aj.length):∃vi mp vt,jM wr b 86 [] vi mp vt aj (lQ aj.length) aj.length (gI aj)/\∀k,FP b mp vi vt k->w.heap.size<=k:=by
 obtain⟨G,hp,h1,_⟩:=h.p;rw[List.take_length]at hp;obtain⟨vi,mp,vt,hr,hG⟩:=hp.ex;exact⟨vi,mp,vt,hr,fun k hk=>h1 k ((hG k).2 hk)⟩
theorem ud(a:Option Addr)(len cap:Nat)(ts:List Tk)(w:World)(hT:bG w a len cap ts):
  Calls prog 44 #[.slice a len cap] w fun e w'=>Below w.heap.size w w'/\((bM ts≠0/\e=.returned (.tuple #[.agg #[.slice none 0 0,.map none,.slice none 0 0],.int .i64 0,.int .i64 (bM ts:Int)])) \/
   (bM ts=0/\∃T aj n b vi mp vt,KT T/\T.size<=2048/\ts=T.flat/\KN w' w.heap.size b vi mp vt T aj n/\e=.returned (.tuple #[.agg #[vi,.map (some mp),vt],.int .i64 n,.int .i64 0]))):=by
 obtain⟨w0,hw0⟩:∃w0,w0=w.alloc (.cells #[.slice none 0 0,.map none,.slice none 0 0] 86):=⟨_,rfl⟩
 have hb0:Below w.heap.size w w0:=by rw[hw0];exact qd _ _
 have hz0:w0.heap.size=w.heap.size+1:=by rw[hw0];simp
 have hv0:w0.heap[w.heap.size]? =some (.cells #[.slice none 0 0,.map none,.slice none 0 0] 86 (0,0)):=by rw[hw0];exact(dO w _).1
 have jn:=qbd w0;have hmm:=@run_makeMap prog;have HT:Hid _:=hT.up hb0
 have EL:Hid (∀x,a=some x->0<len->x.block<w0.heap.size):=fun x hx hl=>by
  have h1:=(hT.up hb0);subst hx;exact h1.lt hl
 have HB0:Hid _:=hb0;have HZ0:Hid _:=hz0;have Rw:Hid _:=hv0;have HW0:Hid _:=hw0;clear hT hb0 hz0 hv0 hw0;by_cases hc:bM ts=0
 ·obtain⟨T,kT,hsz,hts,hE,hK⟩:=qgv hc
  obtain⟨aj,hi⟩:∃aj,aj=jZ [] ts:=⟨_,rfl⟩
  obtain⟨n,hn⟩:∃n,n=kH [] ts:=⟨_,rfl⟩
  rw[<-hi,<-hn]at hK;have iy:Hid (∀w' vi mp vt,KN w' w.heap.size w.heap.size vi mp vt T aj n->∃T' aI n' b uD mp' wW,KT T'/\T'.size<=2048/\ts=T'.flat/\KN w' w.heap.size b uD mp' wW T' aI n'/\(Ending.returned (.tuple #[.agg #[vi,.map (some mp),vt],.int .i64 n,.int .i64 0]))=.returned (.tuple #[.agg #[uD,.map (some mp'),wW],.int .i64 n',.int .i64 0])):=fun w' vi mp vt h=>⟨T,aj,n,_,vi,mp,vt,kT,hsz,hts,h,rfl⟩
  have HK:Hid _:=hK;have HI:Hid _:=hi;have HN:Hid _:=hn;have HE:Hid _:=hE;have HC:Hid _:=hc;clear kT hsz hts hK hi hn hE hc;go_enter func44,ntmps44
  go_wp2_with fail
  rw[<-HW0.out];refine jn.mono ?_
  rintro e w1 ⟨t,F,rfl,D9,hge,hb1⟩
  have jk:=om a len cap ts ⟨D9,dr⟩ (HT.out.up hb1) (fun hl x hx e=>by have:=EL.out x hx hl;have:=hge _ e;omega)
  rw[HE.out,<-HI.out,<-HN.out]at jk;have o8:Hid (∀k,F k->w0.heap.size<=k):=hge;have HB1:Hid _:=hb1;clear jn D9 hge hb1;unfold uQ
  go_wp2_with fail
  refine jk.mono ?_
  rintro e w2 ⟨rfl,F2,vw,dA⟩
  have hb2:Below w0.heap.size w1 w2:=dA.below o8.out HB1.out.size;have hbb:Below w0.heap.size w0 w2:=HB1.out.trans hb2;have hv2:w2.heap[w.heap.size]? =some (.cells #[.slice none 0 0,.map none,.slice none 0 0] 86 (0,0)):=(hbb.block _ (by have:=HZ0.out;omega)).trans Rw.out
  have hg2:∀k,F2 k->w0.heap.size<=k:=dA.ge o8.out HB1.out.size;have hp0:=qhK hv2;have HB2:Hid (Below w.heap.size w w2):=HB0.out.trans (hbb.mono (by have:=HZ0.out;omega))
  have hl2:w.heap.size<w2.heap.size:=(lC hv2).1
  have d1:w2.cell? ⟨w.heap.size,1,none⟩=some (.map none):=qc hv2 1;have z1:w2.frozen? ⟨w.heap.size,1,none⟩=false:=frozen_of_row _ _ 1 _ _ hv2;have hzs:(w2.setCell ⟨w.heap.size,1,none⟩ (.map (some w2.heap.size))).heap.size=w2.heap.size:=by simp
  have vS:Hid (EK w ((w2.setCell ⟨w.heap.size,1,none⟩ (.map (some w2.heap.size))).alloc (.map #[] 0)) w.heap.size t F2 aj 0):=by
   refine⟨⟨_,hp0,fun j hj=>?_,fun j hj hG=>?_⟩,vw.1.far fun k hk=>?_,?_⟩
   ·rcases hj with rfl|rfl<;>omega
   ·have h1:=hg2 j hj
    have h2:=vw.1.lt j hj;have:=HZ0.out
    rcases hG with e|e<;>omega
   ·have h1:=hg2 k hk
    have h2:=vw.1.lt k hk;have:=HZ0.out
    exact((qd _ _).block k (by rw[hzs];exact h2)).trans (Below.heap_setCell _ _ _ _ (by dsimp only;omega))
   ·exact qe (IQ HB2.out _ _ bZ) (qd _ _)
  clear jk vw dA hb2 hbb hv2 hg2 hp0 hzs;have hfew:aj.length<=2048:=HK.out.few;generalize hL:aj.length=L at *;have HL:=aX hL;clear hL
  go_wp2_with fail
  generalize (w2.setCell ⟨w.heap.size,1,none⟩ (.map (some w2.heap.size))).alloc (.map #[] 0)=w3 at *;have jl:=Fo vS.out.t;rw[HL.out]at jl;refine jl.mono ?_
  rintro e w4 ⟨rfl,hw4⟩
  obtain rfl:=hw4.symm
  clear jl d1 z1;go_wp2
  go_loopw [24] (fun i wr=>∃k:Nat,k<=L/\i=.int .i64 k/\Hid (EK w wr w.heap.size t F2 aj k)) (fun i _=>L-(intOf i).toNat)
  case atStart=>exact⟨0,Nat.zero_le _,rfl,vS⟩
  case round=>
   clear vS;obtain⟨k,hk,rfl,HG⟩:=hrel;by_cases hlt:k<L
   ·have hki:k<aj.length:=by have:=HL.out;omega
    have ji:=FA HG.out.t k aj[k] (kU hki)
    have U7:Hid (∀w',Below wr.heap.size wr w'->Calls prog 73 #[.pointer (some ⟨w.heap.size,0,none⟩),iV aj[k]] (w'.alloc (aW aj[k])) fun e w''=>(∃j,e=.returned (.int .i64 j))/\EK w w'' w.heap.size t F2 aj (k+1)):=fun w' hb=>q8g ((HG.out.up hb).up (qd w' _)) hki
    obtain⟨x,hx⟩:∃x,x=aj[k]:=⟨_,rfl⟩
    rw[<-hx]at ji U7;clear hx HG;obtain⟨op,p,xa,xb⟩:=x;unfold iV at *;unfold aW at *;dsimp only at *
    go_wp2_with fail
    refine ji.mono ?_
    rintro e w5 ⟨rfl,hb5⟩
    have jk:=U7.out w5 hb5;clear ji hb5
    go_wp2_with fail
    refine jk.mono ?_
    rintro e w6 ⟨⟨j,rfl⟩,ui⟩
    have rP:Hid _:=ui;clear jk ui;go_wp2
    go_roundw
    case rel=>exact⟨k+1,by omega,by go_num,rP⟩
    case measure=>simp[intOf]<;>omega
   ·obtain rfl:k=L:=by omega
    have hg:=HG.out;rw[<-HL.out]at hg;obtain⟨vi,mp,vt,hr,hge⟩:=hg.fin;have h3:=hr.again;obtain⟨ai,ci,rfl⟩:=qK hr.ri;obtain⟨at',ct,rfl⟩:=qK hr.rt;have f0:=hr.c0;have f1:=hr.c1;have f2:=hr.c2;have z0:wr.frozen? ⟨w.heap.size,0,none⟩=false:=frozen_of_row _ _ 0 _ _ hr.blk;have z1:wr.frozen? ⟨w.heap.size,1,none⟩=false:=frozen_of_row _ _ 1 _ _ hr.blk;have z2:wr.frozen? ⟨w.heap.size,2,none⟩=false:=frozen_of_row _ _ 2 _ _ hr.blk;have HQ:Hid _:=iy.out _ _ _ _ ⟨HK.out,HG.out.t.ok,h3.1,hge⟩;have zH:Hid _:=IQ (IQ (IQ HG.out.b ⟨w.heap.size,0,none⟩ (.slice ai aj.length ci) (Nat.le_refl _)) ⟨w.heap.size,1,none⟩ (.map (some mp)) (Nat.le_refl _)) ⟨w.heap.size,2,none⟩ (.slice at' (lQ aj.length).length ct) (Nat.le_refl _);have g0:=h3.1.c0;have g1:=h3.1.c1;have g2:=h3.1.c2;clear hr hg h3 hge HG;go_wp2;generalize (((wr.setCell ⟨w.heap.size,0,none⟩ (.slice ai aj.length ci)).setCell ⟨w.heap.size,1,none⟩ (.map (some mp))).setCell ⟨w.heap.size,2,none⟩ (.slice at' (lQ aj.length).length ct))=W at *;refine bodyPost_ret (v:=.tuple #[.agg #[.slice ai aj.length ci,.map (some mp),.slice at' (lQ aj.length).length ct],.int .i64 n,.int .i64 0]) (by simp[results,results44,go_sem,g0,g1,g2]) rfl ⟨zH.out,Or.inr ⟨HC.out,HQ.out⟩⟩
 ·obtain⟨h1,h2,h3⟩:=oe (aj:=[]) hc
  have hne:(((bM ts:Nat):Int) != 0)=true:=by simp;omega
  have HC:Hid _:=hc;have H1:Hid _:=h1;have H3:Hid _:=h3;clear hc h1 h2 h3;obtain⟨E,hE⟩:∃E,E=bM ts:=⟨_,rfl⟩
  have HE:Hid _:=hE;rw[<-hE]at hne;rw[<-hE];clear hE;go_enter func44,ntmps44
  go_wp2_with fail
  rw[<-HW0.out];refine jn.mono ?_
  rintro e w1 ⟨t,F,rfl,D9,hge,hb1⟩
  have jk:=om a len cap ts ⟨D9,dr⟩ (HT.out.up hb1) (fun hl x hx e=>by have:=EL.out x hx hl;have:=hge _ e;omega)
  rw[H1.out,H3.out,<-HE.out]at jk;have o8:Hid (∀k,F k->w0.heap.size<=k):=hge;have HB1:Hid _:=hb1;clear jn D9 hge hb1 hmm;unfold uQ
  go_wp2_with fail
  refine jk.mono ?_
  rintro e w2 ⟨rfl,F2,vw,dA⟩
  have hb2:Below w0.heap.size w1 w2:=dA.below o8.out HB1.out.size;have hbb:Below w0.heap.size w0 w2:=HB1.out.trans hb2;have hv2:w2.heap[w.heap.size]? =some (.cells #[.slice none 0 0,.map none,.slice none 0 0] 86 (0,0)):=(hbb.block _ (by have:=HZ0.out;omega)).trans Rw.out
  have HB2:Hid (Below w.heap.size w w2):=HB0.out.trans (hbb.mono (by have:=HZ0.out;omega))
  have f0:w2.cell? ⟨w.heap.size,0,none⟩=some (.slice none 0 0):=qc hv2 0;have f1:w2.cell? ⟨w.heap.size,1,none⟩=some (.map none):=qc hv2 1;have f2:w2.cell? ⟨w.heap.size,2,none⟩=some (.slice none 0 0):=qc hv2 2;have z0:w2.frozen? ⟨w.heap.size,0,none⟩=false:=frozen_of_row _ _ 0 _ _ hv2;have z1:w2.frozen? ⟨w.heap.size,1,none⟩=false:=frozen_of_row _ _ 1 _ _ hv2;have z2:w2.frozen? ⟨w.heap.size,2,none⟩=false:=frozen_of_row _ _ 2 _ _ hv2;have zH:Hid _:=IQ (IQ (IQ HB2.out ⟨w.heap.size,0,none⟩ (.slice none 0 0) bZ) ⟨w.heap.size,1,none⟩ (.map none) bZ) ⟨w.heap.size,2,none⟩ (.slice none 0 0) bZ;have k1:=heap_setCell_same w2 _ 0 _ _ (.slice none 0 0) hv2;have k2:=heap_setCell_same _ _ 1 _ _ (.map none) k1;have k3:=heap_setCell_same _ _ 2 _ _ (.slice none 0 0) k2;have g0:(((w2.setCell ⟨w.heap.size,0,none⟩ (.slice none 0 0)).setCell ⟨w.heap.size,1,none⟩ (.map none)).setCell ⟨w.heap.size,2,none⟩ (.slice none 0 0)).cell? ⟨w.heap.size,0,none⟩=some (.slice none 0 0):=qc k3 0;have g1:(((w2.setCell ⟨w.heap.size,0,none⟩ (.slice none 0 0)).setCell ⟨w.heap.size,1,none⟩ (.map none)).setCell ⟨w.heap.size,2,none⟩ (.slice none 0 0)).cell? ⟨w.heap.size,1,none⟩=some (.map none):=qc k3 1;have g2:(((w2.setCell ⟨w.heap.size,0,none⟩ (.slice none 0 0)).setCell ⟨w.heap.size,1,none⟩ (.map none)).setCell ⟨w.heap.size,2,none⟩ (.slice none 0 0)).cell? ⟨w.heap.size,2,none⟩=some (.slice none 0 0):=qc k3 2;clear jk vw dA hb2 hbb hv2 k1 k2 k3;go_wp2;generalize (((w2.setCell ⟨w.heap.size,0,none⟩ (.slice none 0 0)).setCell ⟨w.heap.size,1,none⟩ (.map none)).setCell ⟨w.heap.size,2,none⟩ (.slice none 0 0))=W at *;have HCE:Hid (E≠0):=by have:=HC.out;rw[<-HE.out]at this;exact this
  refine bodyPost_ret (v:=.tuple #[.agg #[.slice none 0 0,.map none,.slice none 0 0],.int .i64 0,.int .i64 E]) (by simp[results,results44,go_sem,g0,g1,g2]) rfl ⟨zH.out,Or.inl ⟨HCE.out,rfl⟩⟩
theorem iE.start(h:iE T0 w F p vs aj M)(v:Value):iE T0 (w.setCell ⟨p,6,none⟩ v) F p v aj M/\F p/\w.cell? ⟨p,6,none⟩=some vs/\w.frozen? ⟨p,6,none⟩=false:=by
 obtain⟨G,mn,vm,met,hr,hF⟩:=h.ex;have st:∀k,k≠p->(w.setCell ⟨p,6,none⟩ v).heap[k]? =w.heap[k]? := fun k hk=>Below.heap_setCell _ _ _ _ hk
 refine⟨⟨h.few,h.nd,h.of,G,mn,vm,met,⟨hr.po.oQ (j:=3) v,qz hr.row fun k hk=>st k fun e=>hr.nv k hk (e ▸ hr.gp),hr.num.far (st mn fun e=>hr.ng (e ▸ hr.gp)),hr.met,hr.ng,hr.nv⟩,hF⟩,(hF p).2 (Or.inl hr.gp),hr.c6,hr.fz 6⟩
theorem qin(kT:KT T)(hsz:T.size<=2048)(h:KN w1 B b vi mp vt T aj n)(hb:Below w1.heap.size w1 W)(hp:w1.heap.size<=p)(hm:w1.heap.size<=mn)(hB:B<=w1.heap.size)
  (hP:W.heap[p]? =some (.cells (MO vi mp vt (jV p mn (.slice none 0 0) (.slice none 0 0))) 89 (0,0))) (hN:jA W mn 0 (fun _=>none)):
  ∃F,iE T W F p (.slice none 0 0) aj []/\∀k,F k->B<=k/\(k<w1.heap.size\/k=p\/k=mn):=by
 obtain⟨es,c,hmap⟩:=hN.isMap;have hpm:p≠mn:=fun e=>by rw[e,hmap]at hP;cases hP
 have hlt:=h.r.lt
 have hR:jM W p 89 (jV p mn (.slice none 0 0) (.slice none 0 0)) vi mp vt aj (lQ aj.length) aj.length (gI aj) :=
  ⟨Or.inr rfl,hP,qC h.r.ri hb,qC h.r.rt hb,h.r.num.far (hb.block mp h.r.num.lt)⟩
 have hG:∀k,FP p mp vi vt k->k=p\/FP b mp vi vt k:=fun k hk=>by
  rcases hk with e|e
  ·exact Or.inl e
  ·exact Or.inr (Or.inr e)
 have hpo:kW T W (FP p mp vi vt) p 89 (jV p mn (.slice none 0 0) (.slice none 0 0)) aj:=by
  refine⟨⟨kT,hsz⟩,h.k.low,h.k.BJ,lQ aj.length,⟨h.k.nd,by simp[lQ],by have:=h.k.few;omega,h.ok,fun s hs=>?_,vi,mp,vt,hR,fun k=>Iff.rfl⟩,fun j S hr=>Or.inl ?_⟩
  ·have:=List.eq_of_mem_replicate hs
   subst this;unfold xK
   decide
  ·unfold lQ
   rw[List.getElem?_replicate,if_pos hr.lt]
 refine⟨FQ (FP p mp vi vt) mn (.slice none 0 0),⟨by simp,by simp,fun f hf=>(by cases hf),FP p mp vi vt,mn,.slice none 0 0,[],⟨hpo,⟨rfl,Or.inl ⟨rfl,rfl⟩⟩,hN.alike fun x _=>rfl,⟨rfl,fun n i hi=>(by simp at hi)⟩,fun e=>?_,fun k hk=>(by cases hk)⟩,fun k=>Iff.rfl⟩,fun k hk=>?_⟩
 ·rcases hG _ e with e|e
  ·exact hpm e.symm
  ·have:=hlt _ e;omega
 ·rcases hk with e|e|e
  ·rcases hG _ e with e|e
   ·exact⟨by omega,Or.inr (Or.inl e)⟩
   ·exact⟨h.ge k e,Or.inl (hlt _ e)⟩
  ·exact⟨by omega,Or.inr (Or.inr e)⟩
  ·cases e
structure EM(w:World)(F:Nat->Prop)(p n bp bw:Nat):Prop where
 h0:w.heap[bp]? =some (.cells #[.pointer (some ⟨p,0,none⟩)] 55 (0,0))
 h1:w.heap[bw]? =some (.cells #[.int .i64 n] 3 (0,0))
 n0:¬F bp
 n1:¬F bw
theorem EM.fr(h:EM w F p n bp bw)(fr:Fr w w' F F'):EM w' F' p n bp bw :=
 ⟨(qj h.h0 h.n0 fr).1,(qj h.h1 h.n1 fr).1,(qj h.h0 h.n0 fr).2,(qj h.h1 h.n1 fr).2⟩
theorem EM.cells(h:EM w F p n bp bw):w.cell? ⟨bp,0,none⟩=some (.pointer (some ⟨p,0,none⟩))/\w.cell? ⟨bw,0,none⟩=some (.int .i64 n):=⟨qc h.h0 0,qc h.h1 0⟩
theorem EM.set(h:EM w F p n bp bw)(hp:F p)(j:Nat)(v:Value):(w.setCell ⟨p,j,none⟩ v).cell? ⟨bp,0,none⟩=some (.pointer (some ⟨p,0,none⟩))/\(w.setCell ⟨p,j,none⟩ v).cell? ⟨bw,0,none⟩=some (.int .i64 n) :=
 ⟨qc ((Below.heap_setCell _ _ _ _ (fun e=>h.n0 (by have e':bp=p:=e;rw[e'];exact hp))).trans h.h0) 0,qc ((Below.heap_setCell _ _ _ _ (fun e=>h.n1 (by have e':bw=p:=e;rw[e'];exact hp))).trans h.h1) 0⟩
theorem qiu(h:US w F a n c l)(hp:F p)(j:Nat)(v:Value):US (w.setCell ⟨p,j,none⟩ v) F a n c l:=by
 have hs:=h.sl;refine⟨⟨hs.hlen,hs.hcap,hs.bd,hs.idx,fun k hk=>?_,fun k hk=>by simp;exact hs.blk k hk,hs.nn⟩,h.nf⟩
 have:=hs.cell k hk
 unfold World.cell? at this ⊢;rw[Below.heap_setCell _ _ _ _ (fun e=>h.nf k hk (by rw[e];exact hp))]
 exact this
theorem qi6(fr:Fr w w1 F F1)(hp:F1 p)(j:Nat)(v:Value):Fr w (w1.setCell ⟨p,j,none⟩ v) F F1:=by
 refine fr.trans ⟨rfl,rfl,rfl,by simp,fun k hk hF=>Below.heap_setCell _ _ _ _ (fun e=>hF (e ▸ hp)),fun k hk=>Or.inl hk⟩
def Gw(T0:Tr)(p:Nat)(w:World)(F:Nat->Prop)(R:Rt)(e:Ending)(w':World):Prop :=
 (e=.returned (.tuple #[])/\∃(L:List Nat) (M':Mt) (q:Option Addr) (d:Nat) (F':Nat->Prop) (aI:List It),R=some (L,M')/\iE T0 w' F' p (.slice q L.length d) aI M'/\US w' F' q L.length d L/\Fr w w' F F') \/
 (e=.panicked gK/\R=none/\∃(F':Nat->Prop),Fr w w' F F')
theorem qhF{L:List Nat}(hR:R=some (L,M))(fr:Fr w w1 F F1)(hU:US w1 F1 q L.length d L)(hO:iE T0 w1 F1 p vs aj M):Gw T0 p w F R (.returned (.tuple #[])) (w1.setCell ⟨p,6,none⟩ (.slice q L.length d)):=by
 obtain⟨h1,h2,_,_⟩:=hO.start (.slice q L.length d);exact Or.inl ⟨rfl,L,M,q,d,F1,aj,hR,h1,qiu hU h2 _ _,qi6 fr h2 _ _⟩
theorem q9f(kT:KT T0)(h:iE T0 w F p (.slice none 0 0) aj [])(hn:Rep aj n T0)(bp bw:Nat)(hV:EM w F p n bp bw):
  Calls prog 46 #[.pointer (some ⟨bp,0,none⟩),.pointer (some ⟨bw,0,none⟩)] w (Gw T0 p w F (aH T0 [])):=by
 have KA:=hV.fr (Fr.au (F:=F) (Below.refl w.heap.size w).drew);have hk0:=KA.cells;have dP:=hV.cells;have jn:=U4 (T0:=T0) (p:=p) (vs:=.slice none 0 0) T0 kT (mE T0) w.drew F aj [] n (h.up (Below.refl w.heap.size w).drew) hn;have HV:Hid _:=KA;obtain⟨R,hR⟩:∃R,R=aH T0 []:=⟨_,rfl⟩
 rw[<-hR]at jn ⊢;obtain⟨Q,hQ⟩:∃Q:Ending->World->Prop,Q=Gw T0 p w F R:=⟨_,rfl⟩
 have HQ:Hid (∀e w',Gw T0 p w F R e w'->Q e w'):=fun e w' h=>by rw[hQ];exact h
 rw[<-hQ];clear h hn hV KA hR hQ;go_enter func46,ntmps46
 go_wp2_with fail
 go_region_held2 (fun w'=>w'.cell? ⟨bp,0,none⟩=some (.pointer (some ⟨p,0,none⟩))/\w'.cell? ⟨bw,0,none⟩=some (.int .i64 n)) (first|exact hk0|exact dP|assumption|fail) (first
   | (revert jn;intro jn;go_at_call 47;(with_reducible refine jn.mono ?_);rintro e w1 ⟨F1,i1,dU,hp1,⟨L1,M1,q1,d1,hs1,rfl,lZ,iF⟩|⟨hs1,rfl,M1,kX,iF⟩⟩;(case inr=>exact⟨rfl,HQ.out _ _ (Or.inr ⟨rfl,hs1,F1,(Fr.au (Below.refl _ _).drew).trans dU⟩)⟩);have hV1:=HV.out.fr dU;have hk1:=hV1.cells;have hst:=iF.start (.slice q1 L1.length d1);have hk2:=hV1.set hst.2.1 6 (.slice q1 L1.length d1);have z2:=hst.2.2.1;have zf:=hst.2.2.2;have HE:Hid (Q (.returned (.tuple #[])) (w1.setCell ⟨p,6,none⟩ (.slice q1 L1.length d1))):=HQ.out _ _ (qhF hs1 ((Fr.au (Below.refl _ _).drew).trans dU) lZ iF))
   |fail)
 all_goals
  clear jn;go_wp2
  go_end0
  exact HE.out
def Sr(T0:Tr)(p:Nat)(w:World)(F:Nat->Prop)(E:Nat)(R:Rt)(w':World):Prop :=
 ∃(L:List Nat) (M':Mt) (q:Option Addr) (d:Nat) (F':Nat->Prop) (aI:List It),R=some (L,M')/\iE T0 w' F' p (.slice q L.length d) aI M'/\US w' F' q L.length d L/\¬F' E/\(∀k,k<L.length->(aG q k).block≠E)/\Fr w w' (fun k=>F k\/k=E) F'
def uk(w:World)(F:Nat->Prop)(E:Nat)(R:Rt)(w':World):Prop:=R=none/\∃F':Nat->Prop,Fr w w' (fun k=>F k\/k=E) F'
theorem uv(h7:Fr w w1 (fun k=>F k\/k=E) F')(hg:w1.grownBy w2 (some E)):Fr w w2 (fun k=>F k\/k=E) F' :=
 ⟨hg.os.trans h7.os,hg.tape.trans h7.tape,hg.output.trans h7.output,Nat.le_trans h7.size hg.size,fun k hk hF=>(hg.block k (Nat.lt_of_lt_of_le hk h7.size) (fun e=>hF (Or.inr (by injection e)))).trans (h7.keep k hk hF),h7.foot⟩
theorem Sr.grown(h:Sr T0 p w F E R w1)(hg:w1.grownBy w2 (some E)):Sr T0 p w F E R w2:=by
 obtain⟨L,M',q,d,F',i',h1,h3,h4,h5,h6,h7⟩:=h;exact⟨L,M',q,d,F',i',h1,h3.far fun k hk=>hg.block k (h3.lt k hk) (fun e=>h5 (by injection e with e;exact e ▸ hk)),h4.grown hg h6,h5,h6,uv h7 hg⟩
theorem qaw:lD 46:=fun _ _=>rfl
theorem q7q(kT:KT T0)(h:iE T0 w F p (.slice none 0 0) aj [])(hn:Rep aj n T0)(bp bw:Nat)(hV:EM w F p n bp bw):
  Calls prog 45 #[.func (.func 46) #[] #[.pointer (some ⟨bp,0,none⟩),.pointer (some ⟨bw,0,none⟩)]] w fun e w'=>
   (e=.returned (.int .i64 0)/\Sr T0 p w F w.heap.size (aH T0 []) w')\/(e=.returned (.int .i64 9)/\uk w F w.heap.size (aH T0 []) w'):=by
 refine (sw 46 _ w qaw (fun w'=>Sr T0 p w F w.heap.size (aH T0 []) w') (fun w'=>uk w F w.heap.size (aH T0 []) w') ?_ ?_ ?_).mono ?_
 ·rintro w1 w2 b hp hg rfl
  exact hp.grown hg
 ·rintro w1 w2 b ⟨h1,F',h7⟩ hg rfl
  exact⟨h1,F',uv h7 hg⟩
 ·intro w0 hw0
  have hb:Below w.heap.size w w0:=by rw[hw0];exact qd _ _
  have hE:Bh w0 w.heap.size 0:=by rw[hw0];exact(dO w _).1
  have hz:w0.heap.size=w.heap.size+1:=by rw[hw0];simp
  have Ai:¬F w.heap.size:=fun e=>Nat.lt_irrefl _ (h.lt _ e)
  refine (q9f kT (h.up hb) hn bp bw (hV.fr (Fr.au hb))).mono ?_
  rintro e w' (⟨rfl,L,M',q,d,F',i',hs,hO,hU,fr⟩|⟨rfl,hs,F',fr⟩)
  ·have hE':Bh w' w.heap.size 0:=(fr.keep _ (by omega) Ai).trans hE
   exact Or.inl ⟨rfl,⟨L,M',q,d,F',i',hs,hO,hU,fr.out Ai (by omega),sP hU hE',((Fr.au hb).trans fr).alike (fun k hk=>Or.inl hk) (fun k hk=>hk)⟩,hE'⟩
  ·have hE':Bh w' w.heap.size 0:=(fr.keep _ (by omega) Ai).trans hE
   exact Or.inr ⟨rfl,⟨hs,F',((Fr.au hb).trans fr).alike (fun k hk=>Or.inl hk) (fun k hk=>hk)⟩,hE'⟩
 ·rintro e w' (⟨h1,h2⟩|⟨h1,h2⟩)
  ·exact Or.inl ⟨h1,h2⟩
  ·exact Or.inr ⟨h1,h2⟩
theorem qgB(kT:KT T)(hsz:T.size<=2048)(hb1:Below w.heap.size w w1)(hN:KN w1 w.heap.size b vi mp vt T aj n)(o:Obj):
  ∃W,W=((((w1.alloc o).alloc (.cells #[.int .i64 n] 3)).alloc (.map #[] 0)).alloc (.cells #[vi,.map (some mp),vt,.pointer (some ⟨w1.heap.size+1+1+1,0,none⟩),.map (some (w1.heap.size+1+1)),.slice none 0 0,.slice none 0 0] 89)).alloc (.cells #[.pointer (some ⟨w1.heap.size+1+1+1,0,none⟩)] 55) /\
   Below w.heap.size w W/\∃F,iE T W F (w1.heap.size+1+1+1) (.slice none 0 0) aj []/\(∀k,F k->w.heap.size<=k)/\EM W F (w1.heap.size+1+1+1) n (w1.heap.size+1+1+1+1) (w1.heap.size+1):=by
 obtain⟨u1,hu1⟩:∃u,u=w1.alloc o:=⟨_,rfl⟩
 obtain⟨u2,hu2⟩:∃u,u=u1.alloc (.cells #[.int .i64 n] 3):=⟨_,rfl⟩
 obtain⟨u3,hu3⟩:∃u,u=u2.alloc (.map #[] 0):=⟨_,rfl⟩
 obtain⟨u4,Vg⟩:∃u,u=u3.alloc (.cells #[vi,.map (some mp),vt,.pointer (some ⟨w1.heap.size+1+1+1,0,none⟩),.map (some (w1.heap.size+1+1)),.slice none 0 0,.slice none 0 0] 89):=⟨_,rfl⟩
 obtain⟨u5,ZP⟩:∃u,u=u4.alloc (.cells #[.pointer (some ⟨w1.heap.size+1+1+1,0,none⟩)] 55):=⟨_,rfl⟩
 refine⟨u5,by rw[ZP,Vg,hu3,hu2,hu1],?_⟩
 have z1:u1.heap.size=w1.heap.size+1:=by rw[hu1];simp
 have z2:u2.heap.size=w1.heap.size+1+1:=by rw[hu2];simp[z1]
 have z3:u3.heap.size=w1.heap.size+1+1+1:=by rw[hu3];simp[z2]
 have z4:u4.heap.size=w1.heap.size+1+1+1+1:=by rw[Vg];simp[z3]
 have b1:Below w1.heap.size w1 u1:=by rw[hu1];exact qd _ _
 have b2:Below u1.heap.size u1 u2:=by rw[hu2];exact qd _ _
 have b3:Below u2.heap.size u2 u3:=by rw[hu3];exact qd _ _
 have b4:Below u3.heap.size u3 u4:=by rw[Vg];exact qd _ _
 have b5:Below u4.heap.size u4 u5:=by rw[ZP];exact qd _ _
 have hB:Below w1.heap.size w1 u5:=qe (qe (qe (qe b1 b2) b3) b4) b5;have v2:u2.heap[w1.heap.size+1]? =some (.cells #[.int .i64 n] 3 (0,0)):=by rw[<-z1,hu2];exact(dO u1 _).1
 have hnum:jA u3 (w1.heap.size+1+1) 0 (fun _=>none):=by rw[<-z2,hu3];exact Ge u2
 have v4:u4.heap[w1.heap.size+1+1+1]? =some (.cells #[vi,.map (some mp),vt,.pointer (some ⟨w1.heap.size+1+1+1,0,none⟩),.map (some (w1.heap.size+1+1)),.slice none 0 0,.slice none 0 0] 89 (0,0)):=by
  have:=(dO u3 (.cells #[vi,.map (some mp),vt,.pointer (some ⟨w1.heap.size+1+1+1,0,none⟩),.map (some (w1.heap.size+1+1)),.slice none 0 0,.slice none 0 0] 89)).1
  rw[<-Vg,z3]at this;exact this
 have v5:u5.heap[w1.heap.size+1+1+1+1]? =some (.cells #[.pointer (some ⟨w1.heap.size+1+1+1,0,none⟩)] 55 (0,0)):=by
  have:=(dO u4 (.cells #[.pointer (some ⟨w1.heap.size+1+1+1,0,none⟩)] 55)).1
  rw[<-ZP,z4]at this;exact this
 obtain⟨F,hO,hF⟩:=qin (W:=u5) (p:=w1.heap.size+1+1+1) (mn:=w1.heap.size+1+1) kT hsz hN hB (by omega) (by omega) hb1.size ((b5.block _ (by omega)).trans v4) (hnum.far ((b5.block _ (by omega)).trans (b4.block _ (by omega))))
 refine⟨qe hb1 hB,F,hO,fun k hk=>(hF k hk).1,v5,?_,fun e=>?_,fun e=>?_⟩
 ·exact(b5.block _ (by omega)).trans ((b4.block _ (by omega)).trans ((b3.block _ (by omega)).trans v2))
 ·have:=(hF _ e).2;omega
 ·have:=(hF _ e).2;omega
def KO(w:World)(ts:List Tk)(e:Ending)(w':World):Prop:=Below w.heap.size w w'/\((bM ts≠0/\e=.returned (.tuple #[.pointer none,.int .i64 (bM ts:Int)])) \/
 ∃T,KT T/\ts=T.flat/\bM ts=0/\((aH T []=none/\e=.returned (.tuple #[.pointer none,.int .i64 9])) \/
  ∃(l0:List Nat) (M:Mt) (p:Nat) (F:Nat->Prop) (q:Option Addr) (d:Nat) (aj:List It),aH T []=some (l0,M)/\e=.returned (.tuple #[P7 p,.int .i64 0])/\iE T w' F p (.slice q l0.length d) aj M/\US w' F q l0.length d l0/\(∀k,F k->w.heap.size<=k)))
theorem qaJ(a:Option Addr)(len cap:Nat)(ts:List Tk)(w:World)(hT:bG w a len cap ts):Calls prog 24 #[.slice a len cap] w (KO w ts):=by
 have jp:=ud a len cap ts w hT;have hmm:=@run_makeMap prog;obtain⟨Q,hQ⟩:∃Q:Ending->World->Prop,Q=KO w ts:=⟨_,rfl⟩
 have HQ:Hid (∀e w',KO w ts e w'->Q e w'):=fun e w' h=>by rw[hQ];exact h
 rw[<-hQ];clear hT hQ;go_enter func24,ntmps24
 go_wp2_with fail
 refine jp.mono ?_
 rintro e w1 ⟨hb1,⟨hc,rfl⟩|⟨hc,T,aj,n,b,vi,mp,vt,kT,hsz,hts,hN,rfl⟩⟩
 ·have hne:(((bM ts:Nat):Int) != 0)=true:=by simp;omega
  have HC:Hid _:=hc;have HB1:Hid _:=hb1;clear jp hc hb1 hmm;generalize hE:bM ts=E at *;have HE:Hid _:=hE;clear hE;go_wp2;exact HQ.out _ _ ⟨qe HB1.out (qe (qd _ _) (qd _ _)),Or.inl ⟨by rw[HE.out];exact HC.out,by rw[HE.out];rfl⟩⟩
 ·obtain⟨ai,ci,rfl⟩:=qK hN.r.ri
  obtain⟨at',ct,rfl⟩:=qK hN.r.rt;obtain⟨W,hW,hbW,F,hO,hF,hV⟩:=qgB kT hsz hb1 hN (.cells #[.slice ai aj.length ci,.map (some mp),.slice at' (lQ aj.length).length ct] 86);have jc:=q7q kT hO hN.k.rep _ _ hV;have HW:Hid _:=hW;have zH:Hid _:=hbW;have HF:Hid _:=hF;have HV:Hid _:=hV;have HC:Hid _:=hc;have EL:Hid _:=hts;have EN:Hid _:=kT;clear jp hc hb1 hN hts hW hbW hF hV hO kT hsz
  go_wp2_with fail
  rw[<-HW.out];refine jc.mono ?_
  rintro e w6 (⟨rfl,L,M',q,d,F',i',hs,hO,hU,Ai,_,fr⟩|⟨rfl,hs,F',fr⟩)
  ·have hge:∀k,F k\/k=W.heap.size->w.heap.size<=k:=fun k hk=>by
    rcases hk with hk|hk
    ·exact HF.out k hk
    ·have:=zH.out.size;omega
   have hb6:Below w.heap.size w w6:=zH.out.trans (fr.below hge zH.out.size);have hl0:=(lC HV.out.h0).1
   have hc0:w6.cell? ⟨w1.heap.size+1+1+1+1,0,none⟩=some (.pointer (some ⟨w1.heap.size+1+1+1,0,none⟩)):=qc ((fr.keep _ hl0 (fun e=>by rcases e with e|e;exact HV.out.n0 e;omega)).trans HV.out.h0) 0
   have HE:Hid (Q (.returned (.tuple #[P7 (w1.heap.size+1+1+1),.int .i64 0])) w6):=HQ.out _ _ ⟨hb6,Or.inr ⟨T,EN.out,EL.out,HC.out,Or.inr ⟨L,M',_,F',q,d,i',hs,rfl,hO,hU,fr.ge hge zH.out.size⟩⟩⟩;clear jc hs hO hU Ai fr hge hb6 hl0;unfold P7 at HE;go_wp2;exact HE.out
  ·have hge:∀k,F k\/k=W.heap.size->w.heap.size<=k:=fun k hk=>by
    rcases hk with hk|hk
    ·exact HF.out k hk
    ·have:=zH.out.size;omega
   have hb6:Below w.heap.size w w6:=zH.out.trans (fr.below hge zH.out.size);have HE:Hid (Q (.returned (.tuple #[.pointer none,.int .i64 9])) w6):=HQ.out _ _ ⟨hb6,Or.inr ⟨T,EN.out,EL.out,HC.out,Or.inl ⟨hs,rfl⟩⟩⟩;clear jc hs fr hge hb6;go_wp2;exact HE.out
theorem KN.at(kT:KT T)(hsz:T.size<=2048)(h:KN w1 B b vi mp vt T aj n)(hb:Below w1.heap.size w1 W)(hg:W.heap[g]? =some (.cells #[vi,.map (some mp),vt] 86 (0,0))):
  kW T W (FP g mp vi vt) g 86 [] aj:=by
 have hR:jM W g 86 [] vi mp vt aj (lQ aj.length) aj.length (gI aj) :=
  ⟨Or.inl rfl,hg,qC h.r.ri hb,qC h.r.rt hb,h.r.num.far (hb.block mp h.r.num.lt)⟩
 refine⟨⟨kT,hsz⟩,h.k.low,h.k.BJ,lQ aj.length,⟨h.k.nd,by simp[lQ],by have:=h.k.few;omega,h.ok,fun s hs=>?_,vi,mp,vt,hR,fun k=>Iff.rfl⟩,fun j S hr=>Or.inl ?_⟩
 ·have:=List.eq_of_mem_replicate hs
  subst this;unfold xK
  decide
 ·unfold lQ
  rw[List.getElem?_replicate,if_pos hr.lt]
theorem q96(a:Option Addr)(len cap:Nat)(ts:List Tk)(w:World)(hT:bG w a len cap ts):
  Calls prog 42 #[.slice a len cap] w fun e w'=>Below w.heap.size w w' /\
   ((bM ts≠0/\e=.returned (.tuple #[.bool false,.int .i64 (bM ts:Int)]))\/∃T b,KT T/\ts=T.flat/\bM ts=0/\e=.returned (.tuple #[.bool b,.int .i64 0])/\(b=true↔(ay [] T).1 0)):=by
 have jp:=ud a len cap ts w hT;obtain⟨Q,hQ⟩:∃Q:Ending->World->Prop,Q=fun e w'=>Below w.heap.size w w'/\((bM ts≠0/\e=.returned (.tuple #[.bool false,.int .i64 (bM ts:Int)]))\/∃T b,KT T/\ts=T.flat/\bM ts=0/\e=.returned (.tuple #[.bool b,.int .i64 0])/\(b=true↔(ay [] T).1 0)):=⟨_,rfl⟩
 have HQ:Hid (∀e w',Below w.heap.size w w'->((bM ts≠0/\e=.returned (.tuple #[.bool false,.int .i64 (bM ts:Int)]))\/∃T b,KT T/\ts=T.flat/\bM ts=0/\e=.returned (.tuple #[.bool b,.int .i64 0])/\(b=true↔(ay [] T).1 0))->Q e w'):=fun e w' h1 h2=>by rw[hQ];exact⟨h1,h2⟩
 rw[<-hQ];clear hT hQ;go_enter func42,ntmps42
 go_wp2_with fail
 refine jp.mono ?_
 rintro e w1 ⟨hb1,⟨hc,rfl⟩|⟨hc,T,aj,n,b,vi,mp,vt,kT,hsz,hts,hN,rfl⟩⟩
 ·have hne:(((bM ts:Nat):Int) != 0)=true:=by simp;omega
  have HC:Hid _:=hc;have HB1:Hid _:=hb1;clear jp hc hb1;generalize hE:bM ts=E at *;have HE:Hid _:=hE;clear hE;go_wp2;exact HQ.out _ _ (qe HB1.out (qd _ _)) (Or.inl ⟨HC.out,rfl⟩)
 ·obtain⟨ai,ci,rfl⟩:=qK hN.r.ri
  obtain⟨at',ct,rfl⟩:=qK hN.r.rt;have hbn:=qd w1 (.cells #[.slice ai aj.length ci,.map (some mp),.slice at' (lQ aj.length).length ct] 86);have hO:=hN.at kT hsz hbn (MapKept.heap_alloc w1 _).1;have je:=sY hO;have hfew:aj.length<=2048:=hN.k.few;have hlt:=hN.k.rep.lt;have ZQ:Hid _:=hN.k.rep;have ZR:Hid (bW T=true↔(ay [] T).1 0):=(zW T).1 kT;have HB1:Hid _:=qe hb1 hbn;have HC:Hid _:=hc;have EL:Hid _:=hts;have EN:Hid _:=kT;have hz:(w1.alloc (.cells #[.slice ai aj.length ci,.map (some mp),.slice at' (lQ aj.length).length ct] 86)).heap.size=w1.heap.size+1:=by simp
  rw[hz]at je;clear jp hc hb1 hN hts hbn hO kT hsz hz;generalize hil:aj.length=il at *;have Sz:Hid _:=hil;clear hil
  go_wp2_with fail
  refine je.mono ?_
  rintro e w2 ⟨rfl,⟨bs,SA,SC⟩,hb2⟩
  have hbn:=SA.all n T ZQ.out;have hcb:=SC.cell hbn;have hix:=fun w'=>Vd (w1.heap.size+1) il n hlt w'
  have HB2:Hid (Below w.heap.size w w2):=HB1.out.trans (hb2.mono (by have:=HB1.out.size;simp at this;omega))
  clear je SA SC hb2 hbn;generalize bW T=v at *;go_wp2;exact HQ.out _ _ HB2.out (Or.inr ⟨T,v,EN.out,EL.out,HC.out,rfl,ZR.out⟩)
def nU(M:Mt)(k h:Nat):Prop:=h<2 ^ k/\∀j,h.testBit j=true↔j<k/\gy [] M 0 j
theorem qfv(M:Mt):nU M 0 0:=⟨by decide,fun j=>by simp⟩
theorem qgo(hh:nU M k h)(hs:gy [] M 0 k):nU M (k+1) (h ||| 2 ^ k):=by
 refine⟨Nat.or_lt_two_pow (Nat.lt_of_lt_of_le hh.1 (Nat.pow_le_pow_right (by decide) (by omega))) (Nat.pow_lt_pow_right (by decide) (by omega)),fun j=>?_⟩
 rw[Nat.testBit_or,Bool.or_eq_true,hh.2 j,Nat.testBit_two_pow]
 constructor
 ·rintro (⟨h1,h2⟩|h1)
  ·exact⟨by omega,h2⟩
  ·have:k=j:=by simpa using h1
   subst this;exact⟨by omega,hs⟩
 ·rintro⟨h1,h2⟩
  by_cases e:j<k
  ·exact Or.inl ⟨e,h2⟩
  ·have:k=j:=by omega
   exact Or.inr (by simpa using this)
theorem qhg(hh:nU M k h)(hs:¬gy [] M 0 k):nU M (k+1) h:=by
 refine⟨Nat.lt_of_lt_of_le hh.1 (Nat.pow_le_pow_right (by decide) (by omega)),fun j=>?_⟩
 rw[hh.2 j]
 constructor
 ·rintro⟨h1,h2⟩
  exact⟨by omega,h2⟩
 ·rintro⟨h1,h2⟩
  by_cases e:j<k
  ·exact⟨e,h2⟩
  ·have:j=k:=by omega
   subst this;exact absurd h2 hs
theorem qgn(hh:nU M M.length h):yI l h=true↔xJ M l:=by
 show decide (uN l h)=true↔_
 rw[decide_eq_true_iff];unfold xJ kZ uN
 constructor
 ·rintro⟨s,hs,hw⟩
  exact⟨s,hs,fun k hk=>((hh.2 k).1 (Eo.1 hw k hk)).2⟩
 ·rintro⟨s,hs,hw⟩
  refine⟨s,hs,Eo.2 fun k hk=>(hh.2 k).2 ⟨?_,hw k hk⟩⟩
  obtain⟨T,_,h2,_⟩:=hw k hk;exact(List.getElem?_eq_some_iff.1 h2).1
theorem mM.metAt{G:Nat->Prop}{va:Option Addr}{vc:Nat}{met:List Nat}(h:mM T0 w G p mn (.slice va m vc) vs aj met M)(hof:∀f∈M,∃S,KT S/\jD T0 S/\f=S.flat)(hb:Below w.heap.size w w2)(k:Nat)(hk:k<m)(hm:met.length=m):∃g o j S,(∀w',(Instr.indexAt 71 (.slice va m vc) (.int .i64 k)).run prog w'=.ok (.pointer (some ⟨g,o,none⟩)) w')/\w2.cell? ⟨g,o,none⟩=some (.int .i64 (j:Nat))/\Rep aj j S/\KT S/\M[k]? =some S.flat:=by
 have hkm:k<met.length:=by omega
 obtain⟨S,hrep,yE⟩:=h.met.2 k met[k] (kU hkm);obtain⟨S2,k2,i2,e2⟩:=hof S.flat (List.mem_of_getElem? yE)
 have hw:S.WF:=by
  obtain⟨S3,h3,h4⟩:=h.po.BJ _ hrep.lt;have:=Rep.tree hrep h3
  subst this;rcases MN h.po.t0.kt h4 with q|q<;>exact q.wf
 have e:=Wj hw k2.wf e2;subst e;rcases (qC h.row hb).2 with⟨e,e0⟩|⟨g,cap,cur,e,_,hcell,hnc,hcm,hsz,htk⟩
 ·omega
 ·injection e with e1 e2 e3
  subst e1 e3;refine⟨g,k,met[k],S,fun w'=>?_,?_,hrep,k2,yE⟩
  ·simp[Instr.indexAt,run_underlying underlying71,asIntOf,qU (show (prog.info? 3).map (·.size)=some 1 by kernel_rfl),hk,Result.andThen,go_sem,qi]
  ·rw[qc hcell k]
   have:cur.toList[k]? =(iZ met)[k]? := by rw[<-htk,List.getElem?_take,if_pos (by omega)]
   rw[<-Array.getElem?_toList,this];simp[iZ,hkm]
theorem q8c(h:iE T0 w F p vs aj M)(a:Option Addr)(c:Nat)(l:List Nat)(hU:fH w a l.length c l)(sm:Sm l):
  Calls prog 19 #[.pointer (some ⟨p,0,none⟩),.slice a l.length c] w fun e w'=>(∃b,e=.returned (.bool b)/\(b=true↔xJ M l))/\Below w.heap.size w w':=by
 have jm:=U8 h;obtain⟨G,mn,vm,met,hr,hF⟩:=h.ex;have je:=sY hr.po;have c5:=hr.c5;obtain⟨ma,mc,rfl⟩:=qK hr.row;have hml:met.length=M.length:=hr.met.1;have hfew:M.length<=64:=h.few;have hm64:met.length<=64:=by omega
 have HH:Hid _:=h;have HR:Hid _:=hr;have HU:Hid _:=hU;have IB:=aX sm;have Zz:=aX hml;have HC5:Hid _:=c5;clear h hr hF hU sm hml c5;generalize hmm:met.length=m at *;have HM:=aX hmm;clear hmm;generalize SE:aj.length=il at *;have Sz:=aX SE;clear SE;generalize hn0:l.length=n at *;have Vh:=aX hn0;clear hn0;go_enter func19,ntmps19
 go_wp2_with fail
 refine jm.mono ?_
 rintro e w1 ⟨rfl,hw1⟩
 obtain rfl:=hw1.symm
 clear jm
 go_wp2_with fail
 refine je.mono ?_
 rintro e w2 ⟨rfl,⟨bs,SA,SC⟩,hb2⟩
 have c5:w2.cell? ⟨p,5,none⟩=some (.slice ma m mc):=qf HC5.out hb2;have ux:=aX SA;have ZR:=aX SC;have HB2:=aX hb2;clear je SA SC hb2;go_wp2
 go_loopw [6,21] (fun v i wr=>∃(k hd:Nat),k<=m/\i=.int .i64 k/\v=.int .u64 hd/\wr=w2/\Hid (nU M k hd)) (fun _ i _=>m-(intOf i).toNat)
 case atStart=>exact⟨0,0,Nat.zero_le _,rfl,rfl,rfl,qfv M⟩
 case round=>
  clear c5;obtain⟨k,hd,hk,rfl,rfl,rfl,KQ⟩:=hrel;by_cases hlt:k<m
  ·obtain⟨g,o,j,S,hidx,hcj,hrep,kS,yE⟩:=HR.out.metAt HH.out.of HB2.out k hlt HM.out
   have hbj:=ux.out.all j S hrep;have hjl:j<bs.length:=(List.getElem?_eq_some_iff.1 hbj).1
   have hil:bs.length=aj.length:=ux.out.len;have hcb:=ZR.out.cell hbj;have Bl:gy [] M 0 k↔bW S=true:=(Oy kS yE).trans ((zW S).1 kS).symm;have hix:=fun w'=>Vd w.heap.size il j (by have:=Sz.out;omega) w'
   have HE:Hid (bits BinOp.or IntKind.u64 (hd:Int) (IntKind.u64.wrap (2 ^ k))=((hd ||| 2 ^ k:Nat):Int)):=by
    have h1:(2:Nat) ^ k<2 ^ 64:=Nat.pow_lt_pow_right (by decide) (by omega)
    have h2:hd<2 ^ 64:=Nat.lt_of_lt_of_le KQ.out.1 (Nat.pow_le_pow_right (by decide) (by omega))
    have e3:IntKind.u64.wrap (2 ^ k)=((2 ^ k:Nat):Int):=by
     rw[IntKind.wrap_u64,show ((2:Int) ^ k)=((2 ^ k:Nat):Int) by simp]
     generalize 2 ^ k=y at h1 ⊢
     omega
    show _=_
    rw[e3];exact u64_or_nat _ _ h2 h1
   cases hv:bW S with
   |true=>
    rw[hv]at hcb Bl;have HN:Hid (nU M (k+1) (hd ||| 2 ^ k)):=qgo KQ.out (Bl.2 rfl);clear Bl KQ hrep kS yE hbj hjl hil hv;have hmin:min k 64=k:=by omega
    go_wp2
    go_roundw
    case rel=>exact⟨k+1,hd ||| 2 ^ k,by omega,by go_num,congrArg (Value.int .u64) HE.out,by first|trivial|rfl,HN⟩
    case measure=>simp[intOf]<;>omega
   |false=>
    rw[hv]at hcb Bl;have HN:Hid (nU M (k+1) hd):=qhg KQ.out (fun e=>by have:=Bl.1 e;cases this)
    clear Bl KQ hrep kS yE hbj hjl hil hv HE;go_wp2
    go_roundw
    case rel=>exact⟨k+1,hd,by omega,by go_num,rfl,by first|trivial|rfl,HN⟩
    case measure=>simp[intOf]<;>omega
  ·obtain rfl:k=m:=by omega
   have hdm:nU M M.length hd:=by have:=KQ.out;rw[show k=M.length by have:=Zz.out;omega]at this;exact this
   have h2:hd<2 ^ 64:=Nat.lt_of_lt_of_le hdm.1 (Nat.pow_le_pow_right (by decide) (by omega))
   have jh:=q35 a l.length c l hd wr ((show fH w a l.length c l by rw[Vh.out];exact HU.out).up HB2.out) IB.out h2
   rw[Vh.out]at jh;have JL:Hid (yI l hd=true↔xJ M l):=qgn hdm;clear KQ hdm h2
   go_wp2_with fail
   refine jh.mono ?_
   rintro e w4 ⟨rfl,hb4⟩
   have HB4:Hid (Below w.heap.size w w4):=qe HB2.out hb4;clear jh hb4;generalize yI l hd=bb at *;go_wp2;go_ret
   exact⟨⟨bb,rfl,JL.out⟩,HB4.out⟩
structure oV(w:World)(F:Nat->Prop)(p:Nat)(l0:List Nat)(M:Mt)(T0:Tr)(q:Option Addr)(d:Nat)(aj:List It):Prop where
 o:iE T0 w F p (.slice q l0.length d) aj M
 u:US w F q l0.length d l0
 l:nN l0
 g:¬F yD
theorem qi4{e:Ending}(hF:∀k,F k->k<w.heap.size)(h:Dj l w e w'):Below w.heap.size w w'/\∃a c,e=.returned (.slice a l.length c)/\US w' F a l.length c l:=by
 refine⟨h.1,?_⟩
 rcases h.2 with⟨rfl,p,rfl⟩|⟨G,t,_,rfl,hS,h1,h2⟩
 ·exact⟨p,0,rfl,⟨⟨rfl,Nat.le_refl _,Nat.zero_le _,fun m k w hk hm=>absurd hk (by simp at hm;omega),fun k hk=>absurd hk (by simp),fun k hk=>absurd hk (by simp),fun _=>rfl⟩,fun k hk=>absurd hk (by simp)⟩⟩
 ·refine⟨_,G,rfl,hS.lx rfl rfl h1 h2,fun k hk e=>?_⟩
  have:=hF _ e
  simp[aG,qi]at this
  omega
theorem qgI(hk:k<64):IntKind.u64.wrap (2 ^ k)=((2 ^ k:Nat):Int):=by
 have:(2:Nat) ^ k<2 ^ 64:=Nat.pow_lt_pow_right (by decide) hk
 rw[IntKind.wrap_u64,show ((2:Int) ^ k)=((2 ^ k:Nat):Int) by simp]
 generalize 2 ^ k=y at this ⊢
 omega
theorem uA(k:Nat)(hk:k<64)(w:World):Calls prog 48 #[.int .i64 k] w fun e w'=>e=.returned (.slice (some ⟨w.heap.size,0,none⟩) 1 1)/\w'=w.alloc (.cells #[.int .u64 (2 ^ k:Nat)] 37):=by
 have hmin:min k 64=k:=by omega
 have HP:Hid _:=qgI hk;go_enter func48,ntmps48
 go_wp2;rw[HP.out];go_ret
 exact⟨rfl,rfl⟩
noncomputable def xu (ts:List Tk) (zs:List Int):Int:=if bM ts≠0 then (bM ts:Int) else wU zs
theorem q7X(a:Option Addr)(len cap:Nat)(ts:List Tk)(d:Option Addr)(m c:Nat)(zs:List Int)(w:World)(hT:bG w a len cap ts)(hL:lX w d m c zs):
  Calls prog 23 #[.slice a len cap,.slice d m c] w fun e w'=>e=.returned (.int .i64 (xu ts zs))/\Below w.heap.size w w':=by
 have je:=q96 a len cap ts w hT;have HL:Hid _:=hL;obtain⟨E,hE⟩:∃E,E=xu ts zs:=⟨_,rfl⟩
 rw[<-hE];have HE:Hid _:=hE;clear hT hL hE;go_enter func23,ntmps23
 go_wp2_with fail
 refine je.mono ?_
 rintro e w1 ⟨hb1,⟨hc,rfl⟩|⟨T,b,kT,hts,hc,rfl,_⟩⟩
 ·have e1:E=(bM ts:Int):=by rw[HE.out];unfold xu;rw[if_pos hc]
  have hne:(((bM ts:Nat):Int) != 0)=true:=by simp;omega
  have HB1:Hid _:=hb1;rw[<-e1]at hne ⊢;clear je hc hb1 HE e1;go_wp2;go_ret
  exact⟨rfl,HB1.out⟩
 ·have e1:E=wU zs:=by rw[HE.out];unfold xu;rw[if_neg (by omega)]
  have jt:=SJ d m c zs w1 (HL.out.up hb1);have HB1:Hid _:=hb1;rw[<-e1]at jt;clear je hc hb1 HE hts kT e1
  go_wp2_with fail
  refine jt.mono ?_
  rintro e w2 ⟨rfl,hb2⟩
  have HB2:Hid _:=qe HB1.out hb2;clear jt hb2;go_wp2;go_ret
  exact⟨rfl,HB2.out⟩
theorem US.same(h:US w F a n c l)(hs:w.heap.size<=w'.heap.size)(hk:∀k,k<n->w'.heap[(aG a k).block]? =w.heap[(aG a k).block]?)(hF:∀k,k<n->¬F' (aG a k).block):US w' F' a n c l:=by
 have s:=h.sl;refine⟨⟨s.hlen,s.hcap,s.bd,s.idx,fun k hk2=>?_,fun k hk2=>Nat.lt_of_lt_of_le (s.blk k hk2) hs,s.nn⟩,hF⟩
 have:=s.cell k hk2
 unfold World.cell? at this ⊢;rw[hk k hk2];exact this
theorem oV.far{w w':World}{F:Nat->Prop}{p:Nat}{l0:List Nat}{M:Mt}{T0:Tr}{q:Option Addr}{d:Nat}{aj:List It}(h:oV w F p l0 M T0 q d aj)(hs:w.heap.size<=w'.heap.size)(hF:∀k,F k->w'.heap[k]? =w.heap[k]?)(hS:∀k,k<l0.length->w'.heap[(aG q k).block]? =w.heap[(aG q k).block]?):oV w' F p l0 M T0 q d aj :=
 ⟨h.o.far hF,h.u.same hs hS h.u.nf,h.l,h.g⟩
def oq(r:gX):Value:=.slice r.a r.len r.cap
def pR(vs:List Value)(x:Nat):Value:=vs.getD x (.slice none 0 0)
def KR(p:Nat)(vs:List Value):Array Value:=(Value.pointer (some ⟨p,0,none⟩)::vs).toArray
structure KU(w:World)(F:Nat->Prop)(c:Nat)(vs:List Value)(r:gX):Prop where
 us:US w F r.a r.len r.cap r.ts
 ap:∀k,k<r.len->(aG r.a k).block≠c/\∀y,y<256->(pR vs y).ownBlock≠some (aG r.a k).block
structure vC(T0:Tr)(q:Option Addr)(d:Nat)(w:World)(F:Nat->Prop)(c p:Nat)(l0:List Nat)(M:Mt)(vs:List Value)(Ls:Nat->List gX):Prop where
 EO:∃aj,oV w F p l0 M T0 q d aj
 blk:w.heap[c]? =some (.cells (KR p vs) 58 (0,0))
 vl:vs.length=256
 row:∀x,x<256->w.ownsRow (c+1) 36 1 (pR vs x) (Ls x).length ((Ls x).map oq)
 Nq:∀x y k,x<256->y<256->x≠y->(pR vs x).ownBlock=some k->(pR vs y).ownBlock≠some k
 sb:∀k,k<l0.length->(aG q k).block<c
 nc:∀k,F k->k≠c/\∀x,x<256->(pR vs x).ownBlock≠some k
 lst:∀x,x<256->∀r∈Ls x,KU w F c vs r
 dn:∀x,x<256->∀(k:Nat)(r:gX),(Ls x)[k]? =some r->k<M.length/\∀M2,M <+: M2->stepM aV x [2 ^ k] [] M2=some (r.ts,M2)
section
variable {T0:Tr}{q:Option Addr}{d:Nat}{w w':World}{F F':Nat->Prop}{c p:Nat}{l0:List Nat}{M M':Mt}{vs:List Value}{Ls:Nat->List gX}
theorem vC.IV(h:vC T0 q d w F c p l0 M vs Ls):c<w.heap.size:=(lC h.blk).1
theorem vC.c0(h:vC T0 q d w F c p l0 M vs Ls):w.cell? ⟨c,0,none⟩=some (.pointer (some ⟨p,0,none⟩)):=qc h.blk 0
theorem vC.cx(h:vC T0 q d w F c p l0 M vs Ls)(hx:x<256):w.cell? ⟨c,1+x,none⟩=some (pR vs x):=by
 rw[qc h.blk (1+x)];have hl:x<vs.length:=by rw[h.vl];exact hx
 simp[KR,pR,Nat.add_comm 1 x,List.getElem?_eq_getElem hl]
theorem vC.KW(h:vC T0 q d w F c p l0 M vs Ls)(hx:x<256)(hk:(pR vs x).ownBlock=some k):k<w.heap.size:=vP (h.row x hx) k hk
theorem vC.Vj(h:vC T0 q d w F c p l0 M vs Ls)(hx:x<256)(hk:(pR vs x).ownBlock=some k):c+1<=k:=vO (h.row x hx) k hk
theorem vC.fr(h:vC T0 q d w F c p l0 M vs Ls)(hP:∃aj,oV w' F' p l0 M' T0 q d aj)(fr:Fr w w' F F')(hM:M <+: M'):vC T0 q d w' F' c p l0 M' vs Ls:=by
 have hnc:¬F c:=fun e=>(h.nc c e).1 rfl
 refine⟨hP,(fr.keep c h.IV hnc).trans h.blk,h.vl,fun x hx=>qz (h.row x hx) fun k hk=>fr.keep k (h.KW hx hk) (fun e=>(h.nc k e).2 x hx hk),h.Nq,h.sb,fun k hk=>?_,fun x hx r hr=>⟨(h.lst x hx r hr).us.fr fr,(h.lst x hx r hr).ap⟩,fun x hx k r hr=>?_⟩
 ·rcases fr.foot k hk with e|e
  ·exact h.nc k e
  ·have:=h.IV
   exact⟨by omega,fun x hx e2=>by have:=h.KW hx e2;omega⟩
 ·obtain⟨h1,h2⟩:=h.dn x hx k r hr
  exact⟨Nat.lt_of_lt_of_le h1 hM.length_le,fun M2 h3=>h2 M2 (hM.trans h3)⟩
theorem vC.up(h:vC T0 q d w F c p l0 M vs Ls)(hb:Below w.heap.size w w'):vC T0 q d w' F c p l0 M vs Ls:=by
 obtain⟨aj,hp⟩:=h.EO;exact h.fr ⟨aj,hp.o.up hb,hp.u.up hb,hp.l,hp.g⟩ (Fr.au hb) (List.prefix_refl _)
end
def Bo(Ls:Nat->List gX)(x:Nat)(r:gX)(y:Nat):List gX:=if y=x then Ls y++[r] else Ls y
theorem SG(vs:List Value)(x y:Nat)(v:Value)(hx:x<vs.length):pR (vs.set x v) y=if y=x then v else pR vs y:=by
 unfold pR;by_cases e:y=x
 ·subst e;simp[hx]
 ·have e2:¬x=y:=fun h=>e h.symm
  simp[e,e2]
theorem vC.put{w5:World}{vs:List Value}{Ls:Nat->List gX}{o:Obj}{v':Value}{r:gX}(h:vC T0 q d w F c p l0 M vs Ls)(hx:x<256)
  (hg:(w.alloc o).drew.grownBy w5 (pR vs x).ownBlock) (ho:w5.ownsRow (c+1) 36 1 v' ((Ls x).length+1) ((Ls x).map oq++[oq r])) (hl:v'.ownBlock=(pR vs x).ownBlock\/v'.ownBlock=some (w.heap.size+1))
  (hr:KU w F c vs r) (hd:(Ls x).length<M.length/\∀M2,M <+: M2->stepM aV x [2 ^ (Ls x).length] [] M2=some (r.ts,M2)):
  w5.cell? ⟨c,1+x,none⟩=some (pR vs x)/\w5.frozen? ⟨c,1+x,none⟩=false/\vC T0 q d (w5.setCell ⟨c,1+x,none⟩ v') F c p l0 M (vs.set x v') (Bo Ls x r)/\Below c w (w5.setCell ⟨c,1+x,none⟩ v'):=by
 have hb1:=qd w o;have hz:(w.alloc o).drew.heap.size=w.heap.size+1:=by simp
 have hs:=hg.size;have SH:=h.IV;have st:∀k,k<w.heap.size->(pR vs x).ownBlock≠some k->w5.heap[k]? =w.heap[k]? := fun k hk hne=>(hg.block k (by omega) (fun e=>hne e.symm)).trans (hb1.block k hk)
 have hcb:(pR vs x).ownBlock≠some c:=fun e=>by have:=h.Vj hx e;omega
 have hb5:=(st c SH hcb).trans h.blk;have hxl:x<vs.length:=by rw[h.vl];exact hx
 have hvc:v'.ownBlock≠some c:=fun e=>by
  rcases hl with e2|e2
  ·rw[e2]at e;exact hcb e
  ·rw[e2]at e;injection e with e;omega
 have s6:∀k,k≠c->(w5.setCell ⟨c,1+x,none⟩ v').heap[k]? =w5.heap[k]? := fun k hk=>Below.heap_setCell _ _ _ _ hk
 have all:∀k,k<w.heap.size->k≠c->(pR vs x).ownBlock≠some k->(w5.setCell ⟨c,1+x,none⟩ v').heap[k]? =w.heap[k]? := fun k h1 h2 h3=>(s6 k h2).trans (st k h1 h3)
 have hsz:w.heap.size<=(w5.setCell ⟨c,1+x,none⟩ v').heap.size:=by simp;omega
 have hv':∀k,v'.ownBlock=some k->(pR vs x).ownBlock=some k\/w.heap.size<=k:=fun k hk=>by
  rcases hl with e|e
  ·rw[e]at hk;exact Or.inl hk
  ·rw[e]at hk;injection hk with hk;right;omega
 obtain⟨aj,hp⟩:=h.EO;have SI:=hp.o.lt;refine⟨?_,frozen_of_row w5 c _ _ _ hb5,⟨⟨aj,hp.far hsz (fun k hk=>all k (SI k hk) (h.nc k hk).1 ((h.nc k hk).2 x hx)) (fun k hk=>?_)⟩,?_,by simp[h.vl],fun y hy=>?_,fun y z k hy hz2 hne hk=>?_,h.sb,fun k hk=>⟨(h.nc k hk).1,fun y hy=>?_⟩,fun y hy r2 hr2=>?_,fun y hy k r2 hr2=>?_⟩,?_⟩
 ·have:=h.cx hx
  unfold World.cell? at this ⊢;rw[st c SH hcb];exact this
 ·have h1:=h.sb k hk
  exact all _ (by omega) (by omega) (fun e=>by have:=h.Vj hx e;omega)
 ·rw[heap_setCell_same w5 c (1+x) _ _ _ hb5]
  congr 2
  unfold KR;rw[Nat.add_comm 1 x];simp
 ·unfold Bo
  rw[SG vs x y v' hxl];by_cases e:y=x
  ·subst e
   rw[if_pos rfl,if_pos rfl,List.map_append,List.length_append];exact qz ho fun k hk=>s6 k (fun e=>hvc (e ▸ hk))
  ·rw[if_neg e,if_neg e]
   exact qz (h.row y hy) fun k hk=>all k (h.KW hy hk) (fun e2=>by have:=h.Vj hy hk;omega) (h.Nq y x k hy hx e hk)
 ·rw[SG vs x y v' hxl]at hk
  rw[SG vs x z v' hxl];by_cases ey:y=x
  ·subst ey
   rw[if_pos rfl]at hk;rw[if_neg (fun e=>hne e.symm)];intro e2;rcases hv' k hk with e3|e3
   ·exact h.Nq y z k hy hz2 hne e3 e2
   ·have:=h.KW hz2 e2;omega
  ·rw[if_neg ey]at hk
   by_cases ez:z=x
   ·subst ez
    rw[if_pos rfl];intro e2;rcases hv' k e2 with e3|e3
    ·exact h.Nq y z k hy hz2 hne hk e3
    ·have:=h.KW hy hk;omega
   ·rw[if_neg ez];exact h.Nq y z k hy hz2 hne hk
 ·rw[SG vs x y v' hxl]
  by_cases e:y=x
  ·subst e
   rw[if_pos rfl];intro e2;rcases hv' k e2 with e3|e3
   ·exact(h.nc k hk).2 y hy e3
   ·have:=SI k hk;omega
  ·rw[if_neg e];exact(h.nc k hk).2 y hy
 ·have key:∀r2,KU w F c vs r2->KU (w5.setCell ⟨c,1+x,none⟩ v') F c (vs.set x v') r2:=fun r2 hr2=>by
   refine⟨hr2.us.same hsz (fun k hk=>all _ (hr2.us.sl.blk k hk) (hr2.ap k hk).1 ((hr2.ap k hk).2 x hx)) hr2.us.nf,fun k hk=>⟨(hr2.ap k hk).1,fun z hz2=>?_⟩⟩
   rw[SG vs x z v' hxl];by_cases e:z=x
   ·rw[if_pos e]
    intro e2;rcases hv' _ e2 with e3|e3
    ·exact(hr2.ap k hk).2 x hx e3
    ·have:=hr2.us.sl.blk k hk;omega
   ·rw[if_neg e];exact(hr2.ap k hk).2 z hz2
  unfold Bo at hr2;by_cases e:y=x
  ·rw[if_pos e]at hr2
   rcases List.mem_append.1 hr2 with h1|h1
   ·exact key r2 (h.lst y hy r2 h1)
   ·have:r2=r:=by simpa using h1
    subst this;exact key _ hr
  ·rw[if_neg e]at hr2
   exact key r2 (h.lst y hy r2 hr2)
 ·unfold Bo at hr2
  by_cases e:y=x
  ·subst e
   rw[if_pos rfl]at hr2;by_cases hlt:k<(Ls y).length
   ·rw[List.getElem?_append_left hlt]at hr2
    exact h.dn y hy k r2 hr2
   ·have hk2:k=(Ls y).length:=by
     have:=(List.getElem?_eq_some_iff.1 hr2).1
     simp at this
     omega
    subst hk2;simp at hr2
    subst hr2;exact hd
  ·rw[if_neg e]at hr2
   exact h.dn y hy k r2 hr2
 ·exact⟨hg.os,hg.tape,hg.output,hsz,fun k hk=>all k (by omega) (by omega) (fun e=>by have:=h.Vj hx e;omega)⟩
theorem uB:(prog.info? 36).map (fun i=>(i.zero,i.size,i.bytes))=some (some (.slice none 0 0),1,24):=by kernel_rfl
theorem qb9{w:World}{ops:Array Oper}{o:Oper}{a:Act}{K:Act->World->Prop}{Q:Exit->Act->World->Prop}{E:Prop}(hw:Region.wanted o (yielded ops a.tmps)=true)(s x:Operand)
  (ho:o.op=.call { callee:=.builtin .append,args:=#[s,x],argTypes:=#[27,27] }) (base:Nat)
  (v:Value) (n:Nat) (xs:List Value) (y:gX) (g:Nat) (hs:a.eval s=v) (hx:a.eval x=.slice (some ⟨g,0,none⟩) 1 1) (hown:w.ownsRow base 36 1 v n xs)
  (hB:w.heap[g]? =some (.cells #[oq y] 36 (0,0))) (hn:n<=1000000) (hbase:base<=w.heap.size)
  (h:∀v' w',w'.ownsRow base 36 1 v' (n+1) (xs++[oq y])->w.grownBy w' v.ownBlock->(v'.ownBlock=v.ownBlock\/v'.ownBlock=some w.heap.size)->K (a.put o.dst v') w'):
  if Region.wanted o (yielded ops a.tmps)=true then Oper.wp prog o a w K Q else E:=by
 rw[if_pos hw];obtain⟨i,hi,hz0,hz1,hz2⟩:=info_parts uB
 obtain⟨v',w',hr,h2,h3,_,h5⟩:=run_append_own_at (P:=prog) w base 27 o.type 36 i _ 1 24 underlying27 hi hz0 hz1 hz2 rfl (by decide) v n _ hown ⟨g,0,none⟩ 1 1 [oq y] rfl (fun j u hj=>by
  rw[qi,Nat.zero_add,qc hB]
  match j with
  | 0=>simpa using hj
  |j+1=>simp at hj) (fun u hu=>by simp at hu;subst hu;rfl) (by unfold maxLen;omega) (by omega) hbase
 unfold Oper.wp execOp;simp only[ho,resolve,invoke,builtin,Sem.run_bind,Sem.run_pure,Result.andThen_ok,List.map_toArray,List.map_cons,List.map_nil,hs,hx,hr]
 exact h v' w' h2 h3 h5
structure oC(T0:Tr)(q:Option Addr)(d:Nat)(w0 w:World)(F:Nat->Prop)(c p:Nat)(l0:List Nat)(M:Mt)(vs:List Value)(Ls:Nat->List gX):Prop where
 o:vC T0 q d w F c p l0 M vs Ls
 ge:∀k,F k->w0.heap.size<=k
 gc:w0.heap.size<=c
 bel:Below w0.heap.size w0 w
 tab:fK w0
section
variable {T0:Tr}{q:Option Addr}{d:Nat}{w0 w w':World}{F F':Nat->Prop}{c p:Nat}{l0:List Nat}{M M':Mt}{vs:List Value}{Ls:Nat->List gX}
theorem oC.up(h:oC T0 q d w0 w F c p l0 M vs Ls)(hb:Below w.heap.size w w'):oC T0 q d w0 w' F c p l0 M vs Ls:=⟨h.o.up hb,h.ge,h.gc,qe h.bel hb,h.tab⟩
theorem oC.fr(h:oC T0 q d w0 w F c p l0 M vs Ls)(hP:∃aj,oV w' F' p l0 M' T0 q d aj)(fr:Fr w w' F F')(hM:M <+: M'):oC T0 q d w0 w' F' c p l0 M' vs Ls :=
 ⟨h.o.fr hP fr hM,fr.ge h.ge h.bel.size,h.gc,h.bel.trans (fr.below h.ge h.bel.size),h.tab⟩
theorem oC.good(h:oC T0 q d w0 w F c p l0 M vs Ls):dM M:=by
 obtain⟨aj,hp⟩:=h.o.EO;exact hp.o.good
end
def nO(w:World)(k:Nat):World:=w.alloc (.cells #[.int .u64 (2 ^ k:Nat)] 37)
theorem SK(hk:k<64):2 ^ k<2 ^ 64:=Nat.pow_lt_pow_right (by decide) hk
theorem uC(hF:∀k,F k->k<w.heap.size)(k:Nat):US (nO w k) F (some ⟨w.heap.size,0,none⟩) 1 1 [2 ^ k]:=⟨OB [2 ^ k] w (by simp),fun j hj e=>by
 have:=hF _ e
 simp[aG,qi]at this⟩
theorem qiq(hk:k<64):Sm [2 ^ k]:=fun x hx=>by
 have:x=2 ^ k:=by simpa using hx
 subst this;exact SK hk
theorem qh8(h:m<=k):¬jJ [2 ^ k] m:=fun hb=>by
 have:=hb (2 ^ k) (by simp) k (by simp)
 omega
section
variable {T0:Tr}{q:Option Addr}{d:Nat}{w0 w:World}{F:Nat->Prop}{c p:Nat}{l0:List Nat}{M:Mt}{vs:List Value}{Ls:Nat->List gX}
theorem oC.flt(h:oC T0 q d w0 w F c p l0 M vs Ls):∀k,F k->k<w.heap.size:=by
 obtain⟨aj,hp⟩:=h.o.EO;exact hp.o.lt
theorem oC.past(h:oC T0 q d w0 w F c p l0 M vs Ls)(hk:k<64)(hm:M.length<=k):Calls prog 28 #[.pointer (some ⟨p,0,none⟩),.slice (some ⟨w.heap.size,0,none⟩) 1 1,.int .u8 x] (nO w k) fun e w'=>e=.returned (.tuple #[.slice none 0 0,.int .i64 2])/\oC T0 q d w0 w' F c p l0 M vs Ls:=by
 have h1:=h.up (qd w (.cells #[.int .u64 (2 ^ k:Nat)] 37));obtain⟨aj,hp⟩:=h1.o.EO;refine (q97 (x:=x) hp.o _ 1 [2 ^ k] (uC h.flt k) (qiq hk) (by simp) (qh8 hm)).mono ?_
 rintro e w' ⟨rfl,hb⟩
 exact⟨rfl,h1.up hb⟩
theorem oC.step(h:oC T0 q d w0 w F c p l0 M vs Ls)(hk:k<M.length)(hx:x<256):Calls prog 28 #[.pointer (some ⟨p,0,none⟩),.slice (some ⟨w.heap.size,0,none⟩) 1 1,.int .u8 x] (nO w k) fun e w'=>
  (stepM aV x [2 ^ k] [] M=none/\e=.returned (.tuple #[.slice none 0 0,.int .i64 9])/\Below w0.heap.size w0 w') \/
  ∃r M' F',stepM aV x [2 ^ k] [] M=some (r.ts,M')/\e=.returned (.tuple #[.slice r.a r.len r.cap,.int .i64 0])/\oC T0 q d w0 w' F' c p l0 M' vs Ls/\KU w' F' c vs r/\(∀M2,M' <+: M2->stepM aV x [2 ^ k] [] M2=some (r.ts,M2))/\M <+: M'/\Fr (nO w k) w' F F':=by
 have h1:=h.up (qd w (.cells #[.int .u64 (2 ^ k:Nat)] 37));obtain⟨aj,hp⟩:=h1.o.EO;have ht:fK (nO w k):=h.tab.up h1.bel;have htl:=World.block_lt_of_cell? _ _ (ht 0 (by decide))
 have hbd:jJ [2 ^ k] M.length:=Ua hk;refine (sX hx hp.o ht hp.g _ 1 [2 ^ k] ⟨uC h.flt k,by simp,hbd⟩).mono ?_
 rintro e w' ⟨F',i',fr,⟨hs,rfl,hO⟩|⟨L,M',q',d',hs,rfl,hU,hO,hnw,_⟩⟩
 ·exact Or.inl ⟨hs,rfl,h1.bel.trans (fr.below h1.ge h1.bel.size)⟩
 ·have ag:=Ud aV x [2 ^ k] [] M M' L hbd hs
  refine Or.inr ⟨⟨q',L.length,d',L⟩,M',F',hs,rfl,h1.fr ⟨i',hO,hp.u.fr fr,hp.l,fr.out hp.g htl⟩ fr ag.1,⟨hU,fun j hj=>?_⟩,ag.2,ag.1,fr⟩
  have h2:(nO w k).heap.size<=(aG q' j).block:=hnw j hj;have h3:c<(nO w k).heap.size:=h1.o.IV;refine⟨fun e=>?_,fun y hy e=>?_⟩
  ·have e2:(aG q' j).block=c:=e
   omega
  ·have h4:(aG q' j).block<(nO w k).heap.size:=h1.o.KW hy e
   omega
end
theorem uE(t:List Nat)(hx:x<256)(w:World):(Instr.index 63 (.agg (stB t)) (.int .i64 x)).run prog w=.ok (.bool (decide (x∈t))) w:=by
 have h1:=Nk t hx;have h2:=BZ t;generalize stB t=A at *;have hxa:x<A.size:=by omega
 rw[Array.getElem?_eq_getElem hxa]at h1;injection h1 with h1;simp[Instr.index,run_underlying underlying63,asIntOf,qU (show (prog.info? 4).map (·.size)=some 1 by kernel_rfl),hx,Result.andThen,go_sem,h1,hxa]
theorem qew(c x:Nat)(hx:x<256)(w:World):(Instr.indexAt 56 (.pointer (some ⟨c,1,none⟩)) (.int .i64 x)).run prog w=.ok (.pointer (some ⟨c,1+x,none⟩)) w:=by
 simp[Instr.indexAt,run_underlying underlying56,asIntOf,qU (show (prog.info? 27).map (·.size)=some 1 by kernel_rfl),hx,Result.andThen,go_sem,qi]
structure Cb(T0:Tr)(q:Option Addr)(d:Nat)(w0:World)(c p:Nat)(l0 t:List Nat)(g:Nat)(R:Option Mt)(n:Nat)(w:World)(F:Nat->Prop)(M:Mt)(vs:List Value)(Ls:Nat->List gX):Prop where
 s:oC T0 q d w0 w F c p l0 M vs Ls
 st:mF w g t
 nf:¬F g
 ng:g≠c
 ln:∀y,y<256->(Ls y).length=if y∈t then n else 0
 nm:t≠[]->n<=M.length
 rr:R=dF aV (bP t) (64-n) n M
structure Ea(T0:Tr)(q:Option Addr)(d:Nat)(w0:World)(c p:Nat)(l0 t:List Nat)(g:Nat)(R:Option Mt)(n x:Nat)(w:World)(F:Nat->Prop)(M:Mt)(vs:List Value)(Ls:Nat->List gX):Prop where
 s:oC T0 q d w0 w F c p l0 M vs Ls
 st:mF w g t
 nf:¬F g
 ng:g≠c
 ln:∀y,y<256->(Ls y).length=if y∈t then (if y<x then n+1 else n) else 0
 nm:n<M.length
 rr:R=pV (bP t) n (63-n) (pU t x) M
section
variable {T0:Tr}{q:Option Addr}{d:Nat}{w0 w:World}{F:Nat->Prop}{c p g n x:Nat}{l0 t:List Nat}{M:Mt}{vs:List Value}{Ls:Nat->List gX}{R:Option Mt}
theorem Cb.into(h:Cb T0 q d w0 c p l0 t g R n w F M vs Ls)(hn:n<64)(hm:n<M.length):Ea T0 q d w0 c p l0 t g R n 0 w F M vs Ls :=
 ⟨h.s,h.st,h.nf,h.ng,fun y hy=>by rw[h.ln y hy];simp,hm,by rw[h.rr,show 64-n=63-n+1 by omega,qdW _ _ _ hm,qeZ]⟩
theorem Ea.out(h:Ea T0 q d w0 c p l0 t g R n 256 w F M vs Ls):Cb T0 q d w0 c p l0 t g R (n+1) w F M vs Ls :=
 ⟨h.s,h.st,h.nf,h.ng,fun y hy=>by rw[h.ln y hy,if_pos hy],fun _=>h.nm,by rw[h.rr,qfD,qg1,show 64-(n+1)=63-n by omega]⟩
theorem Ea.skip(h:Ea T0 q d w0 c p l0 t g R n x w F M vs Ls)(hx:x<256)(ht:x ∉ t):Ea T0 q d w0 c p l0 t g R n (x+1) w F M vs Ls:=by
 refine⟨h.s,h.st,h.nf,h.ng,fun y hy=>?_,h.nm,by rw[h.rr,Yf t hx,if_neg ht]⟩
 rw[h.ln y hy];by_cases hy2:y∈t
 ·have:y≠x:=fun e=>ht (e ▸ hy2)
  rw[if_pos hy2,if_pos hy2];by_cases h3:y<x
  ·rw[if_pos h3,if_pos (by omega)]
  ·rw[if_neg h3,if_neg (by omega)]
 ·rw[if_neg hy2,if_neg hy2]
theorem Cb.none(h:Cb T0 q d w0 c p l0 t g R n w F M vs Ls)(h8:∀y∈t,y<256)(hno:∀y,y<256->y ∉ t)(hm:M.length<=n):Cb T0 q d w0 c p l0 t g R (n+1) w F M vs Ls:=by
 have ht:t=[]:=by
  cases t with
  |nil=>rfl
  |cons a t=>exact absurd (List.mem_cons_self ..) (hno a (h8 a (List.mem_cons_self ..)))
 refine⟨h.s,h.st,h.nf,h.ng,fun y hy=>?_,fun e=>absurd ht e,?_⟩
 ·rw[h.ln y hy,if_neg (hno y hy),if_neg (hno y hy)]
 ·rw[h.rr,Yg _ _ _ hm,Yg _ _ _ (by omega)]
theorem Cb.past(h:Cb T0 q d w0 c p l0 t g R n w F M vs Ls)(hm:M.length<=n):R=some M:=by rw[h.rr,Yg _ _ _ hm]
theorem Cb.full(h:Cb T0 q d w0 c p l0 t g R n w F M vs Ls)(hm:M.length<=n):∀y,y<256->y∈t->(Ls y).length=M.length:=fun y hy ht=>by
 have:=h.nm (fun e=>by rw[e]at ht;cases ht)
 rw[h.ln y hy,if_pos ht]
 omega
end
def Vk(T0:Tr)(q:Option Addr)(d:Nat)(w0:World)(c p:Nat)(l0 t:List Nat)(R:Option Mt)(e:Ending)(w':World):Prop :=
 (R=none/\e=.returned (.int .i64 9)/\Below w0.heap.size w0 w') \/
 ∃M' F' vs' Vl,R=some M'/\e=.returned (.int .i64 0)/\oC T0 q d w0 w' F' c p l0 M' vs' Vl/\∀y,y<256->y∈t->(Vl y).length=M'.length
theorem mF.put{t:List Nat}(h:mF w g t){v:Value}{base:Nat}{xs:List Value}(hr:w.ownsRow base 36 1 v n xs)(hg:(w.alloc o).drew.grownBy w5 v.ownBlock)(hc:g≠c)(hw:w'=w5.setCell ⟨c,1+x,none⟩ v'):mF w' g t:=by
 subst hw;have hne:v.ownBlock≠some g:=FN hr h fun cs e=>by injection e with _ e _;exact absurd e (by decide)
 have hz:(w.alloc o).drew.heap.size=w.heap.size+1:=by simp
 have:=h.lt
 exact(Below.heap_setCell _ _ _ _ hc).trans ((hg.block g (by omega) (fun e=>hne e.symm)).trans (((qd w o).block g h.lt).trans h))
theorem Ea.put{T0:Tr}{q:Option Addr}{d:Nat}{w0 w w2 w5:World}{F F':Nat->Prop}{c p g n x:Nat}{l0 t:List Nat}{M M':Mt}{vs:List Value}{Ls:Nat->List gX}{R:Option Mt}{r:gX}{v':Value}{o:Obj}
  (h:Ea T0 q d w0 c p l0 t g R n x w F M vs Ls) (hx:x<256) (ht:x∈t) (hst:stepM aV x [2 ^ n] [] M=some (r.ts,M')) (hS:oC T0 q d w0 w2 F' c p l0 M' vs Ls) (hg2:mF w2 g t) (hnf:¬F' g) (hr:KU w2 F' c vs r) (hd:∀M2,M' <+: M2->stepM aV x [2 ^ n] [] M2=some (r.ts,M2)) (hM:M <+: M')
  (hg:(w2.alloc o).drew.grownBy w5 (pR vs x).ownBlock) (ho:w5.ownsRow (c+1) 36 1 v' ((Ls x).length+1) ((Ls x).map oq++[oq r])) (hl:v'.ownBlock=(pR vs x).ownBlock\/v'.ownBlock=some (w2.heap.size+1)):
  w5.cell? ⟨c,1+x,none⟩=some (pR vs x)/\w5.frozen? ⟨c,1+x,none⟩=false/\Ea T0 q d w0 c p l0 t g R n (x+1) (w5.setCell ⟨c,1+x,none⟩ v') F' M' (vs.set x v') (Bo Ls x r):=by
 have hlx:(Ls x).length=n:=by rw[h.ln x hx,if_pos ht,if_neg (by omega)]
 have hnm:n<M'.length:=Nat.lt_of_lt_of_le h.nm hM.length_le;obtain⟨h1,h2,h3,h4⟩:=hS.o.put hx hg ho hl hr (by rw[hlx];exact⟨hnm,hd⟩)
 refine⟨h1,h2,⟨⟨h3,hS.ge,hS.gc,hS.bel.trans (h4.mono hS.gc),hS.tab⟩,hg2.put (hS.o.row x hx) hg h.ng rfl,hnf,h.ng,fun y hy=>?_,hnm,?_⟩⟩
 ·unfold Bo
  have:=h.ln y hy
  by_cases e:y=x
  ·subst e
   rw[if_pos rfl,List.length_append,hlx,if_pos ht,if_pos (by omega)]
   rfl
  ·rw[if_neg e,this]
   by_cases hy2:y∈t
   ·rw[if_pos hy2,if_pos hy2]
    by_cases h3:y<x
    ·rw[if_pos h3,if_pos (by omega)]
    ·rw[if_neg h3,if_neg (by omega)]
   ·rw[if_neg hy2,if_neg hy2]
 ·rw[h.rr,Yf t hx,if_pos ht,qf8 hst]
theorem q5Z{w0:World}{vs:List Value}(h:oC T0 q d w0 w F c p l0 M vs (fun _=>[]))(t:List Nat)(h8:∀x∈t,x<256):
  Calls prog 25 #[.pointer (some ⟨c,0,none⟩),.agg (stB t)] w (Vk T0 q d w0 c p l0 t (dF aV (bP t) 64 0 M)):=by
 obtain⟨R,hR⟩:∃R,R=dF aV (bP t) 64 0 M:=⟨_,rfl⟩
 rw[<-hR];obtain⟨Q,hQ⟩:∃Q:Ending->World->Prop,Q=Vk T0 q d w0 c p l0 t R:=⟨_,rfl⟩
 have HQ:Hid (∀e w',Vk T0 q d w0 c p l0 t R e w'->Q e w'):=fun e w' h=>by rw[hQ];exact h
 rw[<-hQ];have hb0:=qd w (.cells (stB t) 63);have vS:Hid (Cb T0 q d w0 c p l0 t w.heap.size R 0 (w.alloc (.cells (stB t) 63)) F M vs (fun _=>[])):=⟨h.up hb0,(MapKept.heap_alloc w _).1,fun e=>Nat.lt_irrefl _ (h.flt _ e),fun e=>by have:=h.o.IV;omega,fun y hy=>by simp,fun _=>Nat.zero_le _,hR⟩
 have H8:Hid _:=h8;have hbx:∀w,(Instr.box 63 (.agg (stB t))).run prog w=.ok (.pointer (some ⟨w.heap.size,0,none⟩)) (w.alloc (.cells (stB t) 63)):=fun w=>rfl
 clear h h8 hR hQ hb0;go_enter func25,ntmps25
 go_wp2
 go_loopw [10] (fun i wr=>∃(n:Nat) (Fj:Nat->Prop) (Mj:Mt) (vj:List Value) (Lj:Nat->List gX),n<=64/\i=.int .i64 n/\Hid (Cb T0 q d w0 c p l0 t w.heap.size R n wr Fj Mj vj Lj)) (fun i _=>64-(intOf i).toNat)
 case atStart=>exact⟨0,F,M,vs,_,by omega,rfl,vS⟩
 case round=>
  clear vS hbx;obtain⟨n,Fj,Mj,vj,Lj,hn,rfl,HG⟩:=hrel;by_cases hlt:n<64
  ·have hlb:((n:Int)<64)=True:=by simp;omega
   go_wp2;refine wp_load_row 63 _ rfl w.heap.size rfl 63 (stB t) (0,0) _ HG.out.st underlying63 rfl (by rw[BZ];exact Nl) ?_
   by_cases hm:n<Mj.length
   ·have HI0:Hid _:=HG.out.into hlt hm
    clear HG hm;go_wp2
    go_loopw [14] (fun i w1=>∃(x:Nat) (Fi:Nat->Prop) (Mi:Mt) (vi:List Value) (Li:Nat->List gX),x<=256/\i=.int .i64 x/\Hid (Ea T0 q d w0 c p l0 t w.heap.size R n x w1 Fi Mi vi Li)) (fun i _=>256-(intOf i).toNat)
    case atStart=>exact⟨0,_,_,_,_,by omega,rfl,HI0⟩
    case round=>
     clear HI0;obtain⟨x,Fi,Mi,vi,Li,hx,rfl,HI⟩:=hrel;by_cases hltx:x<256
     ·have hix:=fun w'=>uE t hltx w'
      by_cases hxt:x∈t
      ·rw[decide_eq_true hxt]at hix
       have sd:=HI.out.s.up (Below.refl _ _).drew;have ja:Calls prog 48 #[.int .i64 n] wr.drew fun e w'=>e=.returned (.slice (some ⟨wr.heap.size,0,none⟩) 1 1)/\w'=nO wr.drew n:=uA n hlt wr.drew
       have Gx:=sd.step HI.out.nm hltx;have dP:wr.cell? ⟨c,0,none⟩=some (.pointer (some ⟨p,0,none⟩)):=HI.out.s.o.c0;have hk0:wr.drew.cell? ⟨c,0,none⟩=some (.pointer (some ⟨p,0,none⟩)):=sd.o.c0;have hk1:(nO wr.drew n).cell? ⟨c,0,none⟩=some (.pointer (some ⟨p,0,none⟩)):=(sd.up (qd _ _)).o.c0;have hcv:IntKind.u8.wrap (x:Int)=(x:Int):=by rw[IntKind.wrap_u8];omega
       have hzz:wr.drew.heap.size=wr.heap.size:=rfl
       cases hst:stepM aV x [2 ^ n] [] Mi with
       |none=>
        have js:Calls prog 28 #[.pointer (some ⟨p,0,none⟩),.slice (some ⟨wr.heap.size,0,none⟩) 1 1,.int .u8 x] (nO wr.drew n) fun e w'=>e=.returned (.tuple #[.slice none 0 0,.int .i64 9])/\Q (.returned (.int .i64 9)) w'/\w'.cell? ⟨c,0,none⟩=w'.cell? ⟨c,0,none⟩:=Gx.mono fun e w' hq=>by
         rcases hq with⟨_,he,hb⟩|⟨r,M',F',h1,_⟩
         ·exact⟨he,HQ.out _ _ (Or.inl ⟨by rw[HI.out.rr,Yf t hltx,if_pos hxt,qf7 hst],rfl,hb⟩),rfl⟩
         ·rw[hst]at h1;cases h1
        clear Gx sd HI hst hzz
        go_upto_region 20 with fail
        go_region_with (first
         | (revert ja;intro ja;go_at_call 48;(with_reducible refine ja.mono ?_);rintro e w1 ⟨rfl,rfl⟩)
         | (revert js;intro js;go_at_call 28;(with_reducible refine js.mono ?_);rintro e w2 ⟨rfl,hq2,_⟩;have HE:Hid _:=hq2)
         |fail)
        all_goals
         clear ja js;go_wp2;exact HE.out
       |some z=>
        obtain⟨L,M2⟩:=z
        have js:Calls prog 28 #[.pointer (some ⟨p,0,none⟩),.slice (some ⟨wr.heap.size,0,none⟩) 1 1,.int .u8 x] (nO wr.drew n) fun e w2=>∃r F2,e=.returned (.tuple #[.slice r.a r.len r.cap,.int .i64 0])/\Hid (stepM aV x [2 ^ n] [] Mi=some (r.ts,M2))/\Hid (oC T0 q d w0 w2 F2 c p l0 M2 vi Li)/\Hid (KU w2 F2 c vi r)/\Hid (∀M3,M2 <+: M3->stepM aV x [2 ^ n] [] M3=some (r.ts,M3))/\Hid (Mi <+: M2)/\Hid (mF w2 w.heap.size t)/\Hid (¬F2 w.heap.size):=Gx.mono fun e w' hq=>by
         rcases hq with⟨h1,_⟩|⟨r,M',F',h1,he,h3,h4,h5,h6,fr⟩
         ·rw[hst]at h1;cases h1
         ·rw[hst]at h1
          injection h1 with h1;injection h1 with h1 h2;subst h1 h2;have hg0:mF (nO wr.drew n) w.heap.size t:=(qd wr.drew _).block _ HI.out.st.lt |>.trans HI.out.st;exact⟨r,F',he,hst,h3,h4,h5,h6,(fr.keep _ hg0.lt HI.out.nf).trans hg0,fr.out HI.out.nf hg0.lt⟩
        have ZT:Hid ((Li x).length=n):=by show _=_;rw[HI.out.ln x hltx,if_pos hxt,if_neg (by omega)]
        clear Gx sd hst hzz
        go_upto_region 20 with fail
        go_region_with (first
         | (revert ja;intro ja;go_at_call 48;(with_reducible refine ja.mono ?_);rintro e w1 ⟨rfl,rfl⟩)
         | (revert js;intro js;go_at_call 28;(with_reducible refine js.mono ?_);rintro e w2 ⟨r,F2,rfl,HST,HS2,uL,Ey,Kw,SL,Q7⟩)
         |fail)
        all_goals
         clear ja js dP hk0 hk1 hcv;have hrow:=HS2.out.o.row x hltx;obtain⟨av,cv,hv⟩:=qK hrow;rw[ZT.out]at hv;have cx:=HS2.out.o.cx hltx;rw[hv]at cx;have cxb:(w2.alloc (.cells #[oq r] 36)).cell? ⟨c,1+x,none⟩=some (.slice av n cv):=qf cx (qd w2 _);have ZU:=fun w'=>qew c x hltx w'
         have hbA:=qd w2 (.cells #[oq r] 36)
         have hO:(w2.alloc (.cells #[oq r] 36)).drew.ownsRow (c+1) 36 1 (.slice av n cv) n ((Li x).map oq):=by
          have:=World.ownsRow.alloc hrow (.cells #[oq r] 36)
          rw[ZT.out,hv]at this;exact this
         have hB:(w2.alloc (.cells #[oq r] 36)).drew.heap[w2.heap.size]? =some (.cells #[oq r] 36 (0,0)):=(dO w2 _).1
         have nM:Hid (∀w5 v',(w2.alloc (.cells #[oq r] 36)).drew.grownBy w5 (Value.slice av n cv).ownBlock->w5.ownsRow (c+1) 36 1 v' (n+1) ((Li x).map oq++[oq r])->(v'.ownBlock=(Value.slice av n cv).ownBlock\/v'.ownBlock=some (w2.alloc (.cells #[oq r] 36)).drew.heap.size)->w5.cell? ⟨c,1+x,none⟩=some (.slice av n cv)/\w5.frozen? ⟨c,1+x,none⟩=false/\∃Fi Mi vi Li,Ea T0 q d w0 c p l0 t w.heap.size R n (x+1) (w5.setCell ⟨c,1+x,none⟩ v') Fi Mi vi Li):=fun w5 v' hg ho hl=>by
          rw[<-hv]at hg hl ⊢;have:=HI.out.put hltx hxt HST.out HS2.out SL.out Q7.out uL.out Ey.out Kw.out hg (by rw[ZT.out];exact ho) (by simpa using hl)
          exact⟨this.1,this.2.1,_,_,_,_,this.2.2⟩
         have hcb:c+1<=w2.heap.size:=HS2.out.o.IV;clear hrow hbA HS2 uL Ey Kw SL Q7 HST hv;obtain⟨ra,rl,rc,rt⟩:=r;unfold oq at *;dsimp only at *
         go_upto_region 20 with fail
         go_region_law ((refine qb9 rfl _ _ rfl (c+1) (.slice av n cv) n _ ⟨ra,rl,rc,rt⟩ w2.heap.size rfl rfl hO hB (by omega) (by simp;omega) ?_;intro v5 w5 hown5 hgr5 mV;obtain⟨a5,k5,rfl⟩:=qK hown5;have m5:=nM.out w5 _ hgr5 hown5 mV;have c5:=m5.1;have z5:=m5.2.1;have SN:Hid _:=m5.2.2;clear m5))
         all_goals
          obtain⟨F6,M6,v6,L6,uR⟩:=SN.out;have HI6:Hid _:=uR;clear uR hO hB cx cxb ZU c5 z5 hown5 hgr5 mV nM;go_wp2
          go_roundw
          case rel=>exact⟨x+1,F6,M6,v6,L6,by omega,by go_num,HI6⟩
          case measure=>simp[intOf]<;>omega
      ·rw[decide_eq_false hxt]at hix
       have KX:Hid _:=HI.out.skip hltx hxt;clear HI;go_wp2
       go_roundw
       case rel=>exact⟨x+1,_,_,_,_,by omega,by go_num,KX⟩
       case measure=>simp[intOf]<;>omega
     ·obtain rfl:x=256:=by omega
      have ZV:Hid _:=HI.out.out;clear HI;go_wp2
      go_roundw
      case rel=>exact⟨n+1,_,_,_,_,by omega,by go_num,ZV⟩
      case measure=>simp[intOf]<;>omega
   ·have yO:Hid (Mj.length<=n):=by show _<=_;omega
    clear hm;go_wp2
    go_loopw [14] (fun i w1=>∃(x:Nat),x<=256/\i=.int .i64 x/\w1=wr/\Hid (∀y,y<x->y ∉ t)) (fun i _=>256-(intOf i).toNat)
    case atStart=>exact⟨0,by omega,rfl,rfl,fun y hy=>absurd hy (by omega)⟩
    case round=>
     obtain⟨x,hx,rfl,rfl,BL⟩:=hrel;by_cases hltx:x<256
     ·have hix:=fun w'=>uE t hltx w'
      by_cases hxt:x∈t
      ·rw[decide_eq_true hxt]at hix
       have sd:=HG.out.s.up (Below.refl _ _).drew;have ja:Calls prog 48 #[.int .i64 n] wr.drew fun e w'=>e=.returned (.slice (some ⟨wr.heap.size,0,none⟩) 1 1)/\w'=nO wr.drew n:=uA n hlt wr.drew
       have dP:wr.cell? ⟨c,0,none⟩=some (.pointer (some ⟨p,0,none⟩)):=HG.out.s.o.c0;have hk0:wr.drew.cell? ⟨c,0,none⟩=some (.pointer (some ⟨p,0,none⟩)):=sd.o.c0;have hk1:(nO wr.drew n).cell? ⟨c,0,none⟩=some (.pointer (some ⟨p,0,none⟩)):=(sd.up (qd _ _)).o.c0;have hcv:IntKind.u8.wrap (x:Int)=(x:Int):=by rw[IntKind.wrap_u8];omega
       have js:Calls prog 28 #[.pointer (some ⟨p,0,none⟩),.slice (some ⟨wr.heap.size,0,none⟩) 1 1,.int .u8 x] (nO wr.drew n) fun e w'=>e=.returned (.tuple #[.slice none 0 0,.int .i64 2])/\Q (.returned (.int .i64 0)) w':=(sd.past hlt yO.out).mono fun e w' ⟨he,hs⟩=>⟨he,HQ.out _ _ (Or.inr ⟨Mj,Fj,vj,Lj,HG.out.past yO.out,rfl,hs,HG.out.full yO.out⟩)⟩
       clear sd HG BL
       go_upto_region 20 with fail
       go_region_with (first
        | (revert ja;intro ja;go_at_call 48;(with_reducible refine ja.mono ?_);rintro e w3 ⟨rfl,rfl⟩)
        | (revert js;intro js;go_at_call 28;(with_reducible refine js.mono ?_);rintro e w2 ⟨rfl,hq2⟩;have HE:Hid _:=hq2)
        |fail)
       all_goals
        clear ja js;go_wp2;exact HE.out
      ·rw[decide_eq_false hxt]at hix
       have Vh:Hid (∀y,y<x+1->y ∉ t):=fun y hy=>by
        by_cases e:y=x
        ·subst e;exact hxt
        ·exact BL.out y (by omega)
       clear BL;go_wp2
       go_roundw
       case rel=>exact⟨x+1,by omega,by go_num,by first|trivial|rfl,Vh⟩
       case measure=>simp[intOf]<;>omega
     ·obtain rfl:x=256:=by omega
      have ZV:Hid _:=HG.out.none H8.out BL.out yO.out;clear HG;go_wp2
      go_roundw
      case rel=>exact⟨n+1,_,_,_,_,by omega,by go_num,ZV⟩
      case measure=>simp[intOf]<;>omega
  ·obtain rfl:n=64:=by omega
   have hm:Mj.length<=64:=HG.out.s.good.few;have HE:Hid (Q (.returned (.int .i64 0)) wr):=HQ.out _ _ (Or.inr ⟨Mj,Fj,vj,Lj,HG.out.past hm,rfl,HG.out.s,HG.out.full hm⟩);clear HG hm;go_wp2;exact HE.out
end Go.Proofs.YtoioiellaomonaaGreatDoor
