/- Texts of the proof, put together: what it uses. -/
import Derived.Deep.RegionLaw
import Derived.Test.YtekeaodpdcnfjaaGreatDoorZ01
import Derived.Test.YtekeaodpdcnfjaaGreatDoorZ02
import Derived.Test.YtekeaodpdcnfjaaGreatDoorZ05
import Derived.Test.YtekeaodpdcnfjaaGreatDoorZ06
import Derived.Test.YtekeaodpdcnfjaaGreatDoorZ09
set_option maxRecDepth 100000
set_option maxHeartbeats 16000000
namespace Go.Proofs.YtekeaodpdcnfjaaGreatDoor
open Go.RowKit Go.Maps
def noTx (n:Nat):List ByteArray:=List.replicate n ⟨#[]⟩
theorem qeu(n:Nat):noTx n++[⟨#[]⟩]=noTx (n+1):=by
 unfold noTx;rw[List.replicate_succ']
structure PtN (w:World) (B b:Nat) (vi:Value) (mp:Nat) (vt:Value) (T:Tr) (items:List It) (n:Nat):Prop where
 k:PtK T items n
 ok:∀x∈items,ItOk x
 r:PtR w b 103 [] vi mp vt items (noTx items.length) items.length (posI items)
 ge:∀k,FP b mp vi vt k->B<=k
theorem qgW{w3:World}{b:Nat}(hb:w3.heap[b]? = some (.cells #[.slice none 0 0,.map none,.slice none 0 0] 103 (0,0))):
  Pts ((w3.setCell ⟨b,1,none⟩ (.map (some w3.heap.size))).alloc (.map #[] 0)) (fun k=>k=b\/k=w3.heap.size) b 103 [] [] []:=by
 have hl:b<w3.heap.size:=(aes hb).1
 have h1:=heap_setCell_same _ b 1 _ _ (.map (some w3.heap.size)) hb;have hz:(w3.setCell ⟨b,1,none⟩ (.map (some w3.heap.size))).heap.size=w3.heap.size:=by simp
 have hn:=qc2 (w3.setCell ⟨b,1,none⟩ (.map (some w3.heap.size)));rw[hz]at hn;refine⟨by simp,rfl,by simp,fun x hx=>(by cases hx),fun x hx=>(by cases hx),.slice none 0 0,w3.heap.size,.slice none 0 0,⟨Or.inl rfl,?_,⟨rfl,Or.inl ⟨rfl,rfl⟩⟩,⟨rfl,Or.inl ⟨rfl,rfl⟩⟩,hn.alike fun x _=>rfl⟩,fun k=>?_⟩
 ·rw[(qc _ _).block b (by rw[hz];exact hl),h1];rfl
 ·constructor
  ·rintro (h|h)
   ·exact Or.inl h
   ·exact Or.inr (Or.inl h)
  ·rintro (h|h|h|h)
   ·exact Or.inl h
   ·exact Or.inr h
   ·cases h
   ·cases h
theorem PtR.again{w:World}{b mp n:Nat}{T:TypeId}{vi vt:Value}{items:List It}{texts:List ByteArray}{f:It->Option Nat}(h:PtR w b T [] vi mp vt items texts n f):
  PtR (((w.setCell ⟨b,0,none⟩ vi).setCell ⟨b,1,none⟩ (.map (some mp))).setCell ⟨b,2,none⟩ vt) b T [] vi mp vt items texts n f/\∀k:Nat,(((w.setCell ⟨b,0,none⟩ vi).setCell ⟨b,1,none⟩ (.map (some mp))).setCell ⟨b,2,none⟩ vt).heap[k]? = w.heap[k]? := by
 have k1:=heap_setCell_same w b 0 _ _ vi h.blk;have k2:=heap_setCell_same _ b 1 _ _ (.map (some mp)) k1;have k3:=heap_setCell_same _ b 2 _ _ vt k2
 have all:∀k:Nat,(((w.setCell ⟨b,0,none⟩ vi).setCell ⟨b,1,none⟩ (.map (some mp))).setCell ⟨b,2,none⟩ vt).heap[k]? = w.heap[k]? := fun k=>by
  by_cases e:k=b
  ·subst e;rw[k3,h.blk];rfl
  ·exact(Below.heap_setCell _ _ _ _ e).trans ((Below.heap_setCell _ _ _ _ e).trans (Below.heap_setCell _ _ _ _ e))
 exact⟨h.far fun k _=>all k,all⟩
theorem q2Z{B:Nat}{w w':World}(h:Below B w w')(a:Addr)(v:Value)(ha:B<=a.block):Below B w (w'.setCell a v) :=
 ⟨h.os,h.tape,h.output,by simp;exact h.size,fun k hk=>(Below.heap_setCell _ _ _ _ (by omega)).trans (h.block k hk)⟩
structure PtG (w wr:World) (b t:Nat) (F:Nat->Prop) (items:List It) (k:Nat):Prop where
 p:∃G,Pts wr G b 103 [] (items.take k) (noTx k)/\(∀j,G j->w.heap.size<=j)/\∀j,F j->¬ G j
 t:TabI wr F t items
 b:Below w.heap.size w wr
theorem qfX{items:List It}(hn:items.Nodup){k:Nat}(hk:k<items.length):items[k] ∉ items.take k:=fun h=>by
 obtain⟨j,hj,e⟩:=List.getElem_of_mem h;rw[List.getElem_take]at e;have:=(List.getElem_inj hn).1 e
 simp at hj
 omega
theorem PtG.up{w wr w':World}{b t:Nat}{F:Nat->Prop}{items:List It}{k:Nat}(h:PtG w wr b t F items k)(hb:Below wr.heap.size wr w'):PtG w w' b t F items k:=by
 obtain⟨G,hp,h1,h2⟩:=h.p;exact⟨⟨G,hp.up hb,h1,h2⟩,h.t.up hb,qd h.b hb⟩
theorem q7R{w wr:World}{b t:Nat}{F:Nat->Prop}{items:List It}{k:Nat}(h:PtG w wr b t F items k)(hk:k<items.length):Calls Tryz.prog 75 #[.pointer (some ⟨b,0,none⟩),itV items[k]] wr fun e w'=>(∃j,e=.returned (.int .i64 j))/\PtG w w' b t F items (k+1):=by
 obtain⟨G,hp,h1,h2⟩:=h.p;have hnd:=h.t.nd;have hfew:=h.t.few;refine (q4p hp items[k] (h.t.ok _ (List.getElem_mem hk)) (qfX hnd hk) (by simp;omega)).mono ?_
 rintro e w' ⟨rfl,G',hp',fr⟩
 rw[qeu,List.take_append_getElem hk]at hp';refine⟨⟨_,rfl⟩,⟨G',hp',fr.ge h1 h.b.size,fun j hj hG=>?_⟩,h.t.far fun j hj=>fr.keep j (h.t.lt j hj) (h2 j hj),h.b.trans (fr.below h1 h.b.size)⟩
 rcases fr.foot j hG with e|e
 ·exact h2 j hj e
 ·have:=h.t.lt j hj;omega
theorem PtG.fin{w wr:World}{b t:Nat}{F:Nat->Prop}{items:List It}(h:PtG w wr b t F items items.length):∃vi mp vt,PtR wr b 103 [] vi mp vt items (noTx items.length) items.length (posI items)/\∀k,FP b mp vi vt k->w.heap.size<=k:=by
 obtain⟨G,hp,h1,_⟩:=h.p;rw[List.take_length]at hp;obtain⟨vi,mp,vt,hr,hG⟩:=hp.ex;exact⟨vi,mp,vt,hr,fun k hk=>h1 k ((hG k).2 hk)⟩
theorem q3q(a:Option Addr)(len cap:Nat)(ts:List Tk)(w:World)(hT:TkSl w a len cap ts):
  Calls Tryz.prog 45 #[.slice a len cap] w fun e w'=>Below w.heap.size w w'/\((chkE ts≠0/\e=.returned (.tuple #[.agg #[.slice none 0 0,.map none,.slice none 0 0],.int .i64 0,.int .i64 (chkE ts:Int)])) \/
   (chkE ts=0/\∃T items n b vi mp vt,KT T/\T.size<=2048/\ts=T.flat/\PtN w' w.heap.size b vi mp vt T items n/\e=.returned (.tuple #[.agg #[vi,.map (some mp),vt],.int .i64 (n:Int),.int .i64 0]))):=by
 obtain⟨w0,hw0⟩:∃w0,w0=w.alloc (.cells #[.slice none 0 0,.map none,.slice none 0 0] 103):=⟨_,rfl⟩
 have hb0:Below w.heap.size w w0:=by rw[hw0];exact qc _ _
 have hz0:w0.heap.size=w.heap.size+1:=by rw[hw0];simp
 have hv0:w0.heap[w.heap.size]? = some (.cells #[.slice none 0 0,.map none,.slice none 0 0] 103 (0,0)):=by rw[hw0];exact(MapKept.heap_alloc w _).1
 have jn:=qaM w0;have hmm:=@run_makeMap Tryz.prog;have HT:Hid _:=hT.up hb0
 have HTS:Hid (∀x,a=some x->0<len->x.block<w0.heap.size):=fun x hx hl=>by
  have h1:=(hT.up hb0);subst hx;exact h1.lt hl
 have HB0:Hid _:=hb0;have HZ0:Hid _:=hz0;have HV0:Hid _:=hv0;have HW0:Hid _:=hw0;clear hT hb0 hz0 hv0 hw0;by_cases hc:chkE ts=0
 ·obtain⟨T,kT,hsz,hts,hE,hK⟩:=qfn hc
  obtain⟨items,hi⟩:∃items,items=keepI [] ts:=⟨_,rfl⟩
  obtain⟨n,hn⟩:∃n,n=keepN [] ts:=⟨_,rfl⟩
  rw[<- hi,<- hn]at hK;have HFIN:Hid (∀w' vi mp vt,PtN w' w.heap.size w.heap.size vi mp vt T items n->∃T' items' n' b vi' mp' vt',KT T'/\T'.size<=2048/\ts=T'.flat/\PtN w' w.heap.size b vi' mp' vt' T' items' n'/\(Ending.returned (.tuple #[.agg #[vi,.map (some mp),vt],.int .i64 (n:Int),.int .i64 0]))=.returned (.tuple #[.agg #[vi',.map (some mp'),vt'],.int .i64 (n':Int),.int .i64 0])):=fun w' vi mp vt h=>⟨T,items,n,_,vi,mp,vt,kT,hsz,hts,h,rfl⟩
  have HK:Hid _:=hK;have HI:Hid _:=hi;have HN:Hid _:=hn;have HE:Hid _:=hE;have HC:Hid _:=hc;clear kT hsz hts hK hi hn hE hc;go_enter Tryz.func45,Tryz.ntmps45
  go_wp2_with fail
  rw[<- HW0.out];refine jn.mono ?_
  rintro e w1 ⟨t,F,rfl,hTab,hge,hb1⟩
  have jk:=q4u a len cap ts ⟨hTab,qa1⟩ (HT.out.up hb1) (fun hl x hx e=>by have:=HTS.out x hx hl;have:=hge _ e;omega)
  rw[HE.out,<- HI.out,<- HN.out]at jk;have HGE:Hid (∀k,F k->w0.heap.size<=k):=hge;have HB1:Hid _:=hb1;clear jn hTab hge hb1;unfold tbV
  go_wp2_with fail
  refine jk.mono ?_
  rintro e w2 ⟨rfl,F2,hTab2,fr2⟩
  have hb2:Below w0.heap.size w1 w2:=fr2.below HGE.out HB1.out.size;have hbb:Below w0.heap.size w0 w2:=HB1.out.trans hb2;have hv2:w2.heap[w.heap.size]? = some (.cells #[.slice none 0 0,.map none,.slice none 0 0] 103 (0,0)):=(hbb.block _ (by have:=HZ0.out;omega)).trans HV0.out
  have hg2:∀k,F2 k->w0.heap.size<=k:=fr2.ge HGE.out HB1.out.size;have hp0:=qgW hv2;have HB2:Hid (Below w.heap.size w w2):=HB0.out.trans (hbb.mono (by have:=HZ0.out;omega))
  have hl2:w.heap.size<w2.heap.size:=(aes hv2).1
  have d1:w2.cell? ⟨w.heap.size,1,none⟩=some (.map none):=qb hv2 1;have z1:w2.frozen? ⟨w.heap.size,1,none⟩=false:=frozen_of_row _ _ 1 _ _ hv2;have hzs:(w2.setCell ⟨w.heap.size,1,none⟩ (.map (some w2.heap.size))).heap.size=w2.heap.size:=by simp
  have HG0:Hid (PtG w ((w2.setCell ⟨w.heap.size,1,none⟩ (.map (some w2.heap.size))).alloc (.map #[] 0)) w.heap.size t F2 items 0):=by
   refine⟨⟨_,hp0,fun j hj=>?_,fun j hj hG=>?_⟩,hTab2.1.far fun k hk=>?_,?_⟩
   ·rcases hj with rfl|rfl <;> omega
   ·have h1:=hg2 j hj
    have h2:=hTab2.1.lt j hj;have:=HZ0.out
    rcases hG with e|e <;> omega
   ·have h1:=hg2 k hk
    have h2:=hTab2.1.lt k hk;have:=HZ0.out
    exact((qc _ _).block k (by rw[hzs];exact h2)).trans (Below.heap_setCell _ _ _ _ (by dsimp only;omega))
   ·exact qd (q2Z HB2.out _ _ (Nat.le_refl _)) (qc _ _)
  clear jk hTab2 fr2 hb2 hbb hv2 hg2 hp0 hzs;have hfew:items.length<=2048:=HK.out.few;generalize hL:items.length=L at *;have HL:Hid (items.length=L):=hL;clear hL
  go_wp2_with fail
  generalize (w2.setCell ⟨w.heap.size,1,none⟩ (.map (some w2.heap.size))).alloc (.map #[] 0)=w3 at *;have jl:=qaL HG0.out.t;rw[HL.out]at jl;refine jl.mono ?_
  rintro e w4 ⟨rfl,hw4⟩
  obtain rfl:=hw4.symm
  clear jl d1 z1;go_wp2
  go_loopw [24] (fun i wr=>∃k:Nat,k<=L/\i=.int .i64 (k:Int)/\Hid (PtG w wr w.heap.size t F2 items k)) (fun i _=>L - (intOf i).toNat)
  case atStart=>exact⟨0,Nat.zero_le _,rfl,HG0⟩
  case round =>
   clear HG0;obtain⟨k,hk,rfl,HG⟩:=hrel;by_cases hlt:k<L
   ·have hki:k<items.length:=by have:=HL.out;omega
    have ji:=q97 HG.out.t k items[k] (lge hki)
    have HKN:Hid (∀w',Below wr.heap.size wr w'->Calls Tryz.prog 75 #[.pointer (some ⟨w.heap.size,0,none⟩),itV items[k]] (w'.alloc (itO items[k])) fun e w''=>(∃j,e=.returned (.int .i64 j))/\PtG w w'' w.heap.size t F2 items (k+1)):=fun w' hb=>q7R ((HG.out.up hb).up (qc w' _)) hki
    obtain⟨x,hx⟩:∃x,x=items[k]:=⟨_,rfl⟩
    rw[<- hx]at ji HKN;clear hx HG;obtain⟨op,p,xa,xb⟩:=x;unfold itV at *;unfold itO at *;dsimp only at *
    go_wp2_with fail
    refine ji.mono ?_
    rintro e w5 ⟨rfl,hb5⟩
    have jk:=HKN.out w5 hb5;clear ji hb5
    go_wp2_with fail
    refine jk.mono ?_
    rintro e w6 ⟨⟨j,rfl⟩,hG6⟩
    have HG6:Hid _:=hG6;clear jk hG6;go_wp2
    go_roundw
    case rel=>exact⟨k+1,by omega,by go_num,HG6⟩
    case measure=>simp[intOf] <;> omega
   ·obtain rfl:k=L:=by omega
    have hg:=HG.out;rw[<- HL.out]at hg;obtain⟨vi,mp,vt,hr,hge⟩:=hg.fin;have h3:=hr.again;obtain⟨ai,ci,rfl⟩:=qE hr.ri;obtain⟨at',ct,rfl⟩:=qE hr.rt;have f0:=hr.c0;have f1:=hr.c1;have f2:=hr.c2;have z0:wr.frozen? ⟨w.heap.size,0,none⟩=false:=frozen_of_row _ _ 0 _ _ hr.blk;have z1:wr.frozen? ⟨w.heap.size,1,none⟩=false:=frozen_of_row _ _ 1 _ _ hr.blk;have z2:wr.frozen? ⟨w.heap.size,2,none⟩=false:=frozen_of_row _ _ 2 _ _ hr.blk;have HQ:Hid _:=HFIN.out _ _ _ _ ⟨HK.out,HG.out.t.ok,h3.1,hge⟩;have HBW:Hid _:=q2Z (q2Z (q2Z HG.out.b ⟨w.heap.size,0,none⟩ (.slice ai items.length ci) (Nat.le_refl _)) ⟨w.heap.size,1,none⟩ (.map (some mp)) (Nat.le_refl _)) ⟨w.heap.size,2,none⟩ (.slice at' (noTx items.length).length ct) (Nat.le_refl _);have g0:=h3.1.c0;have g1:=h3.1.c1;have g2:=h3.1.c2;clear hr hg h3 hge HG;go_wp2;generalize (((wr.setCell ⟨w.heap.size,0,none⟩ (.slice ai items.length ci)).setCell ⟨w.heap.size,1,none⟩ (.map (some mp))).setCell ⟨w.heap.size,2,none⟩ (.slice at' (noTx items.length).length ct))=W at *;refine bodyPost_ret (v:=.tuple #[.agg #[.slice ai items.length ci,.map (some mp),.slice at' (noTx items.length).length ct],.int .i64 (n:Int),.int .i64 0]) (by simp[results,Tryz.results45,go_sem,g0,g1,g2]) rfl ⟨HBW.out,Or.inr ⟨HC.out,HQ.out⟩⟩
 ·obtain⟨h1,h2,h3⟩:=qbR (items:=[]) hc
  have hne:(((chkE ts:Nat):Int) != 0)=true:=by simp;omega
  have HC:Hid _:=hc;have H1:Hid _:=h1;have H3:Hid _:=h3;clear hc h1 h2 h3;obtain⟨E,hE⟩:∃E,E=chkE ts:=⟨_,rfl⟩
  have HE:Hid _:=hE;rw[<- hE]at hne;rw[<- hE];clear hE;go_enter Tryz.func45,Tryz.ntmps45
  go_wp2_with fail
  rw[<- HW0.out];refine jn.mono ?_
  rintro e w1 ⟨t,F,rfl,hTab,hge,hb1⟩
  have jk:=q4u a len cap ts ⟨hTab,qa1⟩ (HT.out.up hb1) (fun hl x hx e=>by have:=HTS.out x hx hl;have:=hge _ e;omega)
  rw[H1.out,H3.out,<- HE.out]at jk;have HGE:Hid (∀k,F k->w0.heap.size<=k):=hge;have HB1:Hid _:=hb1;clear jn hTab hge hb1 hmm;unfold tbV
  go_wp2_with fail
  refine jk.mono ?_
  rintro e w2 ⟨rfl,F2,hTab2,fr2⟩
  have hb2:Below w0.heap.size w1 w2:=fr2.below HGE.out HB1.out.size;have hbb:Below w0.heap.size w0 w2:=HB1.out.trans hb2;have hv2:w2.heap[w.heap.size]? = some (.cells #[.slice none 0 0,.map none,.slice none 0 0] 103 (0,0)):=(hbb.block _ (by have:=HZ0.out;omega)).trans HV0.out
  have HB2:Hid (Below w.heap.size w w2):=HB0.out.trans (hbb.mono (by have:=HZ0.out;omega))
  have f0:w2.cell? ⟨w.heap.size,0,none⟩=some (.slice none 0 0):=qb hv2 0;have f1:w2.cell? ⟨w.heap.size,1,none⟩=some (.map none):=qb hv2 1;have f2:w2.cell? ⟨w.heap.size,2,none⟩=some (.slice none 0 0):=qb hv2 2;have z0:w2.frozen? ⟨w.heap.size,0,none⟩=false:=frozen_of_row _ _ 0 _ _ hv2;have z1:w2.frozen? ⟨w.heap.size,1,none⟩=false:=frozen_of_row _ _ 1 _ _ hv2;have z2:w2.frozen? ⟨w.heap.size,2,none⟩=false:=frozen_of_row _ _ 2 _ _ hv2;have HBW:Hid _:=q2Z (q2Z (q2Z HB2.out ⟨w.heap.size,0,none⟩ (.slice none 0 0) (Nat.le_refl _)) ⟨w.heap.size,1,none⟩ (.map none) (Nat.le_refl _)) ⟨w.heap.size,2,none⟩ (.slice none 0 0) (Nat.le_refl _);have k1:=heap_setCell_same w2 _ 0 _ _ (.slice none 0 0) hv2;have k2:=heap_setCell_same _ _ 1 _ _ (.map none) k1;have k3:=heap_setCell_same _ _ 2 _ _ (.slice none 0 0) k2;have g0:(((w2.setCell ⟨w.heap.size,0,none⟩ (.slice none 0 0)).setCell ⟨w.heap.size,1,none⟩ (.map none)).setCell ⟨w.heap.size,2,none⟩ (.slice none 0 0)).cell? ⟨w.heap.size,0,none⟩=some (.slice none 0 0):=qb k3 0;have g1:(((w2.setCell ⟨w.heap.size,0,none⟩ (.slice none 0 0)).setCell ⟨w.heap.size,1,none⟩ (.map none)).setCell ⟨w.heap.size,2,none⟩ (.slice none 0 0)).cell? ⟨w.heap.size,1,none⟩=some (.map none):=qb k3 1;have g2:(((w2.setCell ⟨w.heap.size,0,none⟩ (.slice none 0 0)).setCell ⟨w.heap.size,1,none⟩ (.map none)).setCell ⟨w.heap.size,2,none⟩ (.slice none 0 0)).cell? ⟨w.heap.size,2,none⟩=some (.slice none 0 0):=qb k3 2;clear jk hTab2 fr2 hb2 hbb hv2 k1 k2 k3;go_wp2;generalize (((w2.setCell ⟨w.heap.size,0,none⟩ (.slice none 0 0)).setCell ⟨w.heap.size,1,none⟩ (.map none)).setCell ⟨w.heap.size,2,none⟩ (.slice none 0 0))=W at *;have HCE:Hid (E≠0):=by have:=HC.out;rw[<- HE.out]at this;exact this
  refine bodyPost_ret (v:=.tuple #[.agg #[.slice none 0 0,.map none,.slice none 0 0],.int .i64 0,.int .i64 (E:Int)]) (by simp[results,Tryz.results45,go_sem,g0,g1,g2]) rfl ⟨HBW.out,Or.inl ⟨HCE.out,rfl⟩⟩
theorem PgO.start{T0:Tr}{w:World}{F:Nat->Prop}{p:Nat}{vs:Value}{items:List It}{M:Mt}(h:PgO T0 w F p vs items M)(v:Value):PgO T0 (w.setCell ⟨p,6,none⟩ v) F p v items M/\F p/\w.cell? ⟨p,6,none⟩=some vs/\w.frozen? ⟨p,6,none⟩=false:=by
 obtain⟨G,mn,vm,met,hr,hF⟩:=h.ex;have st:∀k,k≠p->(w.setCell ⟨p,6,none⟩ v).heap[k]? = w.heap[k]? := fun k hk=>Below.heap_setCell _ _ _ _ hk
 refine⟨⟨h.few,h.nd,h.of,G,mn,vm,met,⟨hr.po.setRest (j:=3) v,qn hr.row fun k hk=>st k fun e=>hr.nv k hk (e ▸ hr.gp),hr.num.far (st mn fun e=>hr.ng (e ▸ hr.gp)),hr.met,hr.ng,hr.nv⟩,hF⟩,(hF p).2 (Or.inl hr.gp),hr.c6,hr.fz 6⟩
theorem qhC{w1 W:World}{B b:Nat}{vi:Value}{mp:Nat}{vt:Value}{T:Tr}{items:List It}{n p mn:Nat}(kT:KT T)(hsz:T.size<=2048)(h:PtN w1 B b vi mp vt T items n)(hb:Below w1.heap.size w1 W)(hp:w1.heap.size<=p)(hm:w1.heap.size<=mn)(hB:B<=w1.heap.size)
  (hP:W.heap[p]? = some (.cells (ptA vi mp vt (pgRest p mn (.slice none 0 0) (.slice none 0 0))) 109 (0,0))) (hN:NumS W mn 0 (fun _=>none)):
  ∃F,PgO T W F p (.slice none 0 0) items []/\∀k,F k->B<=k/\(k<w1.heap.size\/k=p\/k=mn):=by
 obtain⟨es,c,hmap⟩:=hN.isMap;have hpm:p≠mn:=fun e=>by rw[e,hmap]at hP;cases hP
 have hlt:=h.r.lt
 have hR:PtR W p 109 (pgRest p mn (.slice none 0 0) (.slice none 0 0)) vi mp vt items (noTx items.length) items.length (posI items) :=
  ⟨Or.inr rfl,hP,q1a h.r.ri hb,q1a h.r.rt hb,h.r.num.far (hb.block mp h.r.num.lt)⟩
 have hG:∀k,FP p mp vi vt k->k=p\/FP b mp vi vt k:=fun k hk=>by
  rcases hk with e|e
  ·exact Or.inl e
  ·exact Or.inr (Or.inr e)
 have hpo:PtO T W (FP p mp vi vt) p 109 (pgRest p mn (.slice none 0 0) (.slice none 0 0)) items:=by
  refine⟨⟨kT,hsz⟩,h.k.low,h.k.cov,noTx items.length,⟨h.k.nd,by simp[noTx],by have:=h.k.few;omega,h.ok,fun s hs=>?_,vi,mp,vt,hR,fun k=>Iff.rfl⟩,fun j S hr=>Or.inl ?_⟩
  ·have:=List.eq_of_mem_replicate hs
   subst this;unfold SOk
   decide
  ·unfold noTx
   rw[List.getElem?_replicate,if_pos hr.lt]
 refine⟨FQ (FP p mp vi vt) mn (.slice none 0 0),⟨by simp,by simp,fun f hf=>(by cases hf),FP p mp vi vt,mn,.slice none 0 0,[],⟨hpo,⟨rfl,Or.inl ⟨rfl,rfl⟩⟩,hN.alike fun x _=>rfl,⟨rfl,fun n i hi=>(by simp at hi)⟩,fun e=>?_,fun k hk=>(by cases hk)⟩,fun k=>Iff.rfl⟩,fun k hk=>?_⟩
 ·rcases hG _ e with e|e
  ·exact hpm e.symm
  ·have:=hlt _ e;omega
 ·rcases hk with e|e|e
  ·rcases hG _ e with e|e
   ·exact⟨by omega,Or.inr (Or.inl e)⟩
   ·exact⟨h.ge k e,Or.inl (hlt _ e)⟩
  ·exact⟨by omega,Or.inr (Or.inr e)⟩
  ·cases e
structure NwV (w:World) (F:Nat->Prop) (p n bp bw:Nat):Prop where
 h0:w.heap[bp]? = some (.cells #[.pointer (some ⟨p,0,none⟩)] 55 (0,0))
 h1:w.heap[bw]? = some (.cells #[.int .i64 (n:Int)] 3 (0,0))
 n0:¬ F bp
 n1:¬ F bw
theorem NwV.fr{w w':World}{F F':Nat->Prop}{p n bp bw:Nat}(h:NwV w F p n bp bw)(fr:Fr w w' F F'):NwV w' F' p n bp bw :=
 ⟨(qi h.h0 h.n0 fr).1,(qi h.h1 h.n1 fr).1,(qi h.h0 h.n0 fr).2,(qi h.h1 h.n1 fr).2⟩
theorem NwV.cells{w:World}{F:Nat->Prop}{p n bp bw:Nat}(h:NwV w F p n bp bw):w.cell? ⟨bp,0,none⟩=some (.pointer (some ⟨p,0,none⟩))/\w.cell? ⟨bw,0,none⟩=some (.int .i64 (n:Int)):=⟨qb h.h0 0,qb h.h1 0⟩
theorem NwV.set{w:World}{F:Nat->Prop}{p n bp bw:Nat}(h:NwV w F p n bp bw)(hp:F p)(j:Nat)(v:Value):(w.setCell ⟨p,j,none⟩ v).cell? ⟨bp,0,none⟩=some (.pointer (some ⟨p,0,none⟩))/\(w.setCell ⟨p,j,none⟩ v).cell? ⟨bw,0,none⟩=some (.int .i64 (n:Int)) :=
 ⟨qb ((Below.heap_setCell _ _ _ _ (fun e=>h.n0 (by have e':bp=p:=e;rw[e'];exact hp))).trans h.h0) 0,qb ((Below.heap_setCell _ _ _ _ (fun e=>h.n1 (by have e':bw=p:=e;rw[e'];exact hp))).trans h.h1) 0⟩
theorem qhK{w:World}{F:Nat->Prop}{a:Option Addr}{n c:Nat}{l:List Nat}(h:US w F a n c l){p:Nat}(hp:F p)(j:Nat)(v:Value):US (w.setCell ⟨p,j,none⟩ v) F a n c l:=by
 have hs:=h.sl;refine⟨⟨hs.hlen,hs.hcap,hs.bd,hs.idx,fun k hk=>?_,fun k hk=>by simp;exact hs.blk k hk,hs.nn⟩,h.nf⟩
 have:=hs.cell k hk
 unfold World.cell? at this ⊢;rw[Below.heap_setCell _ _ _ _ (fun e=>h.nf k hk (by rw[e];exact hp))]
 exact this
theorem qhi{w w1:World}{F F1:Nat->Prop}(fr:Fr w w1 F F1){p:Nat}(hp:F1 p)(j:Nat)(v:Value):Fr w (w1.setCell ⟨p,j,none⟩ v) F F1:=by
 refine fr.trans ⟨rfl,rfl,rfl,by simp,fun k hk hF=>Below.heap_setCell _ _ _ _ (fun e=>hF (e ▸ hp)),fun k hk=>Or.inl hk⟩
def NewQ (T0:Tr) (p:Nat) (w:World) (F:Nat->Prop) (R:Rt) (e:Ending) (w':World):Prop :=
 (e=.returned (.tuple #[])/\∃(L:List Nat) (M':Mt) (q:Option Addr) (d:Nat) (F':Nat->Prop) (items':List It),R=some (L,M')/\PgO T0 w' F' p (.slice q L.length d) items' M'/\US w' F' q L.length d L/\Fr w w' F F') \/
 (e=.panicked thrownP/\R=none/\∃(F':Nat->Prop),Fr w w' F F')
theorem qgP{T0:Tr}{p:Nat}{w w1:World}{F F1:Nat->Prop}{items:List It}{M:Mt}{R:Rt}{L:List Nat}{q:Option Addr}{d:Nat}{vs:Value}(hR:R=some (L,M))(fr:Fr w w1 F F1)(hU:US w1 F1 q L.length d L)(hO:PgO T0 w1 F1 p vs items M):NewQ T0 p w F R (.returned (.tuple #[])) (w1.setCell ⟨p,6,none⟩ (.slice q L.length d)):=by
 obtain⟨h1,h2,_,_⟩:=hO.start (.slice q L.length d);exact Or.inl ⟨rfl,L,M,q,d,F1,items,hR,h1,qhK hU h2 _ _,qhi fr h2 _ _⟩
theorem q8X{T0:Tr}(kT:KT T0){p n:Nat}{w:World}{F:Nat->Prop}{items:List It}(h:PgO T0 w F p (.slice none 0 0) items [])(hn:Rep items n T0)(bp bw:Nat)(hV:NwV w F p n bp bw):
  Calls Tryz.prog 48 #[.pointer (some ⟨bp,0,none⟩),.pointer (some ⟨bw,0,none⟩)] w (NewQ T0 p w F (needM T0 [])):=by
 have hVd:=hV.fr (Fr.ofBelow (F:=F) (Below.refl w.heap.size w).drew);have hk0:=hVd.cells;have hk00:=hV.cells;have jn:=q2j (T0:=T0) (p:=p) (vs:=.slice none 0 0) T0 kT (qfh T0) w.drew F items [] n (h.up (Below.refl w.heap.size w).drew) hn;have HV:Hid _:=hVd;obtain⟨R,hR⟩:∃R,R=needM T0 []:=⟨_,rfl⟩
 rw[<- hR]at jn ⊢;obtain⟨Q,hQ⟩:∃Q:Ending->World->Prop,Q=NewQ T0 p w F R:=⟨_,rfl⟩
 have HQ:Hid (∀e w',NewQ T0 p w F R e w'->Q e w'):=fun e w' h=>by rw[hQ];exact h
 rw[<- hQ];clear h hn hV hVd hR hQ;go_enter Tryz.func48,Tryz.ntmps48
 go_wp2_with fail
 go_region_held2 (fun w'=>w'.cell? ⟨bp,0,none⟩=some (.pointer (some ⟨p,0,none⟩))/\w'.cell? ⟨bw,0,none⟩=some (.int .i64 (n:Int))) (first|exact hk0|exact hk00|assumption|fail) (first
   | (revert jn;intro jn;go_at_call 49;(with_reducible refine jn.mono ?_);rintro e w1 ⟨F1,i1,fr1,hp1,⟨L1,M1,q1,d1,hs1,rfl,hU1,hO1⟩|⟨hs1,rfl,M1,hpm1,hO1⟩⟩;(case inr=>exact⟨rfl,HQ.out _ _ (Or.inr ⟨rfl,hs1,F1,(Fr.ofBelow (Below.refl _ _).drew).trans fr1⟩)⟩);have hV1:=HV.out.fr fr1;have hk1:=hV1.cells;have hst:=hO1.start (.slice q1 L1.length d1);have hk2:=hV1.set hst.2.1 6 (.slice q1 L1.length d1);have z2:=hst.2.2.1;have zf:=hst.2.2.2;have HE:Hid (Q (.returned (.tuple #[])) (w1.setCell ⟨p,6,none⟩ (.slice q1 L1.length d1))):=HQ.out _ _ (qgP hs1 ((Fr.ofBelow (Below.refl _ _).drew).trans fr1) hU1 hO1))
   | fail)
 all_goals
  clear jn;go_wp2
  go_end0
  exact HE.out
def NwP (T0:Tr) (p:Nat) (w:World) (F:Nat->Prop) (E:Nat) (R:Rt) (w':World):Prop :=
 ∃(L:List Nat) (M':Mt) (q:Option Addr) (d:Nat) (F':Nat->Prop) (items':List It),R=some (L,M')/\PgO T0 w' F' p (.slice q L.length d) items' M'/\US w' F' q L.length d L/\¬ F' E/\(∀k,k<L.length->(adOf q k).block≠E)/\Fr w w' (fun k=>F k\/k=E) F'
def NwN (w:World) (F:Nat->Prop) (E:Nat) (R:Rt) (w':World):Prop:=R=none/\∃F':Nat->Prop,Fr w w' (fun k=>F k\/k=E) F'
theorem qbJ{w w1 w2:World}{F F':Nat->Prop}{E:Nat}(h7:Fr w w1 (fun k=>F k\/k=E) F')(hg:w1.grownBy w2 (some E)):Fr w w2 (fun k=>F k\/k=E) F' :=
 ⟨hg.os.trans h7.os,hg.tape.trans h7.tape,hg.output.trans h7.output,Nat.le_trans h7.size hg.size,fun k hk hF=>(hg.block k (Nat.lt_of_lt_of_le hk h7.size) (fun e=>hF (Or.inr (by injection e)))).trans (h7.keep k hk hF),h7.foot⟩
theorem NwP.grown{T0:Tr}{p:Nat}{w w1 w2:World}{F:Nat->Prop}{E:Nat}{R:Rt}(h:NwP T0 p w F E R w1)(hg:w1.grownBy w2 (some E)):NwP T0 p w F E R w2:=by
 obtain⟨L,M',q,d,F',i',h1,h3,h4,h5,h6,h7⟩:=h;exact⟨L,M',q,d,F',i',h1,h3.far fun k hk=>hg.block k (h3.lt k hk) (fun e=>h5 (by injection e with e;exact e ▸ hk)),h4.grown hg h6,h5,h6,qbJ h7 hg⟩
theorem qac:EntersF 48:=fun _ _=>rfl
theorem q6M{T0:Tr}(kT:KT T0){p n:Nat}{w:World}{F:Nat->Prop}{items:List It}(h:PgO T0 w F p (.slice none 0 0) items [])(hn:Rep items n T0)(bp bw:Nat)(hV:NwV w F p n bp bw):
  Calls Tryz.prog 47 #[.func (.func 48) #[] #[.pointer (some ⟨bp,0,none⟩),.pointer (some ⟨bw,0,none⟩)]] w fun e w' =>
   (e=.returned (.int .i64 0)/\NwP T0 p w F w.heap.size (needM T0 []) w')\/(e=.returned (.int .i64 9)/\NwN w F w.heap.size (needM T0 []) w'):=by
 refine (q3G 48 _ w qac (fun w'=>NwP T0 p w F w.heap.size (needM T0 []) w') (fun w'=>NwN w F w.heap.size (needM T0 []) w') ?_ ?_ ?_).mono ?_
 ·rintro w1 w2 b hp hg rfl
  exact hp.grown hg
 ·rintro w1 w2 b ⟨h1,F',h7⟩ hg rfl
  exact⟨h1,F',qbJ h7 hg⟩
 ·intro w0 hw0
  have hb:Below w.heap.size w w0:=by rw[hw0];exact qc _ _
  have hE:Erc w0 w.heap.size 0:=by rw[hw0];exact(MapKept.heap_alloc w _).1
  have hz:w0.heap.size=w.heap.size+1:=by rw[hw0];simp
  have hnE:¬ F w.heap.size:=fun e=>Nat.lt_irrefl _ (h.lt _ e)
  refine (q8X kT (h.up hb) hn bp bw (hV.fr (Fr.ofBelow hb))).mono ?_
  rintro e w' (⟨rfl,L,M',q,d,F',i',hs,hO,hU,fr⟩|⟨rfl,hs,F',fr⟩)
  ·have hE':Erc w' w.heap.size 0:=(fr.keep _ (by omega) hnE).trans hE
   exact Or.inl ⟨rfl,⟨L,M',q,d,F',i',hs,hO,hU,fr.out hnE (by omega),qdm hU hE',((Fr.ofBelow hb).trans fr).alike (fun k hk=>Or.inl hk) (fun k hk=>hk)⟩,hE'⟩
  ·have hE':Erc w' w.heap.size 0:=(fr.keep _ (by omega) hnE).trans hE
   exact Or.inr ⟨rfl,⟨hs,F',((Fr.ofBelow hb).trans fr).alike (fun k hk=>Or.inl hk) (fun k hk=>hk)⟩,hE'⟩
 ·rintro e w' (⟨h1,h2⟩|⟨h1,h2⟩)
  ·exact Or.inl ⟨h1,h2⟩
  ·exact Or.inr ⟨h1,h2⟩
theorem qfv{w w1:World}{b:Nat}{vi:Value}{mp:Nat}{vt:Value}{T:Tr}{items:List It}{n:Nat}(kT:KT T)(hsz:T.size<=2048)(hb1:Below w.heap.size w w1)(hN:PtN w1 w.heap.size b vi mp vt T items n)(o:Obj):
  ∃W,W=((((w1.alloc o).alloc (.cells #[.int .i64 (n:Int)] 3)).alloc (.map #[] 0)).alloc (.cells #[vi,.map (some mp),vt,.pointer (some ⟨w1.heap.size+1+1+1,0,none⟩),.map (some (w1.heap.size+1+1)),.slice none 0 0,.slice none 0 0] 109)).alloc (.cells #[.pointer (some ⟨w1.heap.size+1+1+1,0,none⟩)] 55) /\
   Below w.heap.size w W/\∃F,PgO T W F (w1.heap.size+1+1+1) (.slice none 0 0) items []/\(∀k,F k->w.heap.size<=k)/\NwV W F (w1.heap.size+1+1+1) n (w1.heap.size+1+1+1+1) (w1.heap.size+1):=by
 obtain⟨u1,hu1⟩:∃u,u=w1.alloc o:=⟨_,rfl⟩
 obtain⟨u2,hu2⟩:∃u,u=u1.alloc (.cells #[.int .i64 (n:Int)] 3):=⟨_,rfl⟩
 obtain⟨u3,hu3⟩:∃u,u=u2.alloc (.map #[] 0):=⟨_,rfl⟩
 obtain⟨u4,hu4⟩:∃u,u=u3.alloc (.cells #[vi,.map (some mp),vt,.pointer (some ⟨w1.heap.size+1+1+1,0,none⟩),.map (some (w1.heap.size+1+1)),.slice none 0 0,.slice none 0 0] 109):=⟨_,rfl⟩
 obtain⟨u5,hu5⟩:∃u,u=u4.alloc (.cells #[.pointer (some ⟨w1.heap.size+1+1+1,0,none⟩)] 55):=⟨_,rfl⟩
 refine⟨u5,by rw[hu5,hu4,hu3,hu2,hu1],?_⟩
 have z1:u1.heap.size=w1.heap.size+1:=by rw[hu1];simp
 have z2:u2.heap.size=w1.heap.size+1+1:=by rw[hu2];simp[z1]
 have z3:u3.heap.size=w1.heap.size+1+1+1:=by rw[hu3];simp[z2]
 have z4:u4.heap.size=w1.heap.size+1+1+1+1:=by rw[hu4];simp[z3]
 have b1:Below w1.heap.size w1 u1:=by rw[hu1];exact qc _ _
 have b2:Below u1.heap.size u1 u2:=by rw[hu2];exact qc _ _
 have b3:Below u2.heap.size u2 u3:=by rw[hu3];exact qc _ _
 have b4:Below u3.heap.size u3 u4:=by rw[hu4];exact qc _ _
 have b5:Below u4.heap.size u4 u5:=by rw[hu5];exact qc _ _
 have hB:Below w1.heap.size w1 u5:=qd (qd (qd (qd b1 b2) b3) b4) b5;have v2:u2.heap[w1.heap.size+1]? = some (.cells #[.int .i64 (n:Int)] 3 (0,0)):=by rw[<- z1,hu2];exact(MapKept.heap_alloc u1 _).1
 have hnum:NumS u3 (w1.heap.size+1+1) 0 (fun _=>none):=by rw[<- z2,hu3];exact qex u2
 have v4:u4.heap[w1.heap.size+1+1+1]? = some (.cells #[vi,.map (some mp),vt,.pointer (some ⟨w1.heap.size+1+1+1,0,none⟩),.map (some (w1.heap.size+1+1)),.slice none 0 0,.slice none 0 0] 109 (0,0)):=by
  have:=(MapKept.heap_alloc u3 (.cells #[vi,.map (some mp),vt,.pointer (some ⟨w1.heap.size+1+1+1,0,none⟩),.map (some (w1.heap.size+1+1)),.slice none 0 0,.slice none 0 0] 109)).1
  rw[<- hu4,z3]at this;exact this
 have v5:u5.heap[w1.heap.size+1+1+1+1]? = some (.cells #[.pointer (some ⟨w1.heap.size+1+1+1,0,none⟩)] 55 (0,0)):=by
  have:=(MapKept.heap_alloc u4 (.cells #[.pointer (some ⟨w1.heap.size+1+1+1,0,none⟩)] 55)).1
  rw[<- hu5,z4]at this;exact this
 obtain⟨F,hO,hF⟩:=qhC (W:=u5) (p:=w1.heap.size+1+1+1) (mn:=w1.heap.size+1+1) kT hsz hN hB (by omega) (by omega) hb1.size ((b5.block _ (by omega)).trans v4) (hnum.far ((b5.block _ (by omega)).trans (b4.block _ (by omega))))
 refine⟨qd hb1 hB,F,hO,fun k hk=>(hF k hk).1,v5,?_,fun e=>?_,fun e=>?_⟩
 ·exact(b5.block _ (by omega)).trans ((b4.block _ (by omega)).trans ((b3.block _ (by omega)).trans v2))
 ·have:=(hF _ e).2;omega
 ·have:=(hF _ e).2;omega
def NewR (w:World) (ts:List Tk) (e:Ending) (w':World):Prop:=Below w.heap.size w w'/\((chkE ts≠0/\e=.returned (.tuple #[.pointer none,.int .i64 (chkE ts:Int)])) \/
 ∃T,KT T/\ts=T.flat/\chkE ts=0/\((needM T []=none/\e=.returned (.tuple #[.pointer none,.int .i64 9])) \/
  ∃(l0:List Nat) (M:Mt) (p:Nat) (F:Nat->Prop) (q:Option Addr) (d:Nat) (items:List It),needM T []=some (l0,M)/\e=.returned (.tuple #[pgV p,.int .i64 0])/\PgO T w' F p (.slice q l0.length d) items M/\US w' F q l0.length d l0/\(∀k,F k->w.heap.size<=k)))
theorem qav(a:Option Addr)(len cap:Nat)(ts:List Tk)(w:World)(hT:TkSl w a len cap ts):Calls Tryz.prog 32 #[.slice a len cap] w (NewR w ts):=by
 have jp:=q3q a len cap ts w hT;have hmm:=@run_makeMap Tryz.prog;obtain⟨Q,hQ⟩:∃Q:Ending->World->Prop,Q=NewR w ts:=⟨_,rfl⟩
 have HQ:Hid (∀e w',NewR w ts e w'->Q e w'):=fun e w' h=>by rw[hQ];exact h
 rw[<- hQ];clear hT hQ;go_enter Tryz.func32,Tryz.ntmps32
 go_wp2_with fail
 refine jp.mono ?_
 rintro e w1 ⟨hb1,⟨hc,rfl⟩|⟨hc,T,items,n,b,vi,mp,vt,kT,hsz,hts,hN,rfl⟩⟩
 ·have hne:(((chkE ts:Nat):Int) != 0)=true:=by simp;omega
  have HC:Hid _:=hc;have HB1:Hid _:=hb1;clear jp hc hb1 hmm;generalize hE:chkE ts=E at *;have HE:Hid _:=hE;clear hE;go_wp2;exact HQ.out _ _ ⟨qd HB1.out (qd (qc _ _) (qc _ _)),Or.inl ⟨by rw[HE.out];exact HC.out,by rw[HE.out];rfl⟩⟩
 ·obtain⟨ai,ci,rfl⟩:=qE hN.r.ri
  obtain⟨at',ct,rfl⟩:=qE hN.r.rt;obtain⟨W,hW,hbW,F,hO,hF,hV⟩:=qfv kT hsz hb1 hN (.cells #[.slice ai items.length ci,.map (some mp),.slice at' (noTx items.length).length ct] 103);have jc:=q6M kT hO hN.k.rep _ _ hV;have HW:Hid _:=hW;have HBW:Hid _:=hbW;have HF:Hid _:=hF;have HV:Hid _:=hV;have HC:Hid _:=hc;have HTS:Hid _:=hts;have HKT:Hid _:=kT;clear jp hc hb1 hN hts hW hbW hF hV hO kT hsz
  go_wp2_with fail
  rw[<- HW.out];refine jc.mono ?_
  rintro e w6 (⟨rfl,L,M',q,d,F',i',hs,hO,hU,hnE,_,fr⟩|⟨rfl,hs,F',fr⟩)
  ·have hge:∀k,F k\/k=W.heap.size->w.heap.size<=k:=fun k hk=>by
    rcases hk with hk|hk
    ·exact HF.out k hk
    ·have:=HBW.out.size;omega
   have hb6:Below w.heap.size w w6:=HBW.out.trans (fr.below hge HBW.out.size);have hl0:=(aes HV.out.h0).1
   have hc0:w6.cell? ⟨w1.heap.size+1+1+1+1,0,none⟩=some (.pointer (some ⟨w1.heap.size+1+1+1,0,none⟩)):=qb ((fr.keep _ hl0 (fun e=>by rcases e with e|e;exact HV.out.n0 e;omega)).trans HV.out.h0) 0
   have HE:Hid (Q (.returned (.tuple #[pgV (w1.heap.size+1+1+1),.int .i64 0])) w6):=HQ.out _ _ ⟨hb6,Or.inr ⟨T,HKT.out,HTS.out,HC.out,Or.inr ⟨L,M',_,F',q,d,i',hs,rfl,hO,hU,fr.ge hge HBW.out.size⟩⟩⟩;clear jc hs hO hU hnE fr hge hb6 hl0;unfold pgV at HE;go_wp2;exact HE.out
  ·have hge:∀k,F k\/k=W.heap.size->w.heap.size<=k:=fun k hk=>by
    rcases hk with hk|hk
    ·exact HF.out k hk
    ·have:=HBW.out.size;omega
   have hb6:Below w.heap.size w w6:=HBW.out.trans (fr.below hge HBW.out.size);have HE:Hid (Q (.returned (.tuple #[.pointer none,.int .i64 9])) w6):=HQ.out _ _ ⟨hb6,Or.inr ⟨T,HKT.out,HTS.out,HC.out,Or.inl ⟨hs,rfl⟩⟩⟩;clear jc hs fr hge hb6;go_wp2;exact HE.out
def HeldN (M:Mt) (k h:Nat):Prop:=h<2 ^ k/\∀j,h.testBit j=true↔j<k/\SatM [] M 0 j
theorem qek(M:Mt):HeldN M 0 0:=⟨by decide,fun j=>by simp⟩
theorem qfg{M:Mt}{k h:Nat}(hh:HeldN M k h)(hs:SatM [] M 0 k):HeldN M (k+1) (h ||| 2 ^ k):=by
 refine⟨Nat.or_lt_two_pow (Nat.lt_of_lt_of_le hh.1 (Nat.pow_le_pow_right (by decide) (by omega))) (Nat.pow_lt_pow_right (by decide) (by omega)),fun j=>?_⟩
 rw[Nat.testBit_or,Bool.or_eq_true,hh.2 j,Nat.testBit_two_pow]
 constructor
 ·rintro (⟨h1,h2⟩|h1)
  ·exact⟨by omega,h2⟩
  ·have:k=j:=by simpa using h1
   subst this;exact⟨by omega,hs⟩
 ·rintro⟨h1,h2⟩
  by_cases e:j<k
  ·exact Or.inl ⟨e,h2⟩
  ·have:k=j:=by omega
   exact Or.inr (by simpa using this)
theorem qgl{M:Mt}{k h:Nat}(hh:HeldN M k h)(hs:¬ SatM [] M 0 k):HeldN M (k+1) h:=by
 refine⟨Nat.lt_of_lt_of_le hh.1 (Nat.pow_le_pow_right (by decide) (by omega)),fun j=>?_⟩
 rw[hh.2 j]
 constructor
 ·rintro⟨h1,h2⟩
  exact⟨by omega,h2⟩
 ·rintro⟨h1,h2⟩
  by_cases e:j<k
  ·exact⟨e,h2⟩
  ·have:j=k:=by omega
   subst this;exact absurd h2 hs
theorem qff{M:Mt}{h:Nat}{l:List Nat}(hh:HeldN M M.length h):hoB l h=true↔FinP M l:=by
 show decide (HoP l h)=true↔_
 rw[decide_eq_true_iff];unfold FinP LsP HoP
 constructor
 ·rintro⟨s,hs,hw⟩
  exact⟨s,hs,fun k hk=>((hh.2 k).1 (q2s.1 hw k hk)).2⟩
 ·rintro⟨s,hs,hw⟩
  refine⟨s,hs,q2s.2 fun k hk=>(hh.2 k).2 ⟨?_,hw k hk⟩⟩
  obtain⟨T,_,h2,_⟩:=hw k hk;exact(List.getElem?_eq_some_iff.1 h2).1
theorem PgR.metAt{T0:Tr}{w w2:World}{G:Nat->Prop}{p mn:Nat}{va:Option Addr}{m vc:Nat}{vs:Value}{items:List It}{met:List Nat}{M:Mt}(h:PgR T0 w G p mn (.slice va m vc) vs items met M)(hof:∀f∈M,∃S,KT S/\InC T0 S/\f=S.flat)(hb:Below w.heap.size w w2)(k:Nat)(hk:k<m)(hm:met.length=m):∃g o j S,(∀w',(Instr.indexAt 27 (.slice va m vc) (.int .i64 (k:Int))).run Tryz.prog w'=.ok (.pointer (some ⟨g,o,none⟩)) w')/\w2.cell? ⟨g,o,none⟩=some (.int .i64 ((j:Nat):Int))/\Rep items j S/\KT S/\M[k]? = some S.flat:=by
 have hkm:k<met.length:=by omega
 obtain⟨S,hrep,hMk⟩:=h.met.2 k met[k] (lge hkm);obtain⟨S2,k2,i2,e2⟩:=hof S.flat (List.mem_of_getElem? hMk)
 have hw:S.WF:=by
  obtain⟨S3,h3,h4⟩:=h.po.cov _ hrep.lt;have:=Rep.tree hrep h3
  subst this;rcases q36 h.po.t0.kt h4 with q|q <;> exact q.wf
 have e:=q6Y hw k2.wf e2;subst e;rcases (q1a h.row hb).2 with⟨e,e0⟩|⟨g,cap,cur,e,_,hcell,hnc,hcm,hsz,htk⟩
 ·omega
 ·injection e with e1 e2 e3
  subst e1 e3;refine⟨g,k,met[k],S,fun w'=>?_,?_,hrep,k2,hMk⟩
  ·simp[Instr.indexAt,run_underlying Tryz.underlying27,asIntOf,q1D (show (Tryz.prog.info? 3).map (·.size)=some 1 by kernel_rfl),hk,Result.andThen,go_sem,qg]
  ·rw[qb hcell k]
   have:cur.toList[k]? = (encM met)[k]? := by rw[<- htk,List.getElem?_take,if_pos (by omega)]
   rw[<- Array.getElem?_toList,this];simp[encM,hkm]
theorem q7N{T0:Tr}{p:Nat}{vs:Value}{w:World}{F:Nat->Prop}{items:List It}{M:Mt}(h:PgO T0 w F p vs items M)(a:Option Addr)(c:Nat)(l:List Nat)(hU:USl w a l.length c l)(sm:Sm l):
  Calls Tryz.prog 82 #[.pointer (some ⟨p,0,none⟩),.slice a l.length c] w fun e w'=>(∃b,e=.returned (.bool b)/\(b=true↔FinP M l))/\Below w.heap.size w w':=by
 have jm:=q2W h;obtain⟨G,mn,vm,met,hr,hF⟩:=h.ex;have je:=q4n hr.po;have c5:=hr.c5;obtain⟨ma,mc,rfl⟩:=qE hr.row;have hml:met.length=M.length:=hr.met.1;have hfew:M.length<=64:=h.few;have hm64:met.length<=64:=by omega
 have HH:Hid _:=h;have HR:Hid _:=hr;have HU:Hid _:=hU;have HSM:Hid (Sm l):=sm;have HML:Hid (met.length=M.length):=hml;have HC5:Hid _:=c5;clear h hr hF hU sm hml c5;generalize hmm:met.length=m at *;have HM:Hid (met.length=m):=hmm;clear hmm;generalize hil0:items.length=il at *;have HIL:Hid (items.length=il):=hil0;clear hil0;generalize hn0:l.length=n at *;have HNN:Hid (l.length=n):=hn0;clear hn0;go_enter Tryz.func82,Tryz.ntmps82
 go_wp2_with fail
 refine jm.mono ?_
 rintro e w1 ⟨rfl,hw1⟩
 obtain rfl:=hw1.symm
 clear jm
 go_wp2_with fail
 refine je.mono ?_
 rintro e w2 ⟨rfl,⟨bs,hEL,hEb⟩,hb2⟩
 have c5:w2.cell? ⟨p,5,none⟩=some (.slice ma m mc):=qp HC5.out hb2;have HEL:Hid (EndL items bs):=hEL;have HEB:Hid (EbAt w2 w.heap.size bs):=hEb;have HB2:Hid (Below w.heap.size w w2):=hb2;clear je hEL hEb hb2;go_wp2
 go_loopw [6,21] (fun v i wr=>∃(k hd:Nat),k<=m/\i=.int .i64 (k:Int)/\v=.int .u64 (hd:Int)/\wr=w2/\Hid (HeldN M k hd)) (fun _ i _=>m - (intOf i).toNat)
 case atStart=>exact⟨0,0,Nat.zero_le _,rfl,rfl,rfl,qek M⟩
 case round =>
  clear c5;obtain⟨k,hd,hk,rfl,rfl,rfl,HHD⟩:=hrel;by_cases hlt:k<m
  ·obtain⟨g,o,j,S,hidx,hcj,hrep,kS,hMk⟩:=HR.out.metAt HH.out.of HB2.out k hlt HM.out
   have hbj:=HEL.out.all j S hrep;have hjl:j<bs.length:=(List.getElem?_eq_some_iff.1 hbj).1
   have hil:bs.length=items.length:=HEL.out.len;have hcb:=HEB.out.cell hbj;have hsat:SatM [] M 0 k↔endB S=true:=(q5N kS hMk).trans ((q1g S).1 kS).symm;have hix:=fun w'=>q3r w.heap.size il j (by have:=HIL.out;omega) w'
   have HE:Hid (bits BinOp.or IntKind.u64 (hd:Int) (IntKind.u64.wrap (2 ^ k))=((hd ||| 2 ^ k:Nat):Int)):=by
    have h1:(2:Nat) ^ k<2 ^ 64:=Nat.pow_lt_pow_right (by decide) (by omega)
    have h2:hd<2 ^ 64:=Nat.lt_of_lt_of_le HHD.out.1 (Nat.pow_le_pow_right (by decide) (by omega))
    have e3:IntKind.u64.wrap (2 ^ k)=((2 ^ k:Nat):Int):=by
     rw[IntKind.wrap_u64,show ((2:Int) ^ k)=((2 ^ k:Nat):Int) by simp]
     generalize 2 ^ k=y at h1 ⊢
     omega
    show _=_
    rw[e3];exact u64_or_nat _ _ h2 h1
   cases hv:endB S with
   | true =>
    rw[hv]at hcb hsat;have HN:Hid (HeldN M (k+1) (hd ||| 2 ^ k)):=qfg HHD.out (hsat.2 rfl);clear hsat HHD hrep kS hMk hbj hjl hil hv;have hmin:min k 64=k:=by omega
    go_wp2
    go_roundw
    case rel=>exact⟨k+1,hd ||| 2 ^ k,by omega,by go_num,congrArg (Value.int .u64) HE.out,by first|trivial|rfl,HN⟩
    case measure=>simp[intOf] <;> omega
   | false =>
    rw[hv]at hcb hsat;have HN:Hid (HeldN M (k+1) hd):=qgl HHD.out (fun e=>by have:=hsat.1 e;cases this)
    clear hsat HHD hrep kS hMk hbj hjl hil hv HE;go_wp2
    go_roundw
    case rel=>exact⟨k+1,hd,by omega,by go_num,rfl,by first|trivial|rfl,HN⟩
    case measure=>simp[intOf] <;> omega
  ·obtain rfl:k=m:=by omega
   have hdm:HeldN M M.length hd:=by have:=HHD.out;rw[show k=M.length by have:=HML.out;omega]at this;exact this
   have h2:hd<2 ^ 64:=Nat.lt_of_lt_of_le hdm.1 (Nat.pow_le_pow_right (by decide) (by omega))
   have jh:=q2T a l.length c l hd wr ((show USl w a l.length c l by rw[HNN.out];exact HU.out).up HB2.out) HSM.out h2
   rw[HNN.out]at jh;have HFI:Hid (hoB l hd=true↔FinP M l):=qff hdm;clear HHD hdm h2
   go_wp2_with fail
   refine jh.mono ?_
   rintro e w4 ⟨rfl,hb4⟩
   have HB4:Hid (Below w.heap.size w w4):=qd HB2.out hb4;clear jh hb4;generalize hoB l hd=bb at *;go_wp2;go_ret
   exact⟨⟨bb,rfl,HFI.out⟩,HB4.out⟩
theorem PtN.at{w1 W:World}{B b:Nat}{vi:Value}{mp:Nat}{vt:Value}{T:Tr}{items:List It}{n g:Nat}(kT:KT T)(hsz:T.size<=2048)(h:PtN w1 B b vi mp vt T items n)(hb:Below w1.heap.size w1 W)(hg:W.heap[g]? = some (.cells #[vi,.map (some mp),vt] 103 (0,0))):
  PtO T W (FP g mp vi vt) g 103 [] items:=by
 have hR:PtR W g 103 [] vi mp vt items (noTx items.length) items.length (posI items) :=
  ⟨Or.inl rfl,hg,q1a h.r.ri hb,q1a h.r.rt hb,h.r.num.far (hb.block mp h.r.num.lt)⟩
 refine⟨⟨kT,hsz⟩,h.k.low,h.k.cov,noTx items.length,⟨h.k.nd,by simp[noTx],by have:=h.k.few;omega,h.ok,fun s hs=>?_,vi,mp,vt,hR,fun k=>Iff.rfl⟩,fun j S hr=>Or.inl ?_⟩
 ·have:=List.eq_of_mem_replicate hs
  subst this;unfold SOk
  decide
 ·unfold noTx
  rw[List.getElem?_replicate,if_pos hr.lt]
theorem q8O(a:Option Addr)(len cap:Nat)(ts:List Tk)(w:World)(hT:TkSl w a len cap ts):
  Calls Tryz.prog 30 #[.slice a len cap] w fun e w'=>Below w.heap.size w w' /\
   ((chkE ts≠0/\e=.returned (.tuple #[.bool false,.int .i64 (chkE ts:Int)]))\/∃T b,KT T/\ts=T.flat/\chkE ts=0/\e=.returned (.tuple #[.bool b,.int .i64 0])/\(b=true↔(semTr [] T).1 0)):=by
 have jp:=q3q a len cap ts w hT;obtain⟨Q,hQ⟩:∃Q:Ending->World->Prop,Q=fun e w'=>Below w.heap.size w w'/\((chkE ts≠0/\e=.returned (.tuple #[.bool false,.int .i64 (chkE ts:Int)]))\/∃T b,KT T/\ts=T.flat/\chkE ts=0/\e=.returned (.tuple #[.bool b,.int .i64 0])/\(b=true↔(semTr [] T).1 0)):=⟨_,rfl⟩
 have HQ:Hid (∀e w',Below w.heap.size w w'->((chkE ts≠0/\e=.returned (.tuple #[.bool false,.int .i64 (chkE ts:Int)]))\/∃T b,KT T/\ts=T.flat/\chkE ts=0/\e=.returned (.tuple #[.bool b,.int .i64 0])/\(b=true↔(semTr [] T).1 0))->Q e w'):=fun e w' h1 h2=>by rw[hQ];exact⟨h1,h2⟩
 rw[<- hQ];clear hT hQ;go_enter Tryz.func30,Tryz.ntmps30
 go_wp2_with fail
 refine jp.mono ?_
 rintro e w1 ⟨hb1,⟨hc,rfl⟩|⟨hc,T,items,n,b,vi,mp,vt,kT,hsz,hts,hN,rfl⟩⟩
 ·have hne:(((chkE ts:Nat):Int) != 0)=true:=by simp;omega
  have HC:Hid _:=hc;have HB1:Hid _:=hb1;clear jp hc hb1;generalize hE:chkE ts=E at *;have HE:Hid _:=hE;clear hE;go_wp2;exact HQ.out _ _ (qd HB1.out (qc _ _)) (Or.inl ⟨HC.out,rfl⟩)
 ·obtain⟨ai,ci,rfl⟩:=qE hN.r.ri
  obtain⟨at',ct,rfl⟩:=qE hN.r.rt;have hbn:=qc w1 (.cells #[.slice ai items.length ci,.map (some mp),.slice at' (noTx items.length).length ct] 103);have hO:=hN.at kT hsz hbn (MapKept.heap_alloc w1 _).1;have je:=q4n hO;have hfew:items.length<=2048:=hN.k.few;have hlt:=hN.k.rep.lt;have HREP:Hid _:=hN.k.rep;have HEB:Hid (endB T=true↔(semTr [] T).1 0):=(q1g T).1 kT;have HB1:Hid _:=qd hb1 hbn;have HC:Hid _:=hc;have HTS:Hid _:=hts;have HKT:Hid _:=kT;have hz:(w1.alloc (.cells #[.slice ai items.length ci,.map (some mp),.slice at' (noTx items.length).length ct] 103)).heap.size=w1.heap.size+1:=by simp
  rw[hz]at je;clear jp hc hb1 hN hts hbn hO kT hsz hz;generalize hil:items.length=il at *;have HIL:Hid _:=hil;clear hil
  go_wp2_with fail
  refine je.mono ?_
  rintro e w2 ⟨rfl,⟨bs,hEL,hEb⟩,hb2⟩
  have hbn:=hEL.all n T HREP.out;have hcb:=hEb.cell hbn;have hix:=fun w'=>q3r (w1.heap.size+1) il n hlt w'
  have HB2:Hid (Below w.heap.size w w2):=HB1.out.trans (hb2.mono (by have:=HB1.out.size;simp at this;omega))
  clear je hEL hEb hb2 hbn;generalize endB T=v at *;go_wp2;exact HQ.out _ _ HB2.out (Or.inr ⟨T,v,HKT.out,HTS.out,HC.out,rfl,HEB.out⟩)
structure PrgAt (w:World) (F:Nat->Prop) (p:Nat) (l0:List Nat) (M:Mt) (T0:Tr) (q:Option Addr) (d:Nat) (items:List It):Prop where
 o:PgO T0 w F p (.slice q l0.length d) items M
 u:US w F q l0.length d l0
 l:LstH l0
 g:¬ F tabG
theorem qhg{w w':World}{F:Nat->Prop}{l:List Nat}{e:Ending}(hF:∀k,F k->k<w.heap.size)(h:CloU l w e w'):Below w.heap.size w w'/\∃a c,e=.returned (.slice a l.length c)/\US w' F a l.length c l:=by
 refine⟨h.1,?_⟩
 rcases h.2 with⟨rfl,p,rfl⟩|⟨G,t,_,rfl,hS,h1,h2⟩
 ·exact⟨p,0,rfl,⟨⟨rfl,Nat.le_refl _,Nat.zero_le _,fun m k w hk hm=>absurd hk (by simp at hm;omega),fun k hk=>absurd hk (by simp),fun k hk=>absurd hk (by simp),fun _=>rfl⟩,fun k hk=>absurd hk (by simp)⟩⟩
 ·refine⟨_,G,rfl,hS.usl rfl rfl h1 h2,fun k hk e=>?_⟩
  have:=hF _ e
  simp[adOf,qg]at this
  omega
def mkA (p n:Nat) (vS vT vF vN:Value) (mp ak:Nat):Array Value:=#[.pointer (some ⟨p,0,none⟩),.int .i64 (n:Int),vS,vT,vF,vN,.map (some mp),.int .i64 (ak:Int)]
def OwB (b mp:Nat) (vS vF vN:Value) (k:Nat):Prop:=k=b\/k=mp\/vS.ownBlock=some k\/vF.ownBlock=some k\/vN.ownBlock=some k
def FM (F:Nat->Prop) (b mp:Nat) (vS vF vN:Value) (k:Nat):Prop:=F k\/OwB b mp vS vF vN k
theorem PrgAt.far{w w':World}{F:Nat->Prop}{p:Nat}{l0:List Nat}{M:Mt}{T0:Tr}{q:Option Addr}{d:Nat}{items:List It}(h:PrgAt w F p l0 M T0 q d items)(hs:w.heap.size<=w'.heap.size)(hF:∀k,F k->w'.heap[k]? = w.heap[k]?)(hS:∀k,k<l0.length->w'.heap[(adOf q k).block]? = w.heap[(adOf q k).block]?):PrgAt w' F p l0 M T0 q d items:=by
 refine⟨h.o.far hF,⟨⟨h.u.sl.hlen,h.u.sl.hcap,h.u.sl.bd,h.u.sl.idx,fun k hk=>?_,fun k hk=>Nat.lt_of_lt_of_le (h.u.sl.blk k hk) hs,h.u.sl.nn⟩,h.u.nf⟩,h.l,h.g⟩
 have:=h.u.sl.cell k hk
 unfold World.cell? at this ⊢;rw[hS k hk];exact this
structure MkR (T0:Tr) (q:Option Addr) (d B:Nat) (w:World) (F:Nat->Prop) (b p n ak mp:Nat) (l0:List Nat) (M:Mt) (vS vT vF vN:Value) (S:List Nat) (fs:List Bool) (rv:List Value) (nm:Nat) (f:Nat->Option Nat):Prop where
 prg:∃items,PrgAt w F p l0 M T0 q d items
 blk:w.heap[b]? = some (.cells (mkA p n vS vT vF vN mp ak) 58 (0,0))
 rs:w.ownsRow B 46 1 vS S.length ((iU S).map (Value.int .u64))
 rf:w.ownsRow B 4 1 vF fs.length (fs.map Value.bool)
 rn:w.ownsRow B 47 1 vN rv.length rv
 num:NumU w mp nm f
 sb:∀k,k<l0.length->(adOf q k).block<B
 bB:B<=b
 mB:B<=mp
 nF:∀k,OwB b mp vS vF vN k->¬ F k
section
variable {T0:Tr} {q:Option Addr} {d B:Nat} {w w':World} {F F':Nat->Prop} {b p n ak mp nm:Nat} {l0:List Nat} {M M':Mt} {vS vT vF vN:Value} {S:List Nat} {fs:List Bool} {rv:List Value} {f:Nat->Option Nat}
theorem MkR.lt(h:MkR T0 q d B w F b p n ak mp l0 M vS vT vF vN S fs rv nm f):∀k,FM F b mp vS vF vN k->k<w.heap.size:=fun k hk=>by
 rcases hk with hk|hk|hk|hk|hk|hk
 ·obtain⟨items,hp⟩:=h.prg;exact hp.o.lt k hk
 ·subst hk;exact(aes h.blk).1
 ·subst hk;exact h.num.lt
 ·exact qC h.rs k hk
 ·exact qC h.rf k hk
 ·exact qC h.rn k hk
theorem MkR.ge(h:MkR T0 q d B w F b p n ak mp l0 M vS vT vF vN S fs rv nm f):∀k,OwB b mp vS vF vN k->B<=k:=fun k hk=>by
 rcases hk with hk|hk|hk|hk|hk
 ·subst hk;exact h.bB
 ·subst hk;exact h.mB
 ·exact q1Q h.rs k hk
 ·exact q1Q h.rf k hk
 ·exact q1Q h.rn k hk
theorem MkR.far(h:MkR T0 q d B w F b p n ak mp l0 M vS vT vF vN S fs rv nm f)(hs:w.heap.size<=w'.heap.size)(hb:∀k,FM F b mp vS vF vN k->w'.heap[k]? = w.heap[k]?)(hS:∀k,k<l0.length->w'.heap[(adOf q k).block]? = w.heap[(adOf q k).block]?):MkR T0 q d B w' F b p n ak mp l0 M vS vT vF vN S fs rv nm f:=by
 obtain⟨items,hp⟩:=h.prg;exact⟨⟨items,hp.far hs (fun k hk=>hb k (Or.inl hk)) hS⟩,(hb b (Or.inr (Or.inl rfl))).trans h.blk,qn h.rs fun k hk=>hb k (Or.inr (Or.inr (Or.inr (Or.inl hk)))),qn h.rf fun k hk=>hb k (Or.inr (Or.inr (Or.inr (Or.inr (Or.inl hk))))),qn h.rn fun k hk=>hb k (Or.inr (Or.inr (Or.inr (Or.inr (Or.inr hk))))),h.num.far (hb mp (Or.inr (Or.inr (Or.inl rfl)))),h.sb,h.bB,h.mB,h.nF⟩
theorem MkR.slt(h:MkR T0 q d B w F b p n ak mp l0 M vS vT vF vN S fs rv nm f){k:Nat}(hk:k<l0.length):(adOf q k).block<w.heap.size:=by
 obtain⟨items,hp⟩:=h.prg;exact hp.u.sl.blk k hk
theorem MkR.up(h:MkR T0 q d B w F b p n ak mp l0 M vS vT vF vN S fs rv nm f)(hb:Below w.heap.size w w'):MkR T0 q d B w' F b p n ak mp l0 M vS vT vF vN S fs rv nm f:=h.far hb.size (fun k hk=>hb.block k (h.lt k hk)) (fun _ hk=>hb.block _ (h.slt hk))
theorem MkR.fr(h:MkR T0 q d B w F b p n ak mp l0 M vS vT vF vN S fs rv nm f)(hP:∃items,PrgAt w' F' p l0 M' T0 q d items)(fr:Fr w w' F F'):MkR T0 q d B w' F' b p n ak mp l0 M' vS vT vF vN S fs rv nm f/\Fr w w' (FM F b mp vS vF vN) (FM F' b mp vS vF vN):=by
 have st:∀k,OwB b mp vS vF vN k->w'.heap[k]? = w.heap[k]? := fun k hk=>fr.keep k (h.lt k (Or.inr hk)) (h.nF k hk)
 refine⟨⟨hP,(st b (Or.inl rfl)).trans h.blk,qn h.rs fun k hk=>st k (Or.inr (Or.inr (Or.inl hk))),qn h.rf fun k hk=>st k (Or.inr (Or.inr (Or.inr (Or.inl hk)))),qn h.rn fun k hk=>st k (Or.inr (Or.inr (Or.inr (Or.inr hk)))),h.num.far (st mp (Or.inr (Or.inl rfl))),h.sb,h.bB,h.mB,fun k hk=>fr.out (h.nF k hk) (h.lt k (Or.inr hk))⟩,fr.os,fr.tape,fr.output,fr.size,fun k hk hF=>fr.keep k hk fun e=>hF (Or.inl e),fun k hk=>?_⟩
 rcases hk with hk|hk
 ·exact(fr.foot k hk).imp Or.inl id
 ·exact Or.inl (Or.inr hk)
theorem MkR.cp(h:MkR T0 q d B w F b p n ak mp l0 M vS vT vF vN S fs rv nm f):w.cell? ⟨b,0,none⟩=some (.pointer (some ⟨p,0,none⟩)):=qb h.blk 0
theorem MkR.cn(h:MkR T0 q d B w F b p n ak mp l0 M vS vT vF vN S fs rv nm f):w.cell? ⟨b,1,none⟩=some (.int .i64 (n:Int)):=qb h.blk 1
theorem MkR.cS(h:MkR T0 q d B w F b p n ak mp l0 M vS vT vF vN S fs rv nm f):w.cell? ⟨b,2,none⟩=some vS:=qb h.blk 2
theorem MkR.cT(h:MkR T0 q d B w F b p n ak mp l0 M vS vT vF vN S fs rv nm f):w.cell? ⟨b,3,none⟩=some vT:=qb h.blk 3
theorem MkR.cF(h:MkR T0 q d B w F b p n ak mp l0 M vS vT vF vN S fs rv nm f):w.cell? ⟨b,4,none⟩=some vF:=qb h.blk 4
theorem MkR.cN(h:MkR T0 q d B w F b p n ak mp l0 M vS vT vF vN S fs rv nm f):w.cell? ⟨b,5,none⟩=some vN:=qb h.blk 5
theorem MkR.cm(h:MkR T0 q d B w F b p n ak mp l0 M vS vT vF vN S fs rv nm f):w.cell? ⟨b,6,none⟩=some (.map (some mp)):=qb h.blk 6
theorem MkR.ca(h:MkR T0 q d B w F b p n ak mp l0 M vS vT vF vN S fs rv nm f):w.cell? ⟨b,7,none⟩=some (.int .i64 (ak:Int)):=qb h.blk 7
theorem MkR.fz(h:MkR T0 q d B w F b p n ak mp l0 M vS vT vF vN S fs rv nm f)(j:Nat):w.frozen? ⟨b,j,none⟩=false:=frozen_of_row w b j _ _ h.blk
theorem MkR.bm(h:MkR T0 q d B w F b p n ak mp l0 M vS vT vF vN S fs rv nm f):b≠mp:=fun e=>by
 obtain⟨es,c,hm⟩:=h.num.isMap;rw[<- e,h.blk]at hm
 cases hm
theorem MkR.bl(h:MkR T0 q d B w F b p n ak mp l0 M vS vT vF vN S fs rv nm f):b<w.heap.size:=h.lt b (Or.inr (Or.inl rfl))
theorem MkR.Sb(h:MkR T0 q d B w F b p n ak mp l0 M vS vT vF vN S fs rv nm f):vS.ownBlock≠some b:=q1p h.rs h.blk fun cs e=>by injection e with _ e _;exact absurd e (by decide)
theorem MkR.Fb(h:MkR T0 q d B w F b p n ak mp l0 M vS vT vF vN S fs rv nm f):vF.ownBlock≠some b:=q1p h.rf h.blk fun cs e=>by injection e with _ e _;exact absurd e (by decide)
theorem MkR.Nb(h:MkR T0 q d B w F b p n ak mp l0 M vS vT vF vN S fs rv nm f):vN.ownBlock≠some b:=q1p h.rn h.blk fun cs e=>by injection e with _ e _;exact absurd e (by decide)
theorem MkR.Sm(h:MkR T0 q d B w F b p n ak mp l0 M vS vT vF vN S fs rv nm f):vS.ownBlock≠some mp:=by
 obtain⟨es,c,hm⟩:=h.num.isMap;exact q1p h.rs hm fun cs e=>by cases e
theorem MkR.Fm(h:MkR T0 q d B w F b p n ak mp l0 M vS vT vF vN S fs rv nm f):vF.ownBlock≠some mp:=by
 obtain⟨es,c,hm⟩:=h.num.isMap;exact q1p h.rf hm fun cs e=>by cases e
theorem MkR.Nm(h:MkR T0 q d B w F b p n ak mp l0 M vS vT vF vN S fs rv nm f):vN.ownBlock≠some mp:=by
 obtain⟨es,c,hm⟩:=h.num.isMap;exact q1p h.rn hm fun cs e=>by cases e
theorem q7d{w:World}{B1 B2 e1 e2 n1 n2:Nat}{v1 v2:Value}{x1 x2:List Value}(h1:w.ownsRow B1 e1 1 v1 n1 x1)(h2:w.ownsRow B2 e2 1 v2 n2 x2)(hne:e1≠e2):∀k,v1.ownBlock=some k->v2.ownBlock≠some k:=fun k hk=>by
 rcases h1.2 with⟨rfl,_⟩|⟨g,cap,cur,rfl,_,hc,_⟩
 ·cases hk
 ·have e:g=k:=by injection hk
  subst e;exact q1p h2 hc fun cs e=>by injection e with _ e _;exact hne e
theorem MkR.SF(h:MkR T0 q d B w F b p n ak mp l0 M vS vT vF vN S fs rv nm f):∀k,vS.ownBlock=some k->vF.ownBlock≠some k:=q7d h.rs h.rf (by decide)
theorem MkR.SN(h:MkR T0 q d B w F b p n ak mp l0 M vS vT vF vN S fs rv nm f):∀k,vS.ownBlock=some k->vN.ownBlock≠some k:=q7d h.rs h.rn (by decide)
theorem MkR.FN(h:MkR T0 q d B w F b p n ak mp l0 M vS vT vF vN S fs rv nm f):∀k,vF.ownBlock=some k->vN.ownBlock≠some k:=q7d h.rf h.rn (by decide)
theorem MkR.put{nm':Nat}{f':Nat->Option Nat}(h:MkR T0 q d B w F b p n ak mp l0 M vS vT vF vN S fs rv nm f)(hg:w.grownBy w' (some mp))(hn:NumU w' mp nm' f'):MkR T0 q d B w' F b p n ak mp l0 M vS vT vF vN S fs rv nm' f'/\Fr w w' (FM F b mp vS vF vN) (FM F b mp vS vF vN):=by
 have st:∀k,k<w.heap.size->k≠mp->w'.heap[k]? = w.heap[k]? := fun k hk hne=>hg.block k hk (fun e=>hne (by injection e))
 obtain⟨items,hp⟩:=h.prg;refine⟨⟨⟨items,hp.far hg.size (fun k hk=>st k (hp.o.lt k hk) fun e=>h.nF mp (Or.inr (Or.inl rfl)) (e ▸ hk)) fun k hk=>st _ (h.slt hk) fun e=>by have:=h.sb k hk;have:=h.mB;omega⟩,(st b h.bl h.bm).trans h.blk,qn h.rs fun k hk=>st k (qC h.rs k hk) (fun e=>h.Sm (e ▸ hk)),qn h.rf fun k hk=>st k (qC h.rf k hk) (fun e=>h.Fm (e ▸ hk)),qn h.rn fun k hk=>st k (qC h.rn k hk) (fun e=>h.Nm (e ▸ hk)),hn,h.sb,h.bB,h.mB,h.nF⟩,hg.os,hg.tape,hg.output,hg.size,fun k hk hF=>st k hk fun e=>hF (Or.inr (Or.inr (Or.inl e))),fun _ hk=>Or.inl hk⟩
theorem MkR.setT(h:MkR T0 q d B w F b p n ak mp l0 M vS vT vF vN S fs rv nm f)(v:Value):MkR T0 q d B (w.setCell ⟨b,3,none⟩ v) F b p n ak mp l0 M vS v vF vN S fs rv nm f/\Fr w (w.setCell ⟨b,3,none⟩ v) (FM F b mp vS vF vN) (FM F b mp vS vF vN):=by
 have s6:∀k,k≠b->(w.setCell ⟨b,3,none⟩ v).heap[k]? = w.heap[k]? := fun k hk=>Below.heap_setCell _ _ _ _ hk
 obtain⟨items,hp⟩:=h.prg;refine⟨⟨⟨items,hp.far (by simp) (fun k hk=>s6 k fun e=>h.nF b (Or.inl rfl) (e ▸ hk)) fun k hk=>s6 _ fun e=>by have:=h.sb k hk;have:=h.bB;omega⟩,?_,qn h.rs fun k hk=>s6 k (fun e=>h.Sb (e ▸ hk)),qn h.rf fun k hk=>s6 k (fun e=>h.Fb (e ▸ hk)),qn h.rn fun k hk=>s6 k (fun e=>h.Nb (e ▸ hk)),h.num.far (s6 mp h.bm.symm),h.sb,h.bB,h.mB,h.nF⟩,rfl,rfl,rfl,by simp,fun k hk hF=>s6 k fun e=>hF (Or.inr (Or.inl e)),fun _ hk=>Or.inl hk⟩
 rw[heap_setCell_same w b 3 _ _ _ h.blk];rfl
theorem MkR.growS{w1 w5:World}{vS':Value}{S':List Nat}(h:MkR T0 q d B w F b p n ak mp l0 M vS vT vF vN S fs rv nm f)(hb1:Below w.heap.size w w1)(hg:w1.grownBy w5 vS.ownBlock)(ho:w5.ownsRow B 46 1 vS' S'.length ((iU S').map (Value.int .u64)))(hl:vS'.ownBlock=vS.ownBlock\/vS'.ownBlock=some w1.heap.size):
  w5.heap[b]? = some (.cells (mkA p n vS vT vF vN mp ak) 58 (0,0))/\MkR T0 q d B (w5.setCell ⟨b,2,none⟩ vS') F b p n ak mp l0 M vS' vT vF vN S' fs rv nm f/\Fr w (w5.setCell ⟨b,2,none⟩ vS') (FM F b mp vS vF vN) (FM F b mp vS' vF vN):=by
 have hs1:=hb1.size;have hs:=hg.size;have st:∀k,k<w.heap.size->vS.ownBlock≠some k->w5.heap[k]? = w.heap[k]? := fun k hk hne=>(hg.block k (by omega) (fun e=>hne e.symm)).trans (hb1.block k hk)
 have h5:=(st b h.bl h.Sb).trans h.blk
 have hvb:vS'.ownBlock≠some b:=fun e=>by
  rcases hl with e2|e2
  ·rw[e2]at e;exact h.Sb e
  ·rw[e2]at e;injection e with e;have:=h.bl;omega
 have s6:∀k,k≠b->(w5.setCell ⟨b,2,none⟩ vS').heap[k]? = w5.heap[k]? := fun k hk=>Below.heap_setCell _ _ _ _ hk
 have sk:∀k,k<w.heap.size->vS.ownBlock≠some k->k≠b->(w5.setCell ⟨b,2,none⟩ vS').heap[k]? = w.heap[k]? := fun k h1 h2 h3=>(s6 k h3).trans (st k h1 h2)
 obtain⟨items,hp⟩:=h.prg;refine⟨h5,⟨⟨items,hp.far (by simp;omega) (fun k hk=>sk k (hp.o.lt k hk) (fun e=>h.nF k (Or.inr (Or.inr (Or.inl e))) hk) fun e=>h.nF b (Or.inl rfl) (e ▸ hk)) fun k hk=>sk _ (h.slt hk) (fun e=>by have:=h.sb k hk;have:=h.ge _ (Or.inr (Or.inr (Or.inl e)));omega) fun e=>by have:=h.sb k hk;have:=h.bB;omega⟩,?_,qn ho fun k hk=>s6 k (fun e=>hvb (e ▸ hk)),qn h.rf fun k hk=>(s6 k (fun e=>h.Fb (e ▸ hk))).trans (st k (qC h.rf k hk) (fun e=>h.SF k e hk)),qn h.rn fun k hk=>(s6 k (fun e=>h.Nb (e ▸ hk))).trans (st k (qC h.rn k hk) (fun e=>h.SN k e hk)),h.num.far ((s6 mp h.bm.symm).trans (st mp h.num.lt h.Sm)),h.sb,h.bB,h.mB,fun k hk hF=>?_⟩,hg.os.trans hb1.os,hg.tape.trans hb1.tape,hg.output.trans hb1.output,?_,fun k hk hF=>?_,fun k hk=>?_⟩
 ·rw[heap_setCell_same w5 b 2 _ _ _ h5];rfl
 ·have hF2:=hp.o.lt k hF
  rcases hk with hk|hk|hk|hk|hk
  ·exact h.nF k (Or.inl hk) hF
  ·exact h.nF k (Or.inr (Or.inl hk)) hF
  ·rcases hl with e|e
   ·rw[e]at hk;exact h.nF k (Or.inr (Or.inr (Or.inl hk))) hF
   ·rw[e]at hk;injection hk with hk;omega
  ·exact h.nF k (Or.inr (Or.inr (Or.inr (Or.inl hk)))) hF
  ·exact h.nF k (Or.inr (Or.inr (Or.inr (Or.inr hk)))) hF
 ·simp;omega
 ·exact sk k hk (fun e=>hF (Or.inr (Or.inr (Or.inr (Or.inl e))))) fun e=>hF (Or.inr (Or.inl e))
 ·rcases hk with hk|hk|hk|hk|hk|hk
  ·exact Or.inl (Or.inl hk)
  ·exact Or.inl (Or.inr (Or.inl hk))
  ·exact Or.inl (Or.inr (Or.inr (Or.inl hk)))
  ·rcases hl with e|e
   ·rw[e]at hk;exact Or.inl (Or.inr (Or.inr (Or.inr (Or.inl hk))))
   ·rw[e]at hk;injection hk with hk;right;omega
  ·exact Or.inl (Or.inr (Or.inr (Or.inr (Or.inr (Or.inl hk)))))
  ·exact Or.inl (Or.inr (Or.inr (Or.inr (Or.inr (Or.inr hk)))))
theorem MkR.growF{w1 w5:World}{vF':Value}{fs':List Bool}(h:MkR T0 q d B w F b p n ak mp l0 M vS vT vF vN S fs rv nm f)(hb1:Below w.heap.size w w1)(hg:w1.grownBy w5 vF.ownBlock)(ho:w5.ownsRow B 4 1 vF' fs'.length (fs'.map Value.bool))(hl:vF'.ownBlock=vF.ownBlock\/vF'.ownBlock=some w1.heap.size):
  w5.heap[b]? = some (.cells (mkA p n vS vT vF vN mp ak) 58 (0,0))/\MkR T0 q d B (w5.setCell ⟨b,4,none⟩ vF') F b p n ak mp l0 M vS vT vF' vN S fs' rv nm f/\Fr w (w5.setCell ⟨b,4,none⟩ vF') (FM F b mp vS vF vN) (FM F b mp vS vF' vN):=by
 have hs1:=hb1.size;have hs:=hg.size;have st:∀k,k<w.heap.size->vF.ownBlock≠some k->w5.heap[k]? = w.heap[k]? := fun k hk hne=>(hg.block k (by omega) (fun e=>hne e.symm)).trans (hb1.block k hk)
 have h5:=(st b h.bl h.Fb).trans h.blk
 have hvb:vF'.ownBlock≠some b:=fun e=>by
  rcases hl with e2|e2
  ·rw[e2]at e;exact h.Fb e
  ·rw[e2]at e;injection e with e;have:=h.bl;omega
 have s6:∀k,k≠b->(w5.setCell ⟨b,4,none⟩ vF').heap[k]? = w5.heap[k]? := fun k hk=>Below.heap_setCell _ _ _ _ hk
 have sk:∀k,k<w.heap.size->vF.ownBlock≠some k->k≠b->(w5.setCell ⟨b,4,none⟩ vF').heap[k]? = w.heap[k]? := fun k h1 h2 h3=>(s6 k h3).trans (st k h1 h2)
 obtain⟨items,hp⟩:=h.prg;refine⟨h5,⟨⟨items,hp.far (by simp;omega) (fun k hk=>sk k (hp.o.lt k hk) (fun e=>h.nF k (Or.inr (Or.inr (Or.inr (Or.inl e)))) hk) fun e=>h.nF b (Or.inl rfl) (e ▸ hk)) fun k hk=>sk _ (h.slt hk) (fun e=>by have:=h.sb k hk;have:=h.ge _ (Or.inr (Or.inr (Or.inr (Or.inl e))));omega) fun e=>by have:=h.sb k hk;have:=h.bB;omega⟩,?_,qn h.rs fun k hk=>(s6 k (fun e=>h.Sb (e ▸ hk))).trans (st k (qC h.rs k hk) (fun e=>h.SF k hk e)),qn ho fun k hk=>s6 k (fun e=>hvb (e ▸ hk)),qn h.rn fun k hk=>(s6 k (fun e=>h.Nb (e ▸ hk))).trans (st k (qC h.rn k hk) (fun e=>h.FN k e hk)),h.num.far ((s6 mp h.bm.symm).trans (st mp h.num.lt h.Fm)),h.sb,h.bB,h.mB,fun k hk hF=>?_⟩,hg.os.trans hb1.os,hg.tape.trans hb1.tape,hg.output.trans hb1.output,?_,fun k hk hF=>?_,fun k hk=>?_⟩
 ·rw[heap_setCell_same w5 b 4 _ _ _ h5];rfl
 ·have hF2:=hp.o.lt k hF
  rcases hk with hk|hk|hk|hk|hk
  ·exact h.nF k (Or.inl hk) hF
  ·exact h.nF k (Or.inr (Or.inl hk)) hF
  ·exact h.nF k (Or.inr (Or.inr (Or.inl hk))) hF
  ·rcases hl with e|e
   ·rw[e]at hk;exact h.nF k (Or.inr (Or.inr (Or.inr (Or.inl hk)))) hF
   ·rw[e]at hk;injection hk with hk;omega
  ·exact h.nF k (Or.inr (Or.inr (Or.inr (Or.inr hk)))) hF
 ·simp;omega
 ·exact sk k hk (fun e=>hF (Or.inr (Or.inr (Or.inr (Or.inr (Or.inl e)))))) fun e=>hF (Or.inr (Or.inl e))
 ·rcases hk with hk|hk|hk|hk|hk|hk
  ·exact Or.inl (Or.inl hk)
  ·exact Or.inl (Or.inr (Or.inl hk))
  ·exact Or.inl (Or.inr (Or.inr (Or.inl hk)))
  ·exact Or.inl (Or.inr (Or.inr (Or.inr (Or.inl hk))))
  ·rcases hl with e|e
   ·rw[e]at hk;exact Or.inl (Or.inr (Or.inr (Or.inr (Or.inr (Or.inl hk)))))
   ·rw[e]at hk;injection hk with hk;right;omega
  ·exact Or.inl (Or.inr (Or.inr (Or.inr (Or.inr (Or.inr hk)))))
theorem MkR.growN{w1 w5:World}{vN':Value}{rv':List Value}(h:MkR T0 q d B w F b p n ak mp l0 M vS vT vF vN S fs rv nm f)(hb1:Below w.heap.size w w1)(hg:w1.grownBy w5 vN.ownBlock)(ho:w5.ownsRow B 47 1 vN' rv'.length rv')(hl:vN'.ownBlock=vN.ownBlock\/vN'.ownBlock=some w1.heap.size):
  w5.heap[b]? = some (.cells (mkA p n vS vT vF vN mp ak) 58 (0,0))/\MkR T0 q d B (w5.setCell ⟨b,5,none⟩ vN') F b p n ak mp l0 M vS vT vF vN' S fs rv' nm f/\Fr w (w5.setCell ⟨b,5,none⟩ vN') (FM F b mp vS vF vN) (FM F b mp vS vF vN'):=by
 have hs1:=hb1.size;have hs:=hg.size;have st:∀k,k<w.heap.size->vN.ownBlock≠some k->w5.heap[k]? = w.heap[k]? := fun k hk hne=>(hg.block k (by omega) (fun e=>hne e.symm)).trans (hb1.block k hk)
 have h5:=(st b h.bl h.Nb).trans h.blk
 have hvb:vN'.ownBlock≠some b:=fun e=>by
  rcases hl with e2|e2
  ·rw[e2]at e;exact h.Nb e
  ·rw[e2]at e;injection e with e;have:=h.bl;omega
 have s6:∀k,k≠b->(w5.setCell ⟨b,5,none⟩ vN').heap[k]? = w5.heap[k]? := fun k hk=>Below.heap_setCell _ _ _ _ hk
 have sk:∀k,k<w.heap.size->vN.ownBlock≠some k->k≠b->(w5.setCell ⟨b,5,none⟩ vN').heap[k]? = w.heap[k]? := fun k h1 h2 h3=>(s6 k h3).trans (st k h1 h2)
 obtain⟨items,hp⟩:=h.prg;refine⟨h5,⟨⟨items,hp.far (by simp;omega) (fun k hk=>sk k (hp.o.lt k hk) (fun e=>h.nF k (Or.inr (Or.inr (Or.inr (Or.inr e)))) hk) fun e=>h.nF b (Or.inl rfl) (e ▸ hk)) fun k hk=>sk _ (h.slt hk) (fun e=>by have:=h.sb k hk;have:=h.ge _ (Or.inr (Or.inr (Or.inr (Or.inr e))));omega) fun e=>by have:=h.sb k hk;have:=h.bB;omega⟩,?_,qn h.rs fun k hk=>(s6 k (fun e=>h.Sb (e ▸ hk))).trans (st k (qC h.rs k hk) (fun e=>h.SN k hk e)),qn h.rf fun k hk=>(s6 k (fun e=>h.Fb (e ▸ hk))).trans (st k (qC h.rf k hk) (fun e=>h.FN k hk e)),qn ho fun k hk=>s6 k (fun e=>hvb (e ▸ hk)),h.num.far ((s6 mp h.bm.symm).trans (st mp h.num.lt h.Nm)),h.sb,h.bB,h.mB,fun k hk hF=>?_⟩,hg.os.trans hb1.os,hg.tape.trans hb1.tape,hg.output.trans hb1.output,?_,fun k hk hF=>?_,fun k hk=>?_⟩
 ·rw[heap_setCell_same w5 b 5 _ _ _ h5];rfl
 ·have hF2:=hp.o.lt k hF
  rcases hk with hk|hk|hk|hk|hk
  ·exact h.nF k (Or.inl hk) hF
  ·exact h.nF k (Or.inr (Or.inl hk)) hF
  ·exact h.nF k (Or.inr (Or.inr (Or.inl hk))) hF
  ·exact h.nF k (Or.inr (Or.inr (Or.inr (Or.inl hk)))) hF
  ·rcases hl with e|e
   ·rw[e]at hk;exact h.nF k (Or.inr (Or.inr (Or.inr (Or.inr hk)))) hF
   ·rw[e]at hk;injection hk with hk;omega
 ·simp;omega
 ·exact sk k hk (fun e=>hF (Or.inr (Or.inr (Or.inr (Or.inr (Or.inr e)))))) fun e=>hF (Or.inr (Or.inl e))
 ·rcases hk with hk|hk|hk|hk|hk|hk
  ·exact Or.inl (Or.inl hk)
  ·exact Or.inl (Or.inr (Or.inl hk))
  ·exact Or.inl (Or.inr (Or.inr (Or.inl hk)))
  ·exact Or.inl (Or.inr (Or.inr (Or.inr (Or.inl hk))))
  ·exact Or.inl (Or.inr (Or.inr (Or.inr (Or.inr (Or.inl hk)))))
  ·rcases hl with e|e
   ·rw[e]at hk;exact Or.inl (Or.inr (Or.inr (Or.inr (Or.inr (Or.inr hk)))))
   ·rw[e]at hk;injection hk with hk;right;omega
end
def put1 (s:Nat) (S:List Nat):Option (Nat×List Nat):=if s∈S then some (S.idxOf s,S) else if 256<=S.length then none else some (S.length,S++[s])
theorem qeK{s:Nat}{S:List Nat}(h:put1 s S=none)(L:List Nat):putS (s::L) S=none:=by
 unfold put1 at h;unfold putS
 split at h
 ·cases h
 ·rename_i hm
  split at h
  ·rename_i h2
   rw[if_neg hm,if_pos h2]
  ·cases h
theorem qeL{s j:Nat}{S S1:List Nat}(h:put1 s S=some (j,S1))(L:List Nat):putS (s::L) S=(putS L S1).map fun x=>(j::x.1,x.2):=by
 unfold put1 at h
 conv=>lhs;unfold putS
 split at h
 ·rename_i hm
  injection h with h;injection h with h1 h2
  subst h1 h2;rw[if_pos hm]
  cases putS L S <;> rfl
 ·rename_i hm
  split at h
  ·cases h
  ·rename_i h2
   injection h with h;injection h with h1 h3
   subst h1 h3;rw[if_neg hm,if_neg h2]
   cases putS L (S++[s]) <;> rfl
def posN (S:List Nat) (x:Nat):Option Nat:=if x∈S then some (S.idxOf x) else none
theorem qeJ{S:List Nat}{x:Nat}(h:x ∉ S)(y:Nat):(if y=x then some S.length else posN S y)=posN (S++[x]) y:=by
 unfold posN;by_cases e:y=x
 ·subst e
  rw[if_pos rfl,if_pos (by simp),List.idxOf_append,if_neg h]
  simp
 ·rw[if_neg e]
  by_cases hm:y∈S
  ·rw[if_pos hm,if_pos (by simp[hm]),List.idxOf_append,if_pos hm]
  ·rw[if_neg hm,if_neg (by simp[hm,e])]
structure MkP (M:Mt) (S:List Nat) (fs:List Bool):Prop where
 fl:fs.length=S.length
 fi:∀(j:Nat) (c:Bool),fs[j]? = some c->(c=true↔FinP M [atS S j])
 sm:∀s∈S,s<2 ^ 64
 few:S.length<=256
theorem MkP.more{M:Mt}{S:List Nat}{fs:List Bool}(h:MkP M S fs){s:Nat}(hs:s<2 ^ 64)(hl:S.length<256){c:Bool}(hc:c=true↔FinP M [s]):MkP M (S++[s]) (fs++[c]):=by
 refine⟨by simp[h.fl],fun j x hx=>?_,fun z hz=>?_,by simp;omega⟩
 ·rcases q71 hx with hx|⟨rfl,rfl⟩
  ·have hj:j<S.length:=by have:=(List.getElem?_eq_some_iff.1 hx).1;have:=h.fl;omega
   rw[q3x (List.prefix_append S [s]) hj];exact h.fi j x hx
  ·rw[h.fl]
   have:atS (S++[s]) S.length=s:=by
    unfold atS;rw[List.getD_eq_getElem?_getD,List.getElem?_append_right (Nat.le_refl _)];simp
   rw[this];exact hc
 ·rcases List.mem_append.1 hz with hz|hz
  ·exact h.sm z hz
  ·have:z=s:=by simpa using hz
   subst this;exact hs
def MkO (T0:Tr) (q:Option Addr) (d B:Nat) (w:World) (G:Nat->Prop) (b n ak:Nat) (l0:List Nat) (M:Mt) (vT:Value) (S:List Nat) (rv:List Value):Prop :=
 ∃F p mp vS vF vN fs,MkR T0 q d B w F b p n ak mp l0 M vS vT vF vN S fs rv S.length (posN S)/\MkP M S fs/\∀k,G k↔FM F b mp vS vF vN k
def StQ (T0:Tr) (q:Option Addr) (d B:Nat) (w:World) (G:Nat->Prop) (b n ak:Nat) (l0:List Nat) (M:Mt) (vT:Value) (S:List Nat) (rv:List Value) (s:Nat) (e:Ending) (w':World):Prop :=
 ∃G',Fr w w' G G'/\((put1 s S=none/\e=.returned (.tuple #[.int .i64 0,.int .i64 10])/\MkO T0 q d B w' G' b n ak l0 M vT S rv)\/∃j S1,put1 s S=some (j,S1)/\e=.returned (.tuple #[.int .i64 (j:Int),.int .i64 0])/\MkO T0 q d B w' G' b n ak l0 M vT S1 rv)
theorem qaV:(Tryz.prog.info? 4).map (fun i=>(i.zero,i.size,i.bytes))=some (some (.bool false),1,1):=by kernel_rfl
theorem qag:(Tryz.prog.info? 46).map (fun i=>(i.zero,i.size,i.bytes))=some (some (.int .u64 0),1,8):=by kernel_rfl
theorem qcd{w:World}{ops:Array Oper}{o:Oper}{a:Act}{K:Act->World->Prop}{Q:Exit->Act->World->Prop}{X:Prop}{T E:TypeId}{z:Value}{bt:Nat}(hu:Tryz.prog.underlying T=some (.slice E))(hin:(Tryz.prog.info? E).map (fun i=>(i.zero,i.size,i.bytes))=some (some z,1,bt))(hzs:z.cells.size=1)(hbt:bt<=1000)(hw:Region.wanted o (yielded ops a.tmps)=true)(s x:Operand)
  (ho:o.op=.call { callee:=.builtin .append,args:=#[s,x],argTypes:=#[T,T] }) (base:Nat)
  (v:Value) (n:Nat) (xs:List Value) (y:Value) (g:Nat) (hs:a.eval s=v) (hx:a.eval x=.slice (some ⟨g,0,none⟩) 1 1) (hown:w.ownsRow base E 1 v n xs)
  (hB:w.cell? ⟨g,0,none⟩=some y) (h1:y.oneCell'=true) (hn:n<=100000000) (hbase:base<=w.heap.size)
  (h:∀v' w',w'.ownsRow base E 1 v' (n+1) (xs++[y])->w.grownBy w' v.ownBlock->(v'.ownBlock=v.ownBlock\/v'.ownBlock=some w.heap.size)->K (a.put o.dst v') w'):
  if Region.wanted o (yielded ops a.tmps)=true then Oper.wp Tryz.prog o a w K Q else X:=by
 rw[if_pos hw];obtain⟨i,hi,hz0,hz1,hz2⟩:=info_parts hin;have hb:(n+1)*bt<=(100000000+1)*1000:=Nat.mul_le_mul (by omega) hbt
 obtain⟨v',w',hr,h2,h3,_,h5⟩:=run_append_own_at (P:=Tryz.prog) w base T o.type E i _ 1 bt hu hi hz0 hz1 hz2 hzs (by decide) v n _ hown ⟨g,0,none⟩ 1 1 [y] rfl (fun j u hj=>by
  match j with
  | 0=>simp at hj;rw[<- hj,qg];exact hB
  | j+1=>simp at hj) (fun u hu=>by simp at hu;subst hu;exact h1) (by unfold maxLen;omega) (by omega) hbase
 unfold Oper.wp execOp;simp only[ho,resolve,invoke,builtin,Sem.run_bind,Sem.run_pure,Result.andThen_ok,List.map_toArray,List.map_cons,List.map_nil,hs,hx,hr]
 exact h v' w' h2 h3 h5
theorem q95{T0:Tr}{q:Option Addr}{d B:Nat}{w:World}{G:Nat->Prop}{b n ak:Nat}{l0:List Nat}{M:Mt}{vT:Value}{S:List Nat}{rv:List Value}(h:MkO T0 q d B w G b n ak l0 M vT S rv)(s:Nat)(hs:s<2 ^ 64):
  Calls Tryz.prog 50 #[.pointer (some ⟨b,0,none⟩),.int .u64 (s:Int)] w (StQ T0 q d B w G b n ak l0 M vT S rv s):=by
 obtain⟨Q,hQ⟩:∃Q:Ending->World->Prop,Q=StQ T0 q d B w G b n ak l0 M vT S rv s:=⟨_,rfl⟩
 have HQ:Hid (∀e w',StQ T0 q d B w G b n ak l0 M vT S rv s e w'->Q e w'):=fun e w' h=>by rw[hQ];exact h
 rw[<- hQ];have HO:Hid _:=h;obtain⟨F,p,mp,vS,vF,vN,fs,hr,hp,hG⟩:=h;have cm:=hr.cm;have hlook:=hr.num.look hs;by_cases hm:s∈S
 ·have e1:posN S s=some (S.idxOf s):=by unfold posN;rw[if_pos hm]
  rw[e1]at hlook;have HR:Hid (Q (.returned (.tuple #[.int .i64 ((S.idxOf s:Nat):Int),.int .i64 0])) w):=HQ.out _ _ ⟨G,Fr.ofBelow (Below.refl _ _),Or.inr ⟨_,S,by unfold put1;rw[if_pos hm],rfl,HO.out⟩⟩
  dsimp only[Option.getD_some,Option.isSome_some]at hlook
  generalize S.idxOf s=j at *;clear hr hp hG HO hQ;go_enter Tryz.func50,Tryz.ntmps50
  go_wp2;exact HR.out
 ·have e1:posN S s=none:=by unfold posN;rw[if_neg hm]
  rw[e1]at hlook;dsimp only[Option.getD_none,Option.isSome_none]at hlook
  obtain⟨aS,kS,rfl⟩:=q2m hr.rs;have cS:=hr.cS;by_cases hL:S.length=256
  ·have HR:Hid (Q (.returned (.tuple #[.int .i64 0,.int .i64 10])) w):=HQ.out _ _ ⟨G,Fr.ofBelow (Below.refl _ _),Or.inl ⟨by unfold put1;rw[if_neg hm,if_pos (by omega)],rfl,HO.out⟩⟩
   have he:((S.length:Int) == 256)=true:=by rw[hL];rfl
   clear hr hp hG HO hQ HQ hL;generalize S.length=L at *;go_enter Tryz.func50,Tryz.ntmps50
   go_wp2;exact HR.out
  ·have hlt:S.length<256:=by have:=hp.few;omega
   obtain⟨w4,hrun,hn4,hg4⟩:=hr.num.put (by omega) hs e1 S.length (by omega)
   obtain⟨hp4,fr4⟩:=hr.put hg4 (hn4.alike fun y _=>qeJ hm y)
   obtain⟨aF,kF,rfl⟩:=q2m hr.rf;have HP4:Hid _:=hp4;have HF4:Hid _:=fr4;have d2:=hp4.cS;have hc7:(w4.alloc (.cells #[.int .u64 (s:Int)] 46)).cell? ⟨w4.heap.size,0,none⟩=some (.int .u64 (s:Int)):=qb (MapKept.heap_alloc w4 _).1 0;have hO7:=World.ownsRow.alloc hp4.rs (.cells #[.int .u64 (s:Int)] 46);have hBs:B<=w4.heap.size:=Nat.le_trans hp4.bB (Nat.le_of_lt hp4.bl)
   have HPP:Hid (∀w8 w9 c w5 v' vS',MkR T0 q d B w8 F b p n ak mp l0 M vS' vT (.slice aF fs.length kF) vN (S++[s]) fs rv (S.length+1) (posN (S++[s]))->Fr w w8 (FM F b mp (.slice aS S.length kS) (.slice aF fs.length kF) vN) (FM F b mp vS' (.slice aF fs.length kF) vN)->Below w8.heap.size w8 w9->(c=true↔FinP M [s])->(w9.alloc (.cells #[.bool c] 4)).grownBy w5 (Value.slice aF fs.length kF).ownBlock->w5.ownsRow B 4 1 v' (fs.length+1) (fs.map Value.bool++[.bool c])->(v'.ownBlock=(Value.slice aF fs.length kF).ownBlock\/v'.ownBlock=some (w9.heap.size+1)) ->
     w5.cell? ⟨b,4,none⟩=some (.slice aF fs.length kF)/\w5.frozen? ⟨b,4,none⟩=false/\w5.cell? ⟨b,0,none⟩=some (.pointer (some ⟨p,0,none⟩))/\(w5.setCell ⟨b,4,none⟩ v').cell? ⟨b,0,none⟩=some (.pointer (some ⟨p,0,none⟩))/\Q (.returned (.tuple #[.int .i64 (S.length:Int),.int .i64 0])) (w5.setCell ⟨b,4,none⟩ v')):=fun w8 w9 c w5 v' vS' h8 f8 hb9 hc hg ho hl=>by
    have hbn:Below w8.heap.size w8 (w9.alloc (.cells #[.bool c] 4)):=hb9.trans ((qc w9 _).mono hb9.size);obtain⟨m1,m2,m3⟩:=h8.growF (fs':=fs++[c]) hbn hg (by rw[List.length_append,List.map_append];exact ho) (by simpa using hl)
    refine⟨qb m1 4,frozen_of_row w5 b 4 _ _ m1,qb m1 0,m2.cp,HQ.out _ _ ⟨_,(f8.trans m3).alike (fun k hk=>(hG k).2 hk) (fun k hk=>hk),Or.inr ⟨S.length,S++[s],by unfold put1;rw[if_neg hm,if_neg (by omega)],rfl,F,p,mp,_,_,vN,fs++[c],?_,hp.more hs hlt hc,fun k=>Iff.rfl⟩⟩⟩
    rw[List.length_append];exact m2
   have HGS:Hid (∀w5 v',(w4.alloc (.cells #[.int .u64 (s:Int)] 46)).grownBy w5 (Value.slice aS S.length kS).ownBlock->w5.ownsRow B 46 1 v' (S.length+1) ((iU S).map (Value.int .u64)++[.int .u64 (s:Int)])->(v'.ownBlock=(Value.slice aS S.length kS).ownBlock\/v'.ownBlock=some (w4.heap.size+1)) ->
     w5.cell? ⟨b,2,none⟩=some (.slice aS S.length kS)/\w5.frozen? ⟨b,2,none⟩=false/\MkR T0 q d B (w5.setCell ⟨b,2,none⟩ v') F b p n ak mp l0 M v' vT (.slice aF fs.length kF) vN (S++[s]) fs rv (S.length+1) (posN (S++[s]))/\Fr w (w5.setCell ⟨b,2,none⟩ v') (FM F b mp (.slice aS S.length kS) (.slice aF fs.length kF) vN) (FM F b mp v' (.slice aF fs.length kF) vN)):=fun w5 v' hg ho hl=>by
    obtain⟨m1,m2,m3⟩:=HP4.out.growS (S':=S++[s]) (qc w4 _) hg (by rw[List.length_append,q9G,List.map_append];exact ho) (by simpa using hl)
    exact⟨qb m1 2,frozen_of_row w5 b 2 _ _ m1,m2,HF4.out.trans m3⟩
   have HSM:Hid (s<2 ^ 64):=hs;have hlf:fs.length<256:=by have:=hp.fl;omega
   have hne:((S.length:Int) == 256)=false:=by simp;omega
   clear hr hp hG HO hQ hn4 hg4 hp4 fr4 HP4 HF4;generalize hLs:S.length=L at *;generalize hLf:fs.length=Lf at *;have HLF:Hid (fs.length=Lf):=hLf;clear hLs hLf;go_enter Tryz.func50,Tryz.ntmps50
   go_wp2_with (at_builtin;refine q3g Tryz.underlying26 qag rfl (by decide) rfl _ _ rfl B _ L ((iU S).map (Value.int .u64)) (.int .u64 (s:Int)) w4.heap.size rfl rfl hO7 hc7 rfl (by omega) (by simp;omega) ?_)
   intro v7 w7 hown7 hgr7 hloc7;obtain⟨a7,k7,rfl⟩:=qE hown7;obtain⟨c7,z7,m7,f7⟩:=HGS.out w7 _ hgr7 (by simpa [iU] using hown7) (by simpa using hloc7)
   have HM7:Hid _:=m7;have HF7:Hid _:=f7;clear hown7 hgr7 hloc7 m7 f7 HGS hO7 hc7 d2 hrun hlook cm cS;go_wp2;generalize w7.setCell ⟨b,2,none⟩ (.slice a7 (L+1) k7)=w8 at *;have c0:=HM7.out.cp;have c4:=HM7.out.cF;have hb8:Below w8.heap.size w8 ((w8.alloc (.cells #[.int .u64 (s:Int)] 46)).drew):=(Below.refl _ w8).drew.alloc (Nat.le_refl _) _;have c4a:(w8.alloc (.cells #[.int .u64 (s:Int)] 46)).drew.cell? ⟨b,4,none⟩=some (.slice aF Lf kF):=qp c4 hb8;have c0a:(w8.alloc (.cells #[.int .u64 (s:Int)] 46)).drew.cell? ⟨b,0,none⟩=some (.pointer (some ⟨p,0,none⟩)):=qp c0 hb8;have hBw:B<=w8.heap.size:=Nat.le_trans HM7.out.bB (Nat.le_of_lt HM7.out.bl)
   have jf:Calls Tryz.prog 82 #[.pointer (some ⟨p,0,none⟩),.slice (some ⟨w8.heap.size,0,none⟩) 1 1] ((w8.alloc (.cells #[.int .u64 (s:Int)] 46)).drew) fun e w9=>∃c,e=.returned (.bool c)/\Hid (c=true↔FinP M [s])/\Hid (Below w8.heap.size w8 w9)/\w9.cell? ⟨b,0,none⟩=some (.pointer (some ⟨p,0,none⟩))/\(w9.alloc (.cells #[.bool c] 4)).cell? ⟨b,0,none⟩=some (.pointer (some ⟨p,0,none⟩))/\w9.cell? ⟨b,4,none⟩=some (.slice aF Lf kF)/\(w9.alloc (.cells #[.bool c] 4)).cell? ⟨b,4,none⟩=some (.slice aF Lf kF)/\(w9.alloc (.cells #[.bool c] 4)).ownsRow B 4 1 (.slice aF Lf kF) Lf (fs.map Value.bool)/\(w9.alloc (.cells #[.bool c] 4)).cell? ⟨w9.heap.size,0,none⟩=some (.bool c)/\B<=w9.heap.size:=by
    obtain⟨items,hp⟩:=HM7.out.prg;have hrf:=HM7.out.rf;refine (q7N (hp.o.up hb8) (some ⟨w8.heap.size,0,none⟩) 1 [s] (q2P [s] w8.drew (by simp)) (fun x hx=>by have:x=s:=(by simpa using hx);subst this;exact HSM.out)).mono ?_
    rintro e w9 ⟨⟨c,rfl,hc⟩,hb9⟩
    have hbb:=qd hb8 hb9;rw[HLF.out]at hrf;have hr9:w9.ownsRow B 4 1 (.slice aF Lf kF) Lf (fs.map Value.bool):=qn hrf fun k hk=>hbb.block k (qC hrf k hk)
    exact⟨c,rfl,hc,hbb,qp c0 hbb,qp (qp c0 hbb) (qc w9 _),qp c4 hbb,qp (qp c4 hbb) (qc w9 _),World.ownsRow.alloc hr9 _,qb (MapKept.heap_alloc w9 _).1 0,Nat.le_trans hBw hbb.size⟩
   clear hb8;have c0d:w8.drew.cell? ⟨b,0,none⟩=some (.pointer (some ⟨p,0,none⟩)):=c0
   go_region_law (first
    | (revert hO9;intro hO9;refine qcd Tryz.underlying28 qaV rfl (by decide) rfl _ _ rfl B (.slice aF Lf kF) Lf (fs.map Value.bool) (.bool c) w9.heap.size rfl rfl hO9 hc9 rfl (by omega) (by simp;omega) ?_;intro v5 w5 hown5 hgr5 hloc5;obtain⟨a5,k5,rfl⟩:=qE hown5;have m5:=HPP.out w8 w9 c w5 _ _ HM7.out HF7.out HB9.out HC.out hgr5 hown5 (by simpa using hloc5);have c5:=m5.1;have z5:=m5.2.1;have c05:=m5.2.2.1;have c06:=m5.2.2.2.1;have HR5:Hid _:=m5.2.2.2.2;clear m5)
    | (revert jf;intro jf;go_simp;(with_reducible refine jf.mono ?_);rintro e w9 ⟨c,rfl,HC,HB9,c09,c09b,c49,c49b,hO9,hc9,hB9⟩;dsimp only)
    | fail)
   all_goals
    clear jf c0 c4 c0a c4a c0d c09 c09b c49 c49b hO9 hc9 c5 z5 c05 c06 hown5 hgr5 hloc5;go_wp2;exact HR5.out
section
variable {T0:Tr} {q:Option Addr} {d B:Nat} {w w':World} {G G':Nat->Prop} {b n ak:Nat} {l0:List Nat} {M:Mt} {vT:Value} {S:List Nat} {rv:List Value}
theorem MkO.lt(h:MkO T0 q d B w G b n ak l0 M vT S rv):∀k,G k->k<w.heap.size:=fun k hk=>by
 obtain⟨F,p,mp,vS,vF,vN,fs,hr,_,hG⟩:=h;exact hr.lt k ((hG k).1 hk)
theorem MkO.Bs(h:MkO T0 q d B w G b n ak l0 M vT S rv):B<=w.heap.size:=by
 obtain⟨F,p,mp,vS,vF,vN,fs,hr,_,hG⟩:=h;exact Nat.le_trans hr.bB (Nat.le_of_lt hr.bl)
theorem MkO.up(h:MkO T0 q d B w G b n ak l0 M vT S rv)(hb:Below w.heap.size w w'):MkO T0 q d B w' G b n ak l0 M vT S rv:=by
 obtain⟨F,p,mp,vS,vF,vN,fs,hr,hp,hG⟩:=h;exact⟨F,p,mp,vS,vF,vN,fs,hr.up hb,hp,hG⟩
theorem MkO.off(h:MkO T0 q d B w G b n ak l0 M vT S rv){g:Nat}(hg:¬ G g)(hB:B<=g)(i:Nat)(v:Value):MkO T0 q d B (w.setCell ⟨g,i,none⟩ v) G b n ak l0 M vT S rv:=by
 obtain⟨F,p,mp,vS,vF,vN,fs,hr,hp,hG⟩:=h;refine⟨F,p,mp,vS,vF,vN,fs,hr.far (by simp) (fun k hk=>Below.heap_setCell _ _ _ _ fun e=>hg (by have e2:k=g:=e;exact e2 ▸ (hG k).2 hk)) (fun k hk=>Below.heap_setCell _ _ _ _ fun e=>?_),hp,hG⟩
 have:=hr.sb k hk
 have e2:(adOf q k).block=g:=e
 omega
end
def SsQ (T0:Tr) (q:Option Addr) (d B:Nat) (w:World) (G:Nat->Prop) (b n ak:Nat) (l0:List Nat) (M:Mt) (vT:Value) (S:List Nat) (rv:List Value) (l:List Nat) (e:Ending) (w':World):Prop :=
 ∃G',Fr w w' G G'/\((putS l S=none/\e=.returned (.tuple #[.slice none 0 0,.int .i64 10])/\∃S2,MkO T0 q d B w' G' b n ak l0 M vT S2 rv)\/∃r S1,putS l S=some (r,S1)/\r.length=l.length/\e=.returned (.tuple #[.slice (some ⟨w.heap.size,0,none⟩) l.length l.length,.int .i64 0])/\MkO T0 q d B w' G' b n ak l0 M vT S1 rv/\RowI w' 3 w.heap.size (iU r)/\¬ G' w.heap.size)
structure SsI (T0:Tr) (q:Option Addr) (d B:Nat) (w:World) (G:Nat->Prop) (b n ak:Nat) (l0:List Nat) (M:Mt) (vT:Value) (S:List Nat) (rv:List Value) (l:List Nat) (k:Nat) (wr:World) (G':Nat->Prop) (S' acc:List Nat):Prop where
 fr:Fr w wr G G'
 o:MkO T0 q d B wr G' b n ak l0 M vT S' rv
 row:RowI wr 3 w.heap.size (iU (acc++List.replicate (l.length - k) 0))
 ng:¬ G' w.heap.size
 al:acc.length=k
 rr:putS l S=(putS (l.drop k) S').map fun x=>(acc++x.1,x.2)
theorem q3Y{T0:Tr}{q:Option Addr}{d B:Nat}{w:World}{G:Nat->Prop}{b n ak:Nat}{l0:List Nat}{M:Mt}{vT:Value}{S:List Nat}{rv:List Value}(h:MkO T0 q d B w G b n ak l0 M vT S rv)(a:Option Addr)(len cap:Nat)(l:List Nat)(hU:USl w a len cap l)(hnf:∀k,k<len->¬ G (adOf a k).block)(hs:Sm l)(hl:len<=1024):
  Calls Tryz.prog 33 #[.pointer (some ⟨b,0,none⟩),.slice a len cap] w (SsQ T0 q d B w G b n ak l0 M vT S rv l):=by
 obtain⟨Q,hQ⟩:∃Q:Ending->World->Prop,Q=SsQ T0 q d B w G b n ak l0 M vT S rv l:=⟨_,rfl⟩
 have HQ:Hid (∀e w',SsQ T0 q d B w G b n ak l0 M vT S rv l e w'->Q e w'):=fun e w' h=>by rw[hQ];exact h
 rw[<- hQ];have hln:l.length=len:=hU.len.symm;have hmk:=qap len (by omega) w
 rw[madeI]at hmk;obtain⟨Z,hZ⟩:∃Z,Z=((List.replicate len (0:Int)).map (Value.int .i64)).toArray:=⟨_,rfl⟩
 rw[<- hZ]at hmk;have hb1:=qc w (.cells Z 3)
 have HI0:Hid (SsI T0 q d B w G b n ak l0 M vT S rv l 0 (w.alloc (.cells Z 3)) G S []):=⟨Fr.ofBelow hb1,h.up hb1,by
  show _=_
  rw[(MapKept.heap_alloc w _).1,hln,hZ];simp[iU],fun e=>Nat.lt_irrefl _ (h.lt _ e),rfl,by simp⟩
 have HU:Hid _:=hU;have HNF:Hid _:=hnf;have HS:Hid _:=hs;have HB:Hid _:=h.Bs;have HLN:Hid _:=hln
 have hixg:∀k,k<len->∀w',(Instr.indexAt 27 (.slice (some ⟨w.heap.size,0,none⟩) len len) (.int .i64 (k:Int))).run Tryz.prog w'=.ok (.pointer (some ⟨w.heap.size,k,none⟩)) w':=fun k hk w'=>by
  have:=qX (P:=Tryz.prog) Tryz.underlying27 q2d (a:=some ⟨w.heap.size,0,none⟩) (n:=len) (cap:=len) (by simp) k w' hk
  simpa [adOf,qg] using this
 have HIX:Hid _:=hixg;clear h hU hnf hs hQ hb1 hln hixg hZ;go_enter Tryz.func33,Tryz.ntmps33
 go_wp2
 go_loopw [16] (fun j wr=>∃(k:Nat) (G':Nat->Prop) (S' acc:List Nat),k<=len/\j=.int .i64 (k:Int)/\Hid (SsI T0 q d B w G b n ak l0 M vT S rv l k wr G' S' acc)) (fun j _=>len - (intOf j).toNat)
 case atStart=>exact⟨0,G,S,[],Nat.zero_le _,rfl,HI0⟩
 case round =>
  clear HI0 hmk;obtain⟨k,G',S',acc,hk,rfl,HI⟩:=hrel;have HLEN:Hid (l.length=len):=HLN.out;by_cases hlt:k<len
  ·have hkl:k<l.length:=by have:=HLN.out;omega
   have hUr:USl wr a len cap l:=HI.out.fr.intSl HU.out HNF.out;have hidx:=fun w'=>hUr.idx len k w' hlt (Nat.le_refl _)
   have hce:=hUr.cell k hlt;have hgd:(iU l).getD k 0=((l[k]:Nat):Int):=by simp[iU,List.getD_eq_getElem?_getD,List.getElem?_eq_getElem hkl]
   rw[hgd]at hce;have hsk:=HS.out l[k] (List.getElem_mem hkl);have js:=q95 HI.out.o l[k] hsk;have HDK:Hid _:=List.drop_eq_getElem_cons hkl
   have HN:Hid (∀e w',StQ T0 q d B wr G' b n ak l0 M vT S' rv l[k] e w'->(e=.returned (.tuple #[.int .i64 0,.int .i64 10])/\Q (.returned (.tuple #[.slice none 0 0,.int .i64 10])) w')\/∃j G2 S2 v,e=.returned (.tuple #[.int .i64 ((j:Nat):Int),.int .i64 0])/\w'.cell? ⟨w.heap.size,k,none⟩=some v/\w'.frozen? ⟨w.heap.size,k,none⟩=false/\SsI T0 q d B w G b n ak l0 M vT S rv l (k+1) (w'.setCell ⟨w.heap.size,k,none⟩ (.int .i64 ((j:Nat):Int))) G2 S2 (acc++[j])):=fun e w' hq=>by
    obtain⟨G2,fr,⟨h1,he,hO⟩|⟨j,S2,h1,he,hO⟩⟩:=hq
    ·refine Or.inl ⟨he,HQ.out _ _ ⟨G2,HI.out.fr.trans fr,Or.inl ⟨?_,rfl,_,hO⟩⟩⟩
     rw[HI.out.rr,HDK.out,qeK h1];rfl
    ·have hgl:=HI.out.row.lt
     have hrow:RowI w' 3 w.heap.size (iU (acc++List.replicate (l.length - k) 0)):=(fr.keep _ hgl HI.out.ng).trans HI.out.row;have hng:=fr.out HI.out.ng hgl;have hBg:B<=w.heap.size:=HB.out;refine Or.inr ⟨j,G2,S2,_,he,hrow.cell (i:=k) (by simp[iU,HI.out.al];omega),hrow.frozen k,?_,hO.off hng hBg k _,?_,hng,by simp[HI.out.al],?_⟩
     ·have f1:=HI.out.fr.trans fr
      exact⟨f1.os,f1.tape,f1.output,by have:=f1.size;simp;exact this,fun z hz hn=>(Below.heap_setCell _ _ _ _ fun e=>by have e2:z=w.heap.size:=e;omega).trans (f1.keep z hz hn),f1.foot⟩
     ·have:=hrow.set k (j:Int)
      have e2:(iU (acc++List.replicate (l.length - k) 0)).set k (j:Int)=iU (acc++[j]++List.replicate (l.length - (k+1)) 0):=by
       rw[qhk,List.set_append_right _ _ (by rw[HI.out.al];exact Nat.le_refl _),HI.out.al,Nat.sub_self,show l.length - k=(l.length - (k+1))+1 by omega,List.replicate_succ,List.set_cons_zero,List.append_assoc]
       rfl
      rw[e2]at this;exact this
     ·rw[HI.out.rr,HDK.out,qeL h1,Option.map_map]
      congr 1
      funext x
      simp
   have hixk:=HIX.out k hlt;clear hUr hsk hgd HI;generalize l[k]=s at *;generalize adOf a k=ad at *;obtain⟨ga,oa,sa⟩:=ad
   go_wp2_with fail
   refine js.mono ?_
   intro e w3 hq;rcases HN.out e w3 hq with⟨rfl,hr⟩|⟨j,G2,S2,v,rfl,cv,zv,hI2⟩
   ·have HR:Hid _:=hr
    clear js hq hr HN;go_wp2;exact HR.out
   ·have HI2:Hid _:=hI2
    clear js hq HN hI2 hce hidx;go_wp2
    go_roundw
    case rel=>exact⟨k+1,G2,S2,acc++[j],by omega,by go_num,HI2⟩
    case measure=>simp[intOf] <;> omega
  ·obtain rfl:k=len:=by omega
   have HR:Hid (Q (.returned (.tuple #[.slice (some ⟨w.heap.size,0,none⟩) k k,.int .i64 0])) wr):=HQ.out _ _ ⟨G',HI.out.fr,Or.inr ⟨acc,S',by rw[HI.out.rr,List.drop_of_length_le (by have:=HLN.out;omega)];simp[putS],by rw[HI.out.al,HLN.out],by rw[HLN.out],HI.out.o,by
    have:=HI.out.row
    rw[show l.length - k=0 by have:=HLN.out;omega]at this
    simpa using this,HI.out.ng⟩⟩
   clear HI;go_wp2;exact HR.out
def pcI (r:PcU):Value:=.slice r.a r.len r.cap
def RwI (w:World) (g:Nat) (rs:List PcU):Prop:=w.heap[g]? = some (.cells (rs.map pcI).toArray 27 (0,0))
theorem RwI.lt{w:World}{g:Nat}{rs:List PcU}(h:RwI w g rs):g<w.heap.size:=(aes h).1
theorem RwI.cell{w:World}{g:Nat}{rs:List PcU}(h:RwI w g rs){i:Nat}{r:PcU}(hi:rs[i]? = some r):w.cell? ⟨g,i,none⟩=some (.slice r.a r.len r.cap):=by
 unfold RwI at h;rw[qb h i];simp[hi,pcI]
theorem RwI.fz{w:World}{g:Nat}{rs:List PcU}(h:RwI w g rs)(i:Nat):w.frozen? ⟨g,i,none⟩=false:=frozen_of_row w g i _ _ h
theorem RwI.set{w:World}{g:Nat}{rs:List PcU}(h:RwI w g rs)(i:Nat)(r:PcU):RwI (w.setCell ⟨g,i,none⟩ (.slice r.a r.len r.cap)) g (rs.set i r):=by
 unfold RwI at h ⊢;rw[heap_setCell_same w g i _ _ _ h]
 congr 2
 simp[pcI]
theorem qaG:(Tryz.prog.info? 27).map (·.size)=some 1:=by kernel_rfl
theorem qae:(Tryz.prog.info? 27).map (fun i=>(i.zero,i.size,i.bytes))=some (some (.slice none 0 0),1,24):=by kernel_rfl
theorem q6e(g n i:Nat)(hi:i<n)(w:World):(Instr.indexAt 47 (.slice (some ⟨g,0,none⟩) n n) (.int .i64 (i:Int))).run Tryz.prog w=.ok (.pointer (some ⟨g,i,none⟩)) w:=by
 simp[Instr.indexAt,run_underlying Tryz.underlying47,asIntOf,q1D qaG,hi,Result.andThen,go_sem,qg]
def nilI:PcU:=⟨none,0,0,[]⟩
theorem qgG(n:Nat):madeCells #[.slice none 0 0] n=Array.replicate n (Value.slice none 0 0):=by
 unfold madeCells
 apply Array.ext
 ·simp
 ·intro i h1 h2
  simp[Nat.mod_one]
theorem qbf(l:Nat)(hb:l<=100000)(w:World):
  (Instr.makeSlice 47 (.int .i64 (l:Int)) (.int .i64 (l:Int))).run Tryz.prog w=.ok (.slice (some ⟨w.heap.size,0,none⟩) l l) (w.alloc (.cells (Array.replicate l (Value.slice none 0 0)) 27)):=by
 obtain⟨i,hi,hz0,hz1,hz2⟩:=info_parts qae;have:=run_make (P:=Tryz.prog) w 47 27 i (.slice none 0 0) Tryz.underlying47 hi hz0 .i64 .i64 (l:Int) (l:Int) (by omega) (by omega) (by rw[hz2];omega) (by omega)
 rw[this,hz1];simp only[Int.toNat_natCast,Nat.mul_one]
 have e:(Value.slice none 0 0).cells=#[.slice none 0 0]:=rfl;rw[e,qgG]
theorem RwI.made(w:World)(l:Nat):RwI (w.alloc (.cells (Array.replicate l (Value.slice none 0 0)) 27)) w.heap.size (List.replicate l nilI):=by
 unfold RwI;rw[(MapKept.heap_alloc w _).1];simp[pcI,nilI]
structure IsU (B:Nat) (w:World) (G:Nat->Prop) (r:PcU):Prop where
 sl:ISl w r.a r.len r.cap r.ts
 bd:r.len<=1024
 nf:∀k,k<r.len->¬ G (adOf r.a k).block
 lo:∀k,k<r.len->B<=(adOf r.a k).block
theorem IsU.fr{B:Nat}{w w':World}{G G':Nat->Prop}{r:PcU}(h:IsU B w G r)(fr:Fr w w' G G'):IsU B w' G' r:=⟨fr.intSl h.sl h.nf,h.bd,fun k hk=>fr.out (h.nf k hk) (h.sl.blk k hk),h.lo⟩
theorem IsU.len{B:Nat}{w:World}{G:Nat->Prop}{r:PcU}(h:IsU B w G r):r.len=r.ts.length:=q5V h.sl
theorem IsU.off{B:Nat}{w:World}{G:Nat->Prop}{r:PcU}(h:IsU B w G r){g i:Nat}{v:Value}(hg:∀k,k<r.len->(adOf r.a k).block≠g):IsU B (w.setCell ⟨g,i,none⟩ v) G r:=by
 have s:=h.sl;refine⟨⟨s.hlen,s.hcap,s.bd,s.idx,fun k hk=>?_,fun k hk=>Nat.lt_of_lt_of_le (s.blk k hk) (by simp),s.nn⟩,h.bd,h.nf,h.lo⟩
 have:=s.cell k hk
 unfold World.cell? at this ⊢;rw[Below.heap_setCell _ _ _ _ (fun e=>hg k hk e)];exact this
theorem IsU.row{B:Nat}{w:World}{G:Nat->Prop}{r:PcU}(h:IsU B w G r){g:Nat}{rs:List PcU}(hr:RwI w g rs):∀k,k<r.len->(adOf r.a k).block≠g:=fun k hk e=>by
 have hc:=h.sl.cell k hk;unfold World.cell? at hc;unfold RwI at hr;rw[e,hr]at hc
 cases hq:rs[(adOf r.a k).off]? with
 | none=>simp[hq]at hc
 | some y=>simp[hq,pcI]at hc
theorem qgd{B:Nat}{w w':World}{G:Nat->Prop}{l:List Nat}{e:Ending}(hB:B<=w.heap.size)(hF:∀k,G k->k<w.heap.size)(hl:l.length<=1024)(h:CloI l w e w'):Below w.heap.size w w'/\∃a c,e=.returned (.slice a l.length c)/\IsU B w' G ⟨a,l.length,c,l⟩:=by
 refine⟨h.1,?_⟩
 rcases h.2 with⟨rfl,p,rfl⟩|⟨G2,t,_,rfl,hS,h1,h2⟩
 ·exact⟨p,0,rfl,⟨⟨rfl,Nat.le_refl _,Nat.zero_le _,fun m k w hk hm=>absurd hk (by simp at hm;omega),fun k hk=>absurd hk (by simp),fun k hk=>absurd hk (by simp),fun _=>rfl⟩,hl,fun k hk=>absurd hk (by simp),fun k hk=>absurd hk (by simp)⟩⟩
 ·refine⟨_,G2,rfl,hS.isl rfl rfl h1 h2,hl,fun k hk e=>?_,fun k hk=>?_⟩
  ·have:=hF _ e
   simp[adOf,qg]at this
   omega
  ·simp[adOf,qg]
   omega
theorem FinP.pre{M M':Mt}(h:M <+: M'){s:Nat}(hb:BdL [s] M.length):FinP M' [s]↔FinP M [s]:=(q2f h hb 0).symm
theorem MkP.grow{M M':Mt}{S:List Nat}{fs:List Bool}(h:MkP M S fs)(hk:StK S M)(hp:M <+: M'):MkP M' S fs:=by
 refine⟨h.fl,fun j c hc=>?_,h.sm,h.few⟩
 have hj:j<S.length:=by have:=(List.getElem?_eq_some_iff.1 hc).1;have:=h.fl;omega
 have hm:atS S j∈S:=by
  unfold atS;rw[List.getD_eq_getElem?_getD,lge hj];exact List.getElem_mem hj
 rw[FinP.pre hp (hk.bd _ hm)];exact h.fi j c hc
section
variable {T0:Tr} {q:Option Addr} {d B:Nat} {w:World} {G:Nat->Prop} {b n ak:Nat} {l0:List Nat} {M:Mt} {vT:Value} {S:List Nat} {rv:List Value}
theorem MkO.step(h:MkO T0 q d B w G b n ak l0 M vT S rv)(hk:StK S M)(hT:Tab64 w){s x:Nat}(hb:BdL [s] M.length)(hx:x<256):
  ∃p,w.cell? ⟨b,0,none⟩=some (.pointer (some ⟨p,0,none⟩))/\w.cell? ⟨b,7,none⟩=some (.int .i64 (ak:Int))/\Calls Tryz.prog 54 #[.pointer (some ⟨p,0,none⟩),.slice (some ⟨w.heap.size,0,none⟩) 1 1,.int .u8 (x:Int)] (w.alloc (.cells #[.int .u64 (s:Int)] 46)) fun e w'=>∃G',Fr w w' G G' /\
   ((stepM fuelN x [s] [] M=none/\e=.returned (.tuple #[.slice none 0 0,.int .i64 9]))\/∃L M' q' d',stepM fuelN x [s] [] M=some (L,M')/\e=.returned (.tuple #[.slice q' L.length d',.int .i64 0])/\USl w' q' L.length d' L/\(∀k,k<L.length->¬ G' (adOf q' k).block)/\MkO T0 q d B w' G' b n ak l0 M' vT S rv):=by
 obtain⟨F,p,mp,vS,vF,vN,fs,hr,hp,hG⟩:=h;refine⟨p,hr.cp,hr.ca,?_⟩
 have hb1:=qc w (.cells #[.int .u64 (s:Int)] 46);have hr1:=hr.up hb1;obtain⟨items,hP⟩:=hr1.prg;have hT1:=hT.up hb1;have htl:=World.block_lt_of_cell? _ _ (hT1 0 (by decide))
 have hlt:∀k,F k->k<w.heap.size:=fun k hk=>hr.lt k (Or.inl hk)
 refine (q8P hx hP.o hT1 hP.g (some ⟨w.heap.size,0,none⟩) 1 [s] ⟨⟨q2P [s] w (by simp),fun j hj e=>by have:=hlt _ e;simp[adOf,qg]at this⟩,by simp,hb⟩).mono ?_
 rintro e w' ⟨F',i',fr,⟨hs,rfl,hO⟩|⟨L,M',q',d',hs,rfl,hU,hO,hnw⟩⟩
 ·obtain⟨_,f2⟩:=hr1.fr ⟨i',hO,hP.u.fr fr,hP.l,fr.out hP.g htl⟩ fr
  exact⟨_,(Fr.ofBelow hb1).trans (f2.alike (fun k hk=>(hG k).2 hk) (fun k hk=>hk)),Or.inl ⟨hs,rfl⟩⟩
 ·have ag:=q2S fuelN x [s] [] M M' L hb hs
  obtain⟨r2,f2⟩:=hr1.fr ⟨i',hO,hP.u.fr fr,hP.l,fr.out hP.g htl⟩ fr;refine⟨FM F' b mp vS vF vN,(Fr.ofBelow hb1).trans (f2.alike (fun k hk=>(hG k).2 hk) (fun k hk=>hk)),Or.inr ⟨L,M',q',d',hs,rfl,hU.sl,fun k hk e=>?_,F',p,mp,vS,vF,vN,fs,r2,hp.grow hk ag.1,fun k=>Iff.rfl⟩⟩
  rcases e with e|e
  ·exact hU.nf k hk e
  ·have h1:=hnw k hk
   have h2:=hr.lt _ (Or.inr e);have h3:=hb1.size
   omega
end
def RoQ (T0:Tr) (q:Option Addr) (d B:Nat) (w:World) (G:Nat->Prop) (b n ak:Nat) (l0:List Nat) (M:Mt) (vT:Value) (S:List Nat) (rv:List Value) (X:Nat->Prop) (s m:Nat) (e:Ending) (w':World):Prop :=
 ∃G',Fr w w' G G'/\((∃E:Nat,E≠0/\rowM s (List.range m) [] S M=.error E/\e=.returned (.tuple #[.slice none 0 0,.int .i64 (E:Int)]))\/∃cs S1 M1,rowM s (List.range m) [] S M=.ok (cs.map PcU.ts,S1,M1)/\cs.length=m/\e=.returned (.tuple #[.slice (some ⟨w.heap.size,0,none⟩) m m,.int .i64 0])/\MkO T0 q d B w' G' b n ak l0 M1 vT S1 rv/\RwI w' w.heap.size cs/\¬ G' w.heap.size/\(∀c∈cs,IsU B w' G' c)/\StK S1 M1/\PrM X M1)
structure RoI (T0:Tr) (q:Option Addr) (d B:Nat) (w:World) (G:Nat->Prop) (b n ak:Nat) (l0:List Nat) (M:Mt) (vT:Value) (S:List Nat) (rv:List Value) (X:Nat->Prop) (s m x:Nat) (wr:World) (G':Nat->Prop) (S':List Nat) (M':Mt) (acc:List PcU):Prop where
 fr:Fr w wr G G'
 o:MkO T0 q d B wr G' b n ak l0 M' vT S' rv
 row:RwI wr w.heap.size (acc++List.replicate (m - x) nilI)
 ng:¬ G' w.heap.size
 al:acc.length=x
 ls:∀c∈acc,IsU B wr G' c
 j:RowJ X s (acc.map PcU.ts) S' M'
 rr:rowM s (List.range m) [] S M=rowM s (List.range' x (m - x)) (acc.map PcU.ts) S' M'
theorem Fr.new{w w':World}{G G':Nat->Prop}(f1:Fr w w' G G'){g:Nat}(hg:w.heap.size<=g)(i:Nat)(v:Value):Fr w (w'.setCell ⟨g,i,none⟩ v) G G' :=
 ⟨f1.os,f1.tape,f1.output,by have:=f1.size;simp;exact this,fun z hz hn=>(Below.heap_setCell _ _ _ _ fun e=>by have e2:z=g:=e;omega).trans (f1.keep z hz hn),f1.foot⟩
theorem q8d{x m:Nat}(h:x<m):List.range' x (m - x)=x::List.range' (x+1) (m - (x+1)):=by
 rw[show m - x=(m - (x+1))+1 by omega,List.range'_succ]
section
variable {T0:Tr} {q:Option Addr} {d B:Nat} {w wr w':World} {G G' G2:Nat->Prop} {b n ak:Nat} {l0:List Nat} {M M' M2:Mt} {vT:Value} {S S' S2:List Nat} {rv:List Value} {X:Nat->Prop} {s m x:Nat} {acc:List PcU}
theorem RoI.put(h:RoI T0 q d B w G b n ak l0 M vT S rv X s m x wr G' S' M' acc)(hB:B<=w.heap.size)(hx:x<m)(fr:Fr wr w' G' G2)(hO:MkO T0 q d B w' G2 b n ak l0 M2 vT S2 rv)(r:PcU)(hr:IsU B w' G2 r)(hj:RowJ X s ((acc++[r]).map PcU.ts) S2 M2)(hrr:rowM s (x::List.range' (x+1) (m - (x+1))) (acc.map PcU.ts) S' M'=rowM s (List.range' (x+1) (m - (x+1))) ((acc++[r]).map PcU.ts) S2 M2):
  (∃v,w'.cell? ⟨w.heap.size,x,none⟩=some v)/\w'.frozen? ⟨w.heap.size,x,none⟩=false/\RoI T0 q d B w G b n ak l0 M vT S rv X s m (x+1) (w'.setCell ⟨w.heap.size,x,none⟩ (.slice r.a r.len r.cap)) G2 S2 M2 (acc++[r]):=by
 have hgl:=h.row.lt;have hrow:RwI w' w.heap.size (acc++List.replicate (m - x) nilI):=(fr.keep _ hgl h.ng).trans h.row;have hng:=fr.out h.ng hgl;refine⟨⟨_,hrow.cell (i:=x) (r:=nilI) ?_⟩,hrow.fz x,?_,hO.off hng hB x _,?_,hng,by simp[h.al],fun c hc=>?_,hj,by rw[h.rr,q8d hx];exact hrr⟩
 ·rw[List.getElem?_append_right (by rw[h.al];exact Nat.le_refl _),h.al,Nat.sub_self,List.getElem?_replicate,if_pos (by omega)]
 ·exact(h.fr.trans fr).new (Nat.le_refl _) _ _
 ·have:=hrow.set x r
  have e2:(acc++List.replicate (m - x) nilI).set x r=acc++[r]++List.replicate (m - (x+1)) nilI:=by
   rw[List.set_append_right _ _ (by rw[h.al];exact Nat.le_refl _),h.al,Nat.sub_self,show m - x=(m - (x+1))+1 by omega,List.replicate_succ,List.set_cons_zero,List.append_assoc]
   rfl
  rw[e2]at this;exact this
 ·have hcu:IsU B w' G2 c:=by
   rcases List.mem_append.1 hc with hc|hc
   ·exact(h.ls c hc).fr fr
   ·have:c=r:=by simpa using hc
    subst this;exact hr
  exact hcu.off (hcu.row hrow)
end
theorem qbo{T0:Tr}{q:Option Addr}{d B:Nat}{w:World}{G:Nat->Prop}{b n ak:Nat}{l0:List Nat}{M:Mt}{vT:Value}{S:List Nat}{rv:List Value}{X:Nat->Prop}(h:MkO T0 q d B w G b n ak l0 M vT S rv)(hk:StK S M)(hp:PrM X M)(hlk:∀x,Like X (x &&& ak) x)(ha:ak<256)(hn:n<=8)(hT:Tab64 w)(hg:¬ G tabG)(s:Nat)(hs:s∈S):
  Calls Tryz.prog 35 #[.pointer (some ⟨b,0,none⟩),.int .u64 (s:Int)] w (RoQ T0 q d B w G b n ak l0 M vT S rv X s (2 ^ n)):=by
 obtain⟨Q,hQ⟩:∃Q:Ending->World->Prop,Q=RoQ T0 q d B w G b n ak l0 M vT S rv X s (2 ^ n):=⟨_,rfl⟩
 have HQ:Hid (∀e w',RoQ T0 q d B w G b n ak l0 M vT S rv X s (2 ^ n) e w'->Q e w'):=fun e w' h=>by rw[hQ];exact h
 rw[<- hQ];have hm2:2 ^ n<=256:=Nat.pow_le_pow_right (n:=2) (by decide) hn
 have HW:Hid (wrap64 ((2:Int) ^ n)=((2 ^ n:Nat):Int)):=by
  show _=_
  rw[show ((2:Int) ^ n)=((2 ^ n:Nat):Int) by simp]
  generalize 2 ^ n=y at hm2 ⊢
  unfold wrap64
  omega
 have hmin:min n 64=n:=by omega
 have hmk:=qbf (2 ^ n) (by omega) w
 have hc1:w.cell? ⟨b,1,none⟩=some (.int .i64 (n:Int)):=by
  obtain⟨F,p,mp,vS,vF,vN,fs,hr,_,_⟩:=h;exact hr.cn
 have hb1:=qc w (.cells (Array.replicate (2 ^ n) (Value.slice none 0 0)) 27);have HI0:Hid (RoI T0 q d B w G b n ak l0 M vT S rv X s (2 ^ n) 0 (w.alloc (.cells (Array.replicate (2 ^ n) (Value.slice none 0 0)) 27)) G S M []):=⟨Fr.ofBelow hb1,h.up hb1,by simpa using RwI.made w (2 ^ n),fun e=>Nat.lt_irrefl _ (h.lt _ e),rfl,fun c hc=>(by cases hc),RowJ.start hk hp hs,by rw[List.range_eq_range'];rfl⟩
 have HTB:Hid (∀wr G',Fr w wr G G'->Tab64 wr):=fun wr G' fr=>hT.fr fr hg
 have HB:Hid _:=h.Bs;have HLK:Hid _:=hlk
 have hs64:s<2 ^ 64:=by
  obtain⟨F,p,mp,vS,vF,vN,fs,hr,hp,_⟩:=h;exact hp.sm s hs
 clear h hk hp hlk hT hg hs hQ hb1 hs64;generalize hM:(2 ^ n:Nat)=m at *;generalize hZ:Array.replicate m (Value.slice none 0 0)=Z at *;clear hM hZ;go_enter Tryz.func35,Tryz.ntmps35
 go_wp2;rw[HW.out,hmk];go_wp2
 go_loopw [21] (fun j wr=>∃(x:Nat) (G':Nat->Prop) (S':List Nat) (M':Mt) (acc:List PcU),x<=m/\j=.int .i64 (x:Int)/\Hid (RoI T0 q d B w G b n ak l0 M vT S rv X s m x wr G' S' M' acc)) (fun j _=>m - (intOf j).toNat)
 case atStart=>exact⟨0,G,S,M,[],Nat.zero_le _,rfl,HI0⟩
 case round =>
  clear HI0 hmk hc1 hmin HW;obtain⟨x,G',S',M',acc,hx,rfl,HI⟩:=hrel;by_cases hlt:x<m
  ·have hx8:x<256:=by omega
   have hand:=qcS x ak (by omega) (by omega)
   have hlea:x &&& ak<=x:=Nat.and_le_left;have hcv:IntKind.u8.wrap (x:Int)=(x:Int):=by rw[IntKind.wrap_u8];omega
   obtain⟨p,cp,ca,js⟩:=HI.out.o.step HI.out.j.st (HTB.out _ _ HI.out.fr) HI.out.j.bd hx8;have hixx:=fun w'=>q6e w.heap.size m x hlt w'
   have hra:=q8d hlt;by_cases hal:x &&& ak=x
   ·have hne:(((x &&& ak:Nat):Int) != (x:Int))=false:=by rw[hal];simp
    have HN:Hid (∀(e:Ending) (w':World),(∃G2,Fr wr w' G' G2/\((stepM fuelN x [s] [] M'=none/\e=.returned (.tuple #[.slice none 0 0,.int .i64 9]))\/∃L M2 q' d',stepM fuelN x [s] [] M'=some (L,M2)/\e=.returned (.tuple #[.slice q' L.length d',.int .i64 0])/\USl w' q' L.length d' L/\(∀k,k<L.length->¬ G2 (adOf q' k).block)/\MkO T0 q d B w' G2 b n ak l0 M2 vT S' rv)) ->
      (e=.returned (.tuple #[.slice none 0 0,.int .i64 9])/\Q (.returned (.tuple #[.slice none 0 0,.int .i64 9])) w')\/∃q' L' d',e=.returned (.tuple #[.slice q' L' d',.int .i64 0])/\Calls Tryz.prog 33 #[.pointer (some ⟨b,0,none⟩),.slice q' L' d'] w' fun e2 w2=>∃v,w2.cell? ⟨w.heap.size,x,none⟩=some v/\w2.frozen? ⟨w.heap.size,x,none⟩=false /\
       ((e2=.returned (.tuple #[.slice none 0 0,.int .i64 10])/\Q (.returned (.tuple #[.slice none 0 0,.int .i64 10])) (w2.setCell ⟨w.heap.size,x,none⟩ (.slice none 0 0)))\/∃a c L,e2=.returned (.tuple #[.slice a L c,.int .i64 0])/\∃G3 S3 M3 acc3,RoI T0 q d B w G b n ak l0 M vT S rv X s m (x+1) (w2.setCell ⟨w.heap.size,x,none⟩ (.slice a L c)) G3 S3 M3 acc3)):=fun e w' hq=>by
     obtain⟨G2,fr,⟨h1,he⟩|⟨L,M2,q',d',h1,he,hU,hnf,hO⟩⟩:=hq
     ·refine Or.inl ⟨he,HQ.out _ _ ⟨G2,HI.out.fr.trans fr,Or.inl ⟨9,by decide,?_,rfl⟩⟩⟩
      rw[HI.out.rr,hra];unfold rowM;simp only[h1]
     ·refine Or.inr ⟨q',L.length,d',he,?_⟩
      obtain⟨e1,_⟩:=q61 HI.out.j.st.good HI.out.j.bd h1;have hsm:Sm L:=q1d e1.bd e1.good.few;have hln:=qcc fuelN x [s] [] (by simp) h1
      refine (q3Y hO q' L.length d' L hU hnf hsm hln).mono ?_
      rintro e2 w2 ⟨G3,f3,h5⟩
      have hgl:=HI.out.row.lt;have hrow:RwI w2 w.heap.size (acc++List.replicate (m - x) nilI):=((fr.trans f3).keep _ hgl HI.out.ng).trans HI.out.row;have hcell:=hrow.cell (i:=x) (r:=nilI) (by rw[List.getElem?_append_right (by rw[HI.out.al];exact Nat.le_refl _),HI.out.al,Nat.sub_self,List.getElem?_replicate,if_pos (by omega)])
      refine⟨_,hcell,hrow.fz x,?_⟩
      rcases h5 with⟨h6,rfl,-⟩|⟨r,S3,h6,hrl,rfl,hO3,hrow3,hng3⟩
      ·refine Or.inl ⟨rfl,HQ.out _ _ ⟨G3,((HI.out.fr.trans fr).trans f3).new (Nat.le_refl _) _ _,Or.inl ⟨10,by decide,?_,rfl⟩⟩⟩
       rw[HI.out.rr,hra];unfold rowM;simp only[h1,h6]
      ·have hmap:(acc++[(⟨some ⟨w'.heap.size,0,none⟩,L.length,L.length,r⟩:PcU)]).map PcU.ts=acc.map PcU.ts++[r]:=by simp
       have hma:(acc.map PcU.ts).length=x:=by simp[HI.out.al]
       have hI:IsU B w2 G3 ⟨some ⟨w'.heap.size,0,none⟩,L.length,L.length,r⟩:=by
        refine⟨⟨by simp[hrl],Nat.le_refl _,by show L.length<=maxLen;unfold maxLen;omega,fun m k w hk hm=>qX Tryz.underlying27 q2d (by simp) k w hk,fun k hk=>?_,fun k hk=>?_,by simp⟩,hln,fun k hk=>?_,fun k hk=>?_⟩
        ·simp only[adOf,qg,Nat.zero_add]
         exact hrow3.cell (by simp[hrl];exact hk)
        ·simp only[adOf,qg]
         exact hrow3.lt
        ·simp only[adOf,qg]
         exact hng3
        ·simp only[adOf,qg]
         exact hO.Bs
       have hjs:=HI.out.j.step (L:=L) (r:=r) (S1:=S3) (M1:=M2) (by rw[hma];exact h1) h6
       rw[<- hmap]at hjs
       obtain⟨_,_,h9⟩:=HI.out.put HB.out hlt (fr.trans f3) hO3 _ hI hjs (by
        rw[hmap]
        conv=>lhs;unfold rowM
        simp only[h1,h6])
       exact Or.inr ⟨_,_,_,rfl,G3,S3,M2,_,h9⟩
    clear HI hra hal HTB HLK HB hlea
    go_wp2_with fail
    refine js.mono ?_
    intro e w3 hq;rcases HN.out e w3 hq with⟨rfl,hr⟩|⟨q3,L3,d3,rfl,jt⟩
    ·have HR:Hid _:=hr
     clear js hq hr HN;go_wp2;exact HR.out
    ·clear js hq HN cp ca hand hne
     go_wp2_with fail
     refine jt.mono ?_
     rintro e w4 ⟨v4,cv,zv,⟨rfl,hr⟩|⟨a4,c4,L4,rfl,G4,S4,M4,acc4,hI4⟩⟩
     ·have HR:Hid _:=hr
      clear jt hr;go_wp2;exact HR.out
     ·have HI4:Hid _:=hI4
      clear jt hI4;go_wp2
      go_roundw
      case rel=>exact⟨x+1,G4,S4,M4,acc4,by omega,by go_num,HI4⟩
      case measure=>simp[intOf] <;> omega
   ·have hne:(((x &&& ak:Nat):Int) != (x:Int))=true:=by simp;omega
    have hal2:x &&& ak<acc.length:=by rw[HI.out.al];omega
    obtain⟨r0,hr0⟩:∃r0,acc[x &&& ak]? = some r0:=⟨_,lge hal2⟩
    have hga:(acc++List.replicate (m - x) nilI)[x &&& ak]? = some r0:=by rw[List.getElem?_append_left hal2];exact hr0
    have hcr:=HI.out.row.cell hga;have hiu:=HI.out.ls r0 (List.mem_of_getElem? hr0);have hixa:=fun w'=>q6e w.heap.size m (x &&& ak) (by omega) w'
    have jc:=q7k r0.a r0.len r0.cap r0.ts wr hiu.sl (by have:=hiu.bd;omega)
    have HN:Hid (∀e w',CloI r0.ts wr e w'->∃a c L v,e=.returned (.slice a L c)/\w'.cell? ⟨w.heap.size,x,none⟩=some v/\w'.frozen? ⟨w.heap.size,x,none⟩=false/\∃acc2,RoI T0 q d B w G b n ak l0 M vT S rv X s m (x+1) (w'.setCell ⟨w.heap.size,x,none⟩ (.slice a L c)) G' S' M' acc2):=fun e w' hq=>by
     obtain⟨hb,a,c,he,hI⟩:=qgd HI.out.o.Bs HI.out.o.lt (by rw[<- hiu.len];exact hiu.bd) hq
     have hmap:(acc++[(⟨a,r0.ts.length,c,r0.ts⟩:PcU)]).map PcU.ts=acc.map PcU.ts++[r0.ts]:=by simp
     have hma:(acc.map PcU.ts).length=x:=by simp[HI.out.al]
     have hla:(acc.map PcU.ts)[x &&& ak]? = some r0.ts:=by rw[List.getElem?_map,hr0];rfl
     have hjj:=HI.out.j.alike (y:=x &&& ak) (r:=r0.ts) (by rw[hma];exact HLK.out x) hla (List.range' (x+1) (m - (x+1)))
     rw[hma,<- hmap]at hjj;obtain⟨⟨v,h1⟩,h2,h3⟩:=HI.out.put HB.out hlt (Fr.ofBelow hb) (HI.out.o.up hb) _ hI hjj.2 hjj.1;exact⟨a,c,_,v,he,h1,h2,_,h3⟩
    clear js hiu hga hal2 HI hra hal hr0 HTB HLK HB hlea;generalize x &&& ak=y at *;obtain⟨ra,rl,rc,rt⟩:=r0;dsimp only at *
    go_wp2_with fail
    refine jc.mono ?_
    intro e w3 hq;obtain⟨a3,c3,L3,v3,rfl,cv,zv,acc2,hI2⟩:=HN.out e w3 hq;have HI2:Hid _:=hI2;clear jc hq HN hI2 hcr hixa cp ca hand hne;go_wp2
    go_roundw
    case rel=>exact⟨x+1,G',S',M',acc2,by omega,by go_num,HI2⟩
    case measure=>simp[intOf] <;> omega
  ·obtain rfl:x=m:=by omega
   have HR:Hid (Q (.returned (.tuple #[.slice (some ⟨w.heap.size,0,none⟩) x x,.int .i64 0])) wr):=HQ.out _ _ ⟨G',HI.out.fr,Or.inr ⟨acc,S',M',by rw[HI.out.rr,Nat.sub_self];rfl,HI.out.al,rfl,HI.out.o,by
    have:=HI.out.row
    rw[Nat.sub_self]at this;simpa using this,HI.out.ng,HI.out.ls,HI.out.j.st,HI.out.j.pr⟩⟩
   clear HI;go_wp2;exact HR.out
structure RwR where
 g:Nat
 cs:List PcU
def rwV (m:Nat) (r:RwR):Value:=.slice (some ⟨r.g,0,none⟩) m m
def rwL (r:RwR):List (List Nat):=r.cs.map PcU.ts
structure RwAt (B:Nat) (w:World) (G:Nat->Prop) (m:Nat) (r:RwR):Prop where
 row:RwI w r.g r.cs
 ng:¬ G r.g
 ge:B<=r.g
 len:r.cs.length=m
 ls:∀c∈r.cs,IsU B w G c
theorem RwAt.fr{B:Nat}{w w':World}{G G':Nat->Prop}{m:Nat}{r:RwR}(h:RwAt B w G m r)(fr:Fr w w' G G'):RwAt B w' G' m r:=⟨(fr.keep _ h.row.lt h.ng).trans h.row,fr.out h.ng h.row.lt,h.ge,h.len,fun c hc=>(h.ls c hc).fr fr⟩
theorem qaY:(Tryz.prog.info? 47).map (fun i=>(i.zero,i.size,i.bytes))=some (some (.slice none 0 0),1,24):=by kernel_rfl
section
variable {T0:Tr} {q:Option Addr} {d B:Nat} {w w':World} {G G':Nat->Prop} {b n ak:Nat} {l0:List Nat} {M:Mt} {vT:Value} {S:List Nat} {rv:List Value}
theorem MkO.states(h:MkO T0 q d B w G b n ak l0 M vT S rv):∃a c,w.cell? ⟨b,2,none⟩=some (.slice a S.length c)/\USl w a S.length c S:=by
 obtain⟨F,p,mp,vS,vF,vN,fs,hr,hp,hG⟩:=h;obtain⟨a,c,rfl,hU⟩:=q4G hr.rs;exact⟨a,c,hr.cS,hU⟩
theorem MkO.next(h:MkO T0 q d B w G b n ak l0 M vT S rv)(y:Value):∃a c,w.cell? ⟨b,5,none⟩=some (.slice a rv.length c)/\(w.alloc (.cells #[y] 47)).ownsRow B 47 1 (.slice a rv.length c) rv.length rv /\
  ∀w5 v',(w.alloc (.cells #[y] 47)).grownBy w5 (Value.slice a rv.length c).ownBlock->w5.ownsRow B 47 1 v' (rv.length+1) (rv++[y])->(v'.ownBlock=(Value.slice a rv.length c).ownBlock\/v'.ownBlock=some (w.heap.size+1)) ->
   w5.cell? ⟨b,5,none⟩=some (.slice a rv.length c)/\w5.frozen? ⟨b,5,none⟩=false/\∃G',MkO T0 q d B (w5.setCell ⟨b,5,none⟩ v') G' b n ak l0 M vT S (rv++[y])/\Fr w (w5.setCell ⟨b,5,none⟩ v') G G':=by
 obtain⟨F,p,mp,vS,vF,vN,fs,hr,hp,hG⟩:=h;obtain⟨a,c,rfl⟩:=q2m hr.rn;refine⟨a,c,hr.cN,World.ownsRow.alloc hr.rn _,fun w5 v' hg ho hl=>?_⟩
 obtain⟨m1,m2,m3⟩:=hr.growN (rv':=rv++[y]) (qc w _) hg (by rw[List.length_append];exact ho) (by simpa using hl)
 exact⟨qb m1 5,frozen_of_row w5 b 5 _ _ m1,_,⟨F,p,mp,vS,vF,v',fs,m2,hp,fun k=>Iff.rfl⟩,m3.alike (fun k hk=>(hG k).2 hk) (fun k hk=>hk)⟩
end
def GoQ (T0:Tr) (q:Option Addr) (d B:Nat) (w:World) (G:Nat->Prop) (b n ak:Nat) (l0:List Nat) (M:Mt) (t0:PcU) (S:List Nat) (e:Ending) (w':World):Prop :=
 ∃G',Fr w w' G G'/\((∃E:Nat,E≠0/\allM n 256 [] S M=.error E/\e=.returned (.int .i64 (E:Int)))\/∃(rs:List RwR) (S1:List Nat) (M1:Mt),allM n 256 [] S M=.ok (rs.map rwL,S1,M1)/\e=.returned (.int .i64 0)/\MkO T0 q d B w' G' b n ak l0 M1 (pcI t0) S1 (rs.map (rwV (2 ^ n)))/\(∀r∈rs,RwAt B w' G' (2 ^ n) r)/\IsU B w' G' t0)
structure GoI (T0:Tr) (q:Option Addr) (d B:Nat) (w:World) (G:Nat->Prop) (b n ak:Nat) (l0:List Nat) (M:Mt) (t0:PcU) (S:List Nat) (X:Nat->Prop) (k:Nat) (wr:World) (G':Nat->Prop) (S':List Nat) (M':Mt) (rs:List RwR):Prop where
 fr:Fr w wr G G'
 o:MkO T0 q d B wr G' b n ak l0 M' (pcI t0) S' (rs.map (rwV (2 ^ n)))
 kl:rs.length=k
 rows:∀r∈rs,RwAt B wr G' (2 ^ n) r
 t:IsU B wr G' t0
 st:StK S' M'
 pr:PrM X M'
 le:k<=S'.length
 rr:allM n 256 [] S M=allM n (256 - k) (rs.map rwL) S' M'
theorem qbg{T0:Tr}{q:Option Addr}{d B:Nat}{w:World}{G:Nat->Prop}{b n ak:Nat}{l0:List Nat}{M:Mt}{t0:PcU}{S:List Nat}{X:Nat->Prop}(h:MkO T0 q d B w G b n ak l0 M (pcI t0) S [])(ht:IsU B w G t0)(hk:StK S M)(hp:PrM X M)(hlk:∀x,Like X (x &&& ak) x)(ha:ak<256)(hn:n<=8)(hT:Tab64 w)(hg:¬ G tabG):
  Calls Tryz.prog 15 #[.pointer (some ⟨b,0,none⟩)] w (GoQ T0 q d B w G b n ak l0 M t0 S):=by
 obtain⟨Q,hQ⟩:∃Q:Ending->World->Prop,Q=GoQ T0 q d B w G b n ak l0 M t0 S:=⟨_,rfl⟩
 have HQ:Hid (∀e w',GoQ T0 q d B w G b n ak l0 M t0 S e w'->Q e w'):=fun e w' h=>by rw[hQ];exact h
 rw[<- hQ];have HI0:Hid (GoI T0 q d B w G b n ak l0 M t0 S X 0 w G S M []):=⟨Fr.ofBelow (Below.refl _ _),h,rfl,fun r hr=>(by cases hr),ht,hk,hp,Nat.zero_le _,rfl⟩
 have HTB:Hid (∀wr G',Fr w wr G G'->Tab64 wr/\¬ G' tabG):=fun wr G' fr=>⟨hT.fr fr hg,fr.out hg (World.block_lt_of_cell? _ _ (hT 0 (by decide)))⟩
 have HLK:Hid _:=hlk;clear h ht hk hp hlk hT hg hQ;go_enter Tryz.func15,Tryz.ntmps15
 go_wp2
 go_loopw [3] (fun j wr=>∃(k:Nat) (G':Nat->Prop) (S':List Nat) (M':Mt) (rs:List RwR),k<=256/\j=.int .i64 (k:Int)/\Hid (GoI T0 q d B w G b n ak l0 M t0 S X k wr G' S' M' rs)) (fun j _=>256 - (intOf j).toNat)
 case atStart=>exact⟨0,G,S,M,[],Nat.zero_le _,rfl,HI0⟩
 case round =>
  clear HI0;obtain⟨k,G',S',M',rs,hk,rfl,HI⟩:=hrel;obtain⟨aS,cS,c2,hU⟩:=HI.out.o.states;have hf:=HI.out.st.few;by_cases hlt:k<S'.length
  ·have hkl:=hlt
   have hidx:=fun w'=>hU.idx S'.length k w' hlt (Nat.le_refl _)
   have hce:=hU.cell k hlt;have hat:(iU S').getD k 0=((atS S' k:Nat):Int):=by simp[iU,atS,List.getD_eq_getElem?_getD,List.getElem?_eq_getElem hlt]
   rw[hat]at hce
   have hmem:atS S' k∈S':=by
    unfold atS;rw[List.getD_eq_getElem?_getD,lge hlt];exact List.getElem_mem hlt
   have jr:=qbo HI.out.o HI.out.st HI.out.pr HLK.out ha hn (HTB.out _ _ HI.out.fr).1 (HTB.out _ _ HI.out.fr).2 (atS S' k) hmem
   have hall:allM n (256 - k) (rs.map rwL) S' M'=match rowM (atS S' k) (List.range (2 ^ n)) [] S' M' with
     | .error e=>.error e
     | .ok (row,S1,M1)=>allM n (256 - (k+1)) (rs.map rwL++[row]) S1 M1:=by
    rw[show 256 - k=(256 - (k+1))+1 by omega]
    conv=>lhs;unfold allM
    rw[if_pos (by simp[HI.out.kl];exact hlt)]
    simp only[List.length_map,HI.out.kl]
    cases rowM (atS S' k) (List.range (2 ^ n)) [] S' M' <;> rfl
   have HN:Hid (∀e w',RoQ T0 q d B wr G' b n ak l0 M' (pcI t0) S' (rs.map (rwV (2 ^ n))) X (atS S' k) (2 ^ n) e w'->(∃E:Int,e=.returned (.tuple #[.slice none 0 0,.int .i64 E])/\(E != 0)=true/\Q (.returned (.int .i64 E)) w') \/
     ∃a c mm,e=.returned (.tuple #[.slice (some ⟨wr.heap.size,0,none⟩) mm mm,.int .i64 0])/\w'.cell? ⟨b,5,none⟩=some (.slice a k c)/\(∃rv,(w'.alloc (.cells #[.slice (some ⟨wr.heap.size,0,none⟩) mm mm] 47)).ownsRow B 47 1 (.slice a k c) k rv /\
      ∀w5 v',(w'.alloc (.cells #[.slice (some ⟨wr.heap.size,0,none⟩) mm mm] 47)).grownBy w5 (Value.slice a k c).ownBlock->w5.ownsRow B 47 1 v' (k+1) (rv++[.slice (some ⟨wr.heap.size,0,none⟩) mm mm])->(v'.ownBlock=(Value.slice a k c).ownBlock\/v'.ownBlock=some (w'.heap.size+1)) ->
       w5.cell? ⟨b,5,none⟩=some (.slice a k c)/\w5.frozen? ⟨b,5,none⟩=false/\∃G2 S2 M2 rs2,GoI T0 q d B w G b n ak l0 M t0 S X (k+1) (w5.setCell ⟨b,5,none⟩ v') G2 S2 M2 rs2)/\B<=w'.heap.size):=fun e w' hq=>by
    obtain⟨G2,fr,⟨E,h0,h1,he⟩|⟨cs,S1,M1,h1,hcl,he,hO,hrow,hng,hls,hst,hpr⟩⟩:=hq
    ·refine Or.inl ⟨E,he,by simpa using h0,HQ.out _ _ ⟨G2,HI.out.fr.trans fr,Or.inl ⟨E,h0,?_,rfl⟩⟩⟩
     rw[HI.out.rr,hall,h1]
    ·obtain⟨a,c,h2,h3,h4⟩:=hO.next (.slice (some ⟨wr.heap.size,0,none⟩) (2 ^ n) (2 ^ n))
     have hrl:(rs.map (rwV (2 ^ n))).length=k:=by simp[HI.out.kl]
     rw[hrl]at h2 h3 h4;refine Or.inr ⟨a,c,2 ^ n,he,h2,⟨_,h3,fun w5 v' g1 g2 g3=>?_⟩,hO.Bs⟩
     obtain⟨k1,k2,G3,k3,f3⟩:=h4 w5 v' g1 g2 g3;have f13:=fr.trans f3;refine⟨k1,k2,G3,S1,M1,rs++[⟨wr.heap.size,cs⟩],HI.out.fr.trans f13,by rw[List.map_append];exact k3,by simp[HI.out.kl],fun r hr=>?_,HI.out.t.fr f13,hst,hpr,?_,?_⟩
     ·rcases List.mem_append.1 hr with hr|hr
      ·exact(HI.out.rows r hr).fr f13
      ·have:r=⟨wr.heap.size,cs⟩:=by simpa using hr
       subst this;exact RwAt.fr ⟨hrow,hng,HI.out.o.Bs,hcl,hls⟩ f3
     ·have:=(q9r HI.out.st (HI.out.st.bd _ hmem) h1).pre.length_le
      omega
     ·rw[HI.out.rr,hall,h1,List.map_append]
      rfl
   clear hall hmem hat HI HTB HLK;generalize atS S' k=s at *;generalize hL:S'.length=L at *;generalize adOf aS k=ad at *;obtain⟨ga,oa,sa⟩:=ad;clear hU hL hkl
   go_wp2_with fail
   refine jr.mono ?_
   intro e w3 hq;rcases HN.out e w3 hq with⟨E,rfl,hne,hr⟩|⟨a3,c3,mm,rfl,c5,⟨rv,hO3,hN3⟩,hB3⟩
   ·have HR:Hid _:=hr
    clear jr hq hr HN;go_wp2;exact HR.out
   ·have HN3:Hid _:=hN3
    have hc3:(w3.alloc (.cells #[.slice (some ⟨wr.heap.size,0,none⟩) mm mm] 47)).cell? ⟨w3.heap.size,0,none⟩=some (.slice (some ⟨wr.heap.size,0,none⟩) mm mm):=qb (MapKept.heap_alloc w3 _).1 0;clear jr hq HN hN3 hidx hce c2
    go_wp2_with (at_builtin;refine q3g Tryz.underlying29 qaY rfl (by decide) rfl _ _ rfl B _ k rv (.slice (some ⟨wr.heap.size,0,none⟩) mm mm) w3.heap.size rfl rfl hO3 hc3 rfl (by omega) (by simp;omega) ?_)
    intro v7 w7 hown7 hgr7 hloc7;obtain⟨a7,k7,rfl⟩:=qE hown7;obtain⟨c7,z7,G7,S7,M7,rs7,hI7⟩:=HN3.out w7 _ hgr7 hown7 (by simpa using hloc7)
    have HI7:Hid _:=hI7;clear hown7 hgr7 hloc7 hI7 HN3 hO3 hc3 c5;go_wp2
    go_roundw
    case rel=>exact⟨k+1,G7,S7,M7,rs7,by omega,by go_num,HI7⟩
    case measure=>simp[intOf] <;> omega
  ·have HR:Hid (Q (.returned (.int .i64 0)) wr):=by
    have e1:allM n (256 - k) (rs.map rwL) S' M'=.ok (rs.map rwL,S',M'):=by
     cases hc:256 - k with
     | zero=>rfl
     | succ f =>
      unfold allM;rw[if_neg (by simp[HI.out.kl];omega)]
    exact HQ.out _ _ ⟨G',HI.out.fr,Or.inr ⟨rs,S',M',by rw[HI.out.rr,e1],rfl,HI.out.o,HI.out.rows,HI.out.t⟩⟩
   have hlb:¬ k<S'.length:=hlt;clear HI hU;generalize S'.length=L at *;go_wp2;exact HR.out
noncomputable def mmE (n:Int) (ts:List Tk):Int:=if 0<=n/\n<=8 then (if chkE ts≠0 then (chkE ts:Int) else if bitsL ts >>> n.toNat=0 then 0 else 2) else 2
theorem q79{T:Tr}(h:KT T):∀t∈T.flat,t.2<=7:=fun t ht=>(q1U T h.1 t ht).2
theorem q9t(x k:Nat):((x:Int) / 2 ^ k)=((x >>> k:Nat):Int):=by
 rw[Nat.shiftRight_eq_div_pow];simp
theorem q82{ts:List Tk}(h:∀t∈ts,t.2<=7):bitsL ts<256:=by
 have:=q6k h ts.length
 rwa [List.take_length]at this
theorem q6x(n:Int)(a:Option Addr)(len cap:Nat)(ts:List Tk)(w:World)(hT:TkSl w a len cap ts):
  Calls Tryz.prog 13 #[.int .i64 n,.slice a len cap] w fun e w'=>e=.returned (.int .i64 (mmE n ts))/\Below w.heap.size w w':=by
 have jc:=q4h n w;have je:=q8O a len cap ts w hT;have HT:Hid _:=hT;have HL:Hid _:=hT.hlen;obtain⟨E,hE⟩:∃E,E=mmE n ts:=⟨_,rfl⟩
 rw[<- hE];have HE:Hid _:=hE;clear hT hE;by_cases hn:0<=n/\n<=8
 ·rw[decide_eq_true hn.1,decide_eq_true hn.2]at jc
  obtain⟨h0,h8⟩:=hn;obtain⟨k,rfl⟩:=Int.eq_ofNat_of_zero_le h0;have hk8:k<=8:=by omega
  go_enter Tryz.func13,Tryz.ntmps13
  go_wp2_with fail
  refine jc.mono ?_
  rintro e w1 ⟨rfl,rfl⟩
  clear jc
  go_wp2_with fail
  refine je.mono ?_
  rintro e w1 ⟨hb1,⟨hc,rfl⟩|⟨T,bb,kT,hts,hc,rfl,-⟩⟩
  ·have e1:E=(chkE ts:Int):=by rw[HE.out];unfold mmE;rw[if_pos ⟨h0,h8⟩,if_pos hc]
   have hne:(((chkE ts:Nat):Int) != 0)=true:=by simp;omega
   have HB1:Hid _:=hb1;rw[<- e1]at hne ⊢;clear je hc hb1 HE e1;go_wp2;go_ret
   exact⟨rfl,HB1.out⟩
  ·have h7:∀t∈ts,t.2<=7:=by rw[hts];exact q79 kT
   have hsz:len<=1000000:=by have:=(qe7 hc).1;have:=HL.out;omega
   have jb:=q56 a len cap ts w1 (HT.out.up hb1) h7 hsz;have hsm:=q82 h7;have HB1:Hid _:=hb1;have e1:E=if bitsL ts >>> k=0 then 0 else 2:=by rw[HE.out];unfold mmE;rw[if_pos ⟨h0,h8⟩,if_neg (by omega)];rfl
   have HE1:Hid _:=e1;clear je hb1 HE e1 h7 kT hts hc;generalize bitsL ts=x at *
   go_wp2_with fail
   refine jb.mono ?_
   rintro e w2 ⟨rfl,hb2⟩
   have HB2:Hid _:=qd HB1.out hb2;clear jb hb2;by_cases hx:x >>> k=0
   ·have hd:((x:Int) / 2 ^ k != 0)=false:=by rw[q9t,hx];rfl
    have e2:E=0:=by rw[HE1.out,if_pos hx]
    subst e2;go_wp2;go_ret
    exact⟨rfl,HB2.out⟩
   ·have hd:((x:Int) / 2 ^ k != 0)=true:=by
     rw[q9t,bne_iff_ne]
     omega
    have e2:E=2:=by rw[HE1.out,if_neg hx]
    subst e2;go_wp2;go_ret
    exact⟨rfl,HB2.out⟩
 ·have e1:E=2:=by rw[HE.out];unfold mmE;rw[if_neg hn]
  subst e1
  have hf:(decide (0<=n)&&decide (n<=8))=false:=by
   rw[Bool.and_eq_false_iff,decide_eq_false_iff_not,decide_eq_false_iff_not]
   omega
  rw[hf]at jc;clear je HE;go_enter Tryz.func13,Tryz.ntmps13
  go_wp2_with fail
  refine jc.mono ?_
  rintro e w1 ⟨rfl,rfl⟩
  clear jc;go_wp2;go_ret
  exact⟨rfl,Below.refl _ _⟩
section
variable {T0:Tr} {q:Option Addr} {d B:Nat} {w:World} {G:Nat->Prop} {b n ak:Nat} {l0:List Nat} {M:Mt} {vT:Value} {S:List Nat} {rv:List Value}
theorem MkO.setT(h:MkO T0 q d B w G b n ak l0 M vT S rv)(v:Value):(∃u,w.cell? ⟨b,3,none⟩=some u)/\w.frozen? ⟨b,3,none⟩=false/\MkO T0 q d B (w.setCell ⟨b,3,none⟩ v) G b n ak l0 M v S rv/\Fr w (w.setCell ⟨b,3,none⟩ v) G G:=by
 obtain⟨F,p,mp,vS,vF,vN,fs,hr,hp,hG⟩:=h;obtain⟨m2,m3⟩:=hr.setT v;exact⟨⟨_,hr.cT⟩,hr.fz 3,⟨F,p,mp,vS,vF,vN,fs,m2,hp,hG⟩,m3.alike (fun k hk=>(hG k).2 hk) (fun k hk=>(hG k).1 hk)⟩
end
theorem qhw{T:Tr}{q:Option Addr}{d:Nat}{w w2 w4:World}{F:Nat->Prop}{p n ak:Nat}{l0:List Nat}{M:Mt}{items:List It}(hp:PrgAt w2 F p l0 M T q d items)(hF:∀k,F k->w.heap.size<=k)(hw:w.heap.size<=w2.heap.size)(hb4:Below (w2.alloc (.map #[] 0)).heap.size (w2.alloc (.map #[] 0)) w4):
  ∃G,MkO T q d w2.heap.size (w4.alloc (.cells (mkA p n (.slice none 0 0) (.slice none 0 0) (.slice none 0 0) (.slice none 0 0) w2.heap.size ak) 58)) G w4.heap.size n ak l0 M (.slice none 0 0) [] []/\(∀k,G k->w.heap.size<=k):=by
 have hbm:=qc w2 (.map #[] 0);have hb24:Below w2.heap.size w2 w4:=hbm.trans (hb4.mono hbm.size);have hbn:=qc w4 (.cells (mkA p n (.slice none 0 0) (.slice none 0 0) (.slice none 0 0) (.slice none 0 0) w2.heap.size ak) 58);have hb25:=qd hb24 hbn;have h4:w2.heap.size<w4.heap.size:=by have:=hb4.size;simp at this;omega
 have hnum:NumU (w4.alloc (.cells (mkA p n (.slice none 0 0) (.slice none 0 0) (.slice none 0 0) (.slice none 0 0) w2.heap.size ak) 58)) w2.heap.size 0 (posN []):=by
  refine NumU.far (w:=w2.alloc (.map #[] 0)) ((qew w2).alike fun x _=>rfl) ?_
  exact(hbn.block _ h4).trans (hb4.block _ (by simp))
 have hnil:∀(e:TypeId) (w':World),w'.ownsRow w2.heap.size e 1 (.slice none 0 0) 0 []:=fun e w'=>⟨rfl,Or.inl ⟨rfl,rfl⟩⟩
 refine⟨FM F w4.heap.size w2.heap.size (.slice none 0 0) (.slice none 0 0) (.slice none 0 0),⟨F,p,w2.heap.size,_,_,_,[],⟨⟨items,hp.o.up hb25,hp.u.up hb25,hp.l,hp.g⟩,(MapKept.heap_alloc w4 _).1,hnil _ _,hnil _ _,hnil _ _,hnum,fun k hk=>hp.u.sl.blk k hk,Nat.le_of_lt h4,Nat.le_refl _,fun k hk hFk=>?_⟩,⟨rfl,fun j c hc=>(by simp at hc),fun s hs=>(by cases hs),by simp⟩,fun k=>Iff.rfl⟩,fun k hk=>?_⟩
 ·have hl:=hp.o.lt k hFk
  rcases hk with hk|hk|hk|hk|hk
  ·omega
  ·omega
  ·cases hk
  ·cases hk
  ·cases hk
 ·rcases hk with hk|hk|hk|hk|hk|hk
  ·exact hF k hk
  ·omega
  ·omega
  ·cases hk
  ·cases hk
  ·cases hk
def BeQ (w:World) (ts:List Tk) (n:Nat) (e:Ending) (w':World):Prop:=Below w.heap.size w w'/\∃T,KT T/\ts=T.flat /\
 ((∃(E:Nat) (v:Option Addr),E≠0/\nfaM T n=.error E/\e=.returned (.tuple #[.pointer v,.int .i64 (E:Int)])) \/
  ∃q d B G b l0 M t0 S,needM T []=some (l0,M)/\putS l0 []=some (t0.ts,S)/\e=.returned (.tuple #[.pointer (some ⟨b,0,none⟩),.int .i64 0])/\MkO T q d B w' G b n (bitsL ts) l0 M (pcI t0) S []/\IsU B w' G t0/\StK S M/\PrM (PrX ts) M/\(∀k,G k->w.heap.size<=k)/\w.heap.size<=B)
theorem q8r(n:Nat)(a:Option Addr)(len cap:Nat)(ts:List Tk)(w:World)(hT:TkSl w a len cap ts)(hc0:chkE ts=0)(htab:Tab64 w):
  Calls Tryz.prog 14 #[.int .i64 (n:Int),.slice a len cap] w (BeQ w ts n):=by
 obtain⟨Q,hQ⟩:∃Q:Ending->World->Prop,Q=BeQ w ts n:=⟨_,rfl⟩
 have HQ:Hid (∀e w',BeQ w ts n e w'->Q e w'):=fun e w' h=>by rw[hQ];exact h
 rw[<- hQ];have jn:=qav a len cap ts w hT;have hmm:=@run_makeMap Tryz.prog;have HT:Hid _:=hT;have HTB:Hid _:=htab;have HC0:Hid _:=hc0;have hsz:len<=1000000:=by have:=(qe7 hc0).1;have:=hT.hlen;omega
 clear hT htab hQ hc0;go_enter Tryz.func14,Tryz.ntmps14
 go_wp2_with fail
 refine jn.mono ?_
 rintro e w2 ⟨hb2,⟨hc,_⟩|⟨T,kT,hts,_,⟨hn,rfl⟩|⟨l0,M,p,F,q,d,items,hn,rfl,hO,hU,hF⟩⟩⟩
 ·exact absurd HC0.out hc
 ·have HR:Hid (Q (.returned (.tuple #[.pointer none,.int .i64 9])) w2):=HQ.out _ _ ⟨hb2,T,kT,hts,Or.inl ⟨9,none,by decide,by unfold nfaM;rw[hn],rfl⟩⟩
  clear jn hb2 kT hts hn;go_wp2;exact HR.out
 ·have htl:=World.block_lt_of_cell? _ _ (HTB.out 0 (by decide))
  have hl0:LstH l0:=⟨q1d (qZ T q4T kT hn).1.bd hO.few,q2g T hn⟩;have hp:PrgAt w2 F p l0 M T q d items:=⟨hO,hU,hl0,fun e=>Nat.lt_irrefl _ (Nat.lt_of_lt_of_le htl (hF _ e))⟩
  have h7:∀t∈ts,t.2<=7:=by rw[hts];exact q79 kT
  have hbm:Below w2.heap.size w2 (w2.alloc (.map #[] 0)):=qc w2 _;have jb:=q56 a len cap ts (w2.alloc (.map #[] 0)) (HT.out.up (qd hb2 hbm)) h7 hsz
  have HNX:Hid (∀w4,Below (w2.alloc (.map #[] 0)).heap.size (w2.alloc (.map #[] 0)) w4->Calls Tryz.prog 34 #[.pointer (some ⟨p,0,none⟩)] (w4.alloc (.cells (mkA p n (.slice none 0 0) (.slice none 0 0) (.slice none 0 0) (.slice none 0 0) w2.heap.size (bitsL ts)) 58)) fun e w6=>∃a6 c6 L6,e=.returned (.slice a6 L6 c6) /\
    Calls Tryz.prog 33 #[.pointer (some ⟨w4.heap.size,0,none⟩),.slice a6 L6 c6] w6 fun e w7=>∃u E a7 n7 c7,e=.returned (.tuple #[.slice a7 n7 c7,.int .i64 E])/\w7.cell? ⟨w4.heap.size,3,none⟩=some u/\w7.frozen? ⟨w4.heap.size,3,none⟩=false/\Q (.returned (.tuple #[.pointer (some ⟨w4.heap.size,0,none⟩),.int .i64 E])) (w7.setCell ⟨w4.heap.size,3,none⟩ (.slice a7 n7 c7))):=fun w4 hb4=>by
   obtain⟨G,hM,hGe⟩:=qhw (w:=w) (n:=n) (ak:=bitsL ts) hp hF hb2.size hb4;have hb24:Below w2.heap.size w2 w4:=hbm.trans (hb4.mono hbm.size);have hb25:=qd hb24 (qc w4 (.cells (mkA p n (.slice none 0 0) (.slice none 0 0) (.slice none 0 0) (.slice none 0 0) w2.heap.size (bitsL ts)) 58));refine (q7T (hO.up hb25) (hU.up hb25) hl0.few).mono ?_
   intro e w6 hcl;obtain⟨hb6,a6,c6,rfl,hU6⟩:=qhg hM.lt hcl;refine⟨a6,c6,_,rfl,?_⟩
   have hM6:=hM.up hb6;refine (q3Y hM6 a6 l0.length c6 l0 hU6.sl hU6.nf hl0.sm hl0.few).mono ?_
   rintro e w7 ⟨G7,f7,h7⟩
   have hb26:=qd hb25 hb6;have hbw6:=qd hb2 hb26
   have hstk:∀st S,putS l0 []=some (st,S)->StK S M:=fun st S h=>by
    obtain⟨e,_⟩:=qZ T q4T kT hn;have k:=q2K h;exact⟨e.good,fun z hz=>(k.mem z hz).elim (fun h=>by cases h) (fun h=>q81 e.bd h),k.few (by simp)⟩
   rcases h7 with⟨h8,rfl,S2,hO7⟩|⟨r,S1,h8,hrl,rfl,hO7,hrow7,hng7⟩
   ·obtain⟨⟨u,hu⟩,hz,_,f8⟩:=hO7.setT (.slice none 0 0)
    have hbb:Below w.heap.size w (w7.setCell ⟨w4.heap.size,3,none⟩ (.slice none 0 0)):=hbw6.trans ((f7.trans f8).below hGe hbw6.size);exact⟨u,10,_,_,_,rfl,hu,hz,HQ.out _ _ ⟨hbb,T,kT,hts,Or.inl ⟨10,_,by decide,by unfold nfaM;simp only[hn,h8],rfl⟩⟩⟩
   ·obtain⟨⟨u,hu⟩,hz,hMs,f8⟩:=hO7.setT (.slice (some ⟨w6.heap.size,0,none⟩) l0.length l0.length)
    have hI:IsU w2.heap.size w7 G7 ⟨some ⟨w6.heap.size,0,none⟩,l0.length,l0.length,r⟩:=by
     refine⟨⟨by simp[hrl],Nat.le_refl _,by show l0.length<=maxLen;have:=hl0.few;unfold maxLen;omega,fun m k w hk hm=>qX Tryz.underlying27 q2d (by simp) k w hk,fun k hk=>?_,fun k hk=>?_,by simp⟩,hl0.few,fun k hk=>?_,fun k hk=>?_⟩
     ·simp only[adOf,qg,Nat.zero_add]
      exact hrow7.cell (by simp[hrl];exact hk)
     ·simp only[adOf,qg]
      exact hrow7.lt
     ·simp only[adOf,qg]
      exact hng7
     ·simp only[adOf,qg]
      exact hb26.size
    have f68:=f7.trans f8;have hbb:Below w.heap.size w (w7.setCell ⟨w4.heap.size,3,none⟩ (.slice (some ⟨w6.heap.size,0,none⟩) l0.length l0.length)):=hbw6.trans (f68.below hGe hbw6.size);refine⟨u,0,_,_,_,rfl,hu,hz,HQ.out _ _ ⟨hbb,T,kT,hts,Or.inr ⟨q,d,_,G7,_,l0,M,⟨some ⟨w6.heap.size,0,none⟩,l0.length,l0.length,r⟩,S1,hn,h8,rfl,hMs,hI.fr f8,hstk _ _ h8,?_,f68.ge hGe hbw6.size,hb2.size⟩⟩⟩
    exact q2n T (by rw[hts];exact fun p hp=>hp) (fun f hf=>(by cases hf)) hn
  clear jn hb2 kT hts hn hO hU hF htl hl0 hp h7 hbm;unfold pgV;generalize bitsL ts=ak at *
  go_wp2_with fail
  refine jb.mono ?_
  rintro e w4 ⟨rfl,hb4⟩
  have js:=HNX.out w4 hb4;unfold mkA at js;clear jb hb4 HNX
  go_wp2_with fail
  refine js.mono ?_
  rintro e w6 ⟨a6,c6,L6,rfl,jt⟩
  clear js
  go_wp2_with fail
  refine jt.mono ?_
  rintro e w7 ⟨u,E,a7,n7,c7,rfl,hu,hz,hq⟩
  have HR:Hid _:=hq;clear jt hq;go_wp2;exact HR.out
theorem qbP{w w':World}{a:Option Addr}{n c:Nat}{l:List Nat}(s:ISl w a n c l)(hs:w.heap.size<=w'.heap.size)(hk:∀k,k<n->w'.heap[(adOf a k).block]? = w.heap[(adOf a k).block]?):ISl w' a n c l:=by
 refine⟨s.hlen,s.hcap,s.bd,s.idx,fun k hk2=>?_,fun k hk2=>Nat.lt_of_lt_of_le (s.blk k hk2) hs,s.nn⟩
 have:=s.cell k hk2
 unfold World.cell? at this ⊢;rw[hk k hk2];exact this
theorem IsU.lis{B:Nat}{w w':World}{G:Nat->Prop}{r:PcU}(h:IsU B w G r)(hs:w.heap.size<=w'.heap.size)(hw:∀k,B<=k->w'.heap[k]? = w.heap[k]?):LIs w' (pcI r) r.ts:=by
 have hl:=h.len;have hb:=h.bd;have:=qbP h.sl hs fun k hk=>hw _ (h.lo k hk)
 rw[hl]at this;exact⟨r.a,r.cap,by unfold pcI;rw[hl],by omega,this⟩
theorem RwAt.lls{B:Nat}{w w':World}{G:Nat->Prop}{m:Nat}{r:RwR}(h:RwAt B w G m r)(hm:m<=256)(hs:w.heap.size<=w'.heap.size)(hw:∀k,B<=k->w'.heap[k]? = w.heap[k]?):LLs w' (rwV m r) (rwL r):=by
 have hl:(rwL r).length=m:=by unfold rwL;rw[List.length_map,h.len]
 have hrow:RwI w' r.g r.cs:=(hw _ h.ge).trans h.row;refine⟨some ⟨r.g,0,none⟩,m,r.cs.map pcI,by rw[hl];rfl,⟨by simp[hl,h.len],fun e=>(by cases e),by omega,fun k v hv=>?_⟩,fun k l hl2=>?_⟩
 ·rw[List.getElem?_map]at hv
  cases hc:r.cs[k]? with
  | none=>rw[hc]at hv;cases hv
  | some c =>
   rw[hc]at hv;injection hv with hv;subst hv;simp only[adOf,qg,Nat.zero_add]
   exact hrow.cell hc
 ·unfold rwL at hl2
  rw[List.getElem?_map]at hl2
  cases hc:r.cs[k]? with
  | none=>rw[hc]at hl2;cases hl2
  | some c =>
   rw[hc]at hl2;injection hl2 with hl2;subst hl2;exact⟨pcI c,by rw[List.getElem?_map,hc];rfl,(h.ls c (List.mem_of_getElem? hc)).lis hs hw⟩
theorem MkO.nfAt{T0:Tr}{q:Option Addr}{d B:Nat}{w:World}{G:Nat->Prop}{b n ak:Nat}{l0:List Nat}{M:Mt}{t0:PcU}{S:List Nat}{rs:List RwR}{m:Nat}(h:MkO T0 q d B w G b n ak l0 M (pcI t0) S (rs.map (rwV m)))(hr:∀r∈rs,RwAt B w G m r)(ht:IsU B w G t0)(hm:m<=256)(hrl:rs.length<=256):
  ∃aS cS aT nT cT aF nF cF aN nN cN fs,w.cell? ⟨b,1,none⟩=some (.int .i64 (n:Int))/\w.cell? ⟨b,2,none⟩=some (.slice aS S.length cS)/\w.cell? ⟨b,3,none⟩=some (.slice aT nT cT)/\w.cell? ⟨b,4,none⟩=some (.slice aF nF cF)/\w.cell? ⟨b,5,none⟩=some (.slice aN nN cN)/\MkP M S fs /\
   ∀w',w.heap.size<=w'.heap.size->(∀k,B<=k->w'.heap[k]? = w.heap[k]?)->NfAt w' (.slice aS S.length cS) (.slice aT nT cT) (.slice aF nF cF) (.slice aN nN cN) S t0.ts fs (rs.map rwL):=by
 obtain⟨F,p,mp,vS,vF,vN,fs,hk,hp,hG⟩:=h;obtain⟨aS,cS,rfl⟩:=q2m hk.rs;obtain⟨aF,cF,rfl⟩:=q2m hk.rf;obtain⟨aN,cN,rfl⟩:=q2m hk.rn;have hcT:=hk.cT;unfold pcI at hcT;refine⟨aS,cS,t0.a,t0.len,t0.cap,aF,fs.length,cF,aN,_,cN,fs,hk.cn,hk.cS,hcT,hk.cF,hk.cN,hp,fun w' hs hw=>⟨?_,ht.lis hs hw,?_,?_⟩⟩
 ·obtain⟨a,c,h1,h2⟩:=q4G (qn (w':=w') hk.rs fun k hk2=>hw k (q1Q hk.rs k hk2))
  exact⟨a,c,h1,h2⟩
 ·obtain⟨a,c,h1,h2⟩:=qeC (qn (w':=w') hk.rf fun k hk2=>hw k (q1Q hk.rf k hk2))
  exact⟨a,c,h1,h2⟩
 ·obtain⟨a,c,h1,h2⟩:=qgT (qn (w':=w') hk.rn fun k hk2=>hw k (q1Q hk.rn k hk2)) (by simp;omega)
  have hl:(rs.map rwL).length=(rs.map (rwV m)).length:=by simp
  refine⟨a,c,rs.map (rwV m),by rw[hl];exact h1,by rw[hl];exact h2,fun k ll hll=>?_⟩
  rw[List.getElem?_map]at hll
  cases hc:rs[k]? with
  | none=>rw[hc]at hll;cases hll
  | some r =>
   rw[hc]at hll;injection hll with hll;subst hll;exact⟨rwV m r,by rw[List.getElem?_map,hc];rfl,(hr r (List.mem_of_getElem? hc)).lls hm hs hw⟩
def nilN:Value:=nfV 0 (.slice none 0 0) (.slice none 0 0) (.slice none 0 0) (.slice none 0 0)
structure NofK (n:Nat) (ts:List Tk) (T:Tr) (S st:List Nat) (fs:List Bool) (rows:List (List (List Nat))) (M:Mt):Prop where
 kt:KT T
 fl:ts=T.flat
 of:nfaM T n=.ok (S,st,rows,M)
 ok:NfK n S st fs rows
 fin:∀q,q<S.length->(fs.getD q false=true↔FinP M [atS S q])
def NofR (n:Int) (ts:List Tk) (w:World) (e:Ending) (w':World):Prop:=Below w.heap.size w w' /\
 ((∃E:Int,E≠0/\e=.returned (.tuple #[nilN,.int .i64 E])/\(mmE n ts=E\/(mmE n ts=0/\∃T,∃E':Nat,KT T/\ts=T.flat/\nfaM T n.toNat=.error E'/\E=(E':Int)))) \/
  ∃T S st fs rows M vS vT vF vN,mmE n ts=0/\NofK n.toNat ts T S st fs rows M/\e=.returned (.tuple #[nfV n.toNat vS vT vF vN,.int .i64 0])/\NfAt w' vS vT vF vN S st fs rows)
theorem qgQ{n:Nat}{ts:List Tk}{T:Tr}{S st:List Nat}{fs:List Bool}{rows:List (List (List Nat))}{M:Mt}(hn:n<=8)(kt:KT T)(fl:ts=T.flat)(of:nfaM T n=.ok (S,st,rows,M))(hp:MkP M S fs):NofK n ts T S st fs rows M:=by
 obtain⟨h1,h2,h3⟩:=qc0 kt of
 have hfin:∀q,q<S.length->(fs.getD q false=true↔FinP M [atS S q]):=fun q hq=>by
  have hq2:q<fs.length:=by rw[hp.fl];exact hq
  rw[List.getD_eq_getElem?_getD,lge hq2];exact hp.fi q _ (lge hq2)
 obtain⟨l0,hA⟩:=h3 (fun q=>fs.getD q false) hfin
 refine⟨kt,fl,of,⟨hn,h1.ok.few,hp.fl,h2,hA.st_lt,fun q row hq=>⟨(h1.row q row hq).1,fun x l hl j hj=>?_⟩⟩,hfin⟩
 obtain⟨hr1,hr2⟩:=h1.row q row hq;have hx:x<2 ^ n:=by rw[<- hr1];exact(List.getElem?_eq_some_iff.1 hl).1
 obtain⟨r,h5,_,h6⟩:=hr2 x hx;rw[h5]at hl;injection hl with hl;subst hl;exact h6 j hj
def NZ (w:World) (g:Nat):Prop:=w.heap[g]? = some (.cells #[.int .i64 0,.slice none 0 0,.slice none 0 0,.slice none 0 0,.slice none 0 0] 31 (0,0))
theorem NZ.up{w w':World}{g:Nat}(h:NZ w g)(hb:Below w.heap.size w w'):NZ w' g:=(hb.block g (aes h).1).trans h
def five (w:World) (g:Nat) (v0 v1 v2 v3 v4:Value):World:=((((w.setCell ⟨g,0,none⟩ v0).setCell ⟨g,1,none⟩ v1).setCell ⟨g,2,none⟩ v2).setCell ⟨g,3,none⟩ v3).setCell ⟨g,4,none⟩ v4
theorem qfb(w:World)(g:Nat)(v0 v1 v2 v3 v4:Value){k:Nat}(h:k≠g):(five w g v0 v1 v2 v3 v4).heap[k]? = w.heap[k]? := by
 unfold five;rw[Below.heap_setCell _ _ _ _ h,Below.heap_setCell _ _ _ _ h,Below.heap_setCell _ _ _ _ h,Below.heap_setCell _ _ _ _ h,Below.heap_setCell _ _ _ _ h]
theorem q4S{B:Nat}{w w2:World}{g:Nat}(hb:Below B w w2)(hg:B<=g)(v0 v1 v2 v3 v4:Value):Below B w (five w2 g v0 v1 v2 v3 v4) :=
 ((((hb.setCell (p:=⟨g,0,none⟩) hg v0).setCell (p:=⟨g,1,none⟩) hg v1).setCell (p:=⟨g,2,none⟩) hg v2).setCell (p:=⟨g,3,none⟩) hg v3).setCell (p:=⟨g,4,none⟩) hg v4
theorem qfs{n:Int}{ts:List Tk}(h:mmE n ts=0):∃k:Nat,n=(k:Int)/\k<=8/\chkE ts=0/\bitsL ts >>> k=0:=by
 unfold mmE at h;by_cases h1:0<=n/\n<=8
 ·rw[if_pos h1]at h
  by_cases h2:chkE ts≠0
  ·rw[if_pos h2]at h;omega
  ·rw[if_neg h2]at h
   obtain⟨k,rfl⟩:=Int.eq_ofNat_of_zero_le h1.1;by_cases h3:bitsL ts >>> k=0
   ·exact⟨k,rfl,by omega,by omega,h3⟩
   ·rw[Int.toNat_natCast,if_neg h3]at h;omega
 ·rw[if_neg h1]at h;omega
theorem q6d(n:Int)(a:Option Addr)(len cap:Nat)(ts:List Tk)(w:World)(hT:TkSl w a len cap ts)(htab:Tab64 w):
  Calls Tryz.prog 6 #[.int .i64 n,.slice a len cap] w (NofR n ts w):=by
 obtain⟨Q,hQ⟩:∃Q:Ending->World->Prop,Q=NofR n ts w:=⟨_,rfl⟩
 have HQ:Hid (∀e w',NofR n ts w e w'->Q e w'):=fun e w' h=>by rw[hQ];exact h
 rw[<- hQ];have hb1:=qc w (.cells #[.int .i64 0,.slice none 0 0,.slice none 0 0,.slice none 0 0,.slice none 0 0] 31);have HZ1:Hid (NZ (w.alloc (.cells #[.int .i64 0,.slice none 0 0,.slice none 0 0,.slice none 0 0,.slice none 0 0] 31)) w.heap.size):=(MapKept.heap_alloc w _).1;have jm:=q6x n a len cap ts (w.alloc (.cells #[.int .i64 0,.slice none 0 0,.slice none 0 0,.slice none 0 0,.slice none 0 0] 31)) (hT.up hb1);have HT:Hid _:=hT;have HTB:Hid _:=htab;have HB1:Hid _:=hb1;obtain⟨E,hE⟩:∃E,E=mmE n ts:=⟨_,rfl⟩
 rw[<- hE]at jm;have HE:Hid _:=hE;clear hT htab hQ hb1 hE;by_cases h0:E=0
 ·subst h0
  obtain⟨k,rfl,hk8,hc0,hbs⟩:=qfs HE.out.symm;have HR9:Hid (∀w2 (E:Int),Below w.heap.size w w2->E≠0->(∃T,∃E':Nat,KT T/\ts=T.flat/\nfaM T k=.error E'/\E=(E':Int))->Q (.returned (.tuple #[nilN,.int .i64 E])) (five w2 w.heap.size (.int .i64 0) (.slice none 0 0) (.slice none 0 0) (.slice none 0 0) (.slice none 0 0))):=fun w2 E hb hne h=>HQ.out _ _ ⟨q4S hb (Nat.le_refl _) _ _ _ _ _,Or.inl ⟨E,hne,rfl,Or.inr ⟨HE.out.symm,by simpa using h⟩⟩⟩
  go_enter Tryz.func6,Tryz.ntmps6
  go_wp2_with fail
  refine jm.mono ?_
  rintro e w2 ⟨rfl,hb2⟩
  have hbw2:=qd HB1.out hb2;have jb:=q8r k a len cap ts w2 (HT.out.up hbw2) hc0 (Tab64.up (w:=w) HTB.out hbw2);have HZ2:Hid _:=NZ.up HZ1.out hb2;have HBW2:Hid _:=hbw2;clear jm hb2 hbw2 HZ1
  go_wp2_with fail
  refine jb.mono ?_
  rintro e w3 ⟨hb3,T,kT,hts,⟨E,v,hne,hnf,rfl⟩|⟨q,d,B,G,b,l0,M,t0,S,hn,hpu,rfl,hM,hI,hst,hpr,hGe,hBw⟩⟩
  ·have HR:Hid _:=HR9.out w3 (E:Int) (qd HBW2.out hb3) (by omega) ⟨T,E,kT,hts,hnf,rfl⟩
   have hz3:=NZ.up (w:=w2) (g:=w.heap.size) HZ2.out hb3;have z0:w3.cell? ⟨w.heap.size,0,none⟩=some (.int .i64 0):=qb hz3 0;have z1:w3.cell? ⟨w.heap.size,1,none⟩=some (.slice none 0 0):=qb hz3 1;have z2:w3.cell? ⟨w.heap.size,2,none⟩=some (.slice none 0 0):=qb hz3 2;have z3:w3.cell? ⟨w.heap.size,3,none⟩=some (.slice none 0 0):=qb hz3 3;have z4:w3.cell? ⟨w.heap.size,4,none⟩=some (.slice none 0 0):=qb hz3 4;have f0:w3.frozen? ⟨w.heap.size,0,none⟩=false:=frozen_of_row w3 _ 0 _ _ hz3;have f1:w3.frozen? ⟨w.heap.size,1,none⟩=false:=frozen_of_row w3 _ 1 _ _ hz3;have f2:w3.frozen? ⟨w.heap.size,2,none⟩=false:=frozen_of_row w3 _ 2 _ _ hz3;have f3:w3.frozen? ⟨w.heap.size,3,none⟩=false:=frozen_of_row w3 _ 3 _ _ hz3;have f4:w3.frozen? ⟨w.heap.size,4,none⟩=false:=frozen_of_row w3 _ 4 _ _ hz3;have hneb:(((E:Nat):Int) != 0)=true:=by simp;omega
   clear jb hz3 hb3 kT hts hnf HR9 HZ2;go_wp2;refine bodyPost_ret (v:=.tuple #[nilN,.int .i64 (E:Int)]) (by simp[results,Tryz.results6,go_sem,nilN,nfV,z0,z1,z2,z3,z4]) rfl ?_
   exact HR.out
  ·have h7:∀t∈ts,t.2<=7:=by rw[hts];exact q79 kT
   have hbw3:=qd HBW2.out hb3;have htl:=World.block_lt_of_cell? _ _ (HTB.out 0 (by decide))
   have hng:¬ G tabG:=fun e=>Nat.lt_irrefl _ (Nat.lt_of_lt_of_le (Nat.lt_of_lt_of_le htl HBW2.out.size) (hGe _ e))
   have jg:=qbg hM hI hst hpr (fun x=>qfq ts x) (q82 h7) hk8 (Tab64.up (w:=w) HTB.out hbw3) hng
   have hzl:=(aes (NZ.up (w:=w2) (g:=w.heap.size) HZ2.out hb3)).1
   have hg2:w.heap.size<w2.heap.size:=(aes HZ2.out).1
   have HGO:Hid (∀e w4,GoQ T q d B w3 G b k (bitsL ts) l0 M t0 S e w4->NZ w4 w.heap.size/\((∃E:Nat,e=.returned (.int .i64 (E:Int))/\E≠0/\Q (.returned (.tuple #[nilN,.int .i64 (E:Int)])) (five w4 w.heap.size (.int .i64 0) (.slice none 0 0) (.slice none 0 0) (.slice none 0 0) (.slice none 0 0))) \/
     ∃aS nS cS aT nT cT aF nF cF aN nN cN,e=.returned (.int .i64 0)/\w4.cell? ⟨b,1,none⟩=some (.int .i64 (k:Int))/\w4.cell? ⟨b,2,none⟩=some (.slice aS nS cS)/\w4.cell? ⟨b,3,none⟩=some (.slice aT nT cT)/\w4.cell? ⟨b,4,none⟩=some (.slice aF nF cF)/\w4.cell? ⟨b,5,none⟩=some (.slice aN nN cN) /\
      Q (.returned (.tuple #[nfV k (.slice aS nS cS) (.slice aT nT cT) (.slice aF nF cF) (.slice aN nN cN),.int .i64 0])) (five w4 w.heap.size (.int .i64 (k:Int)) (.slice aS nS cS) (.slice aT nT cT) (.slice aF nF cF) (.slice aN nN cN)))):=fun e w4 hq=>by
    obtain⟨G4,fr,hq⟩:=hq;have hnz:NZ w4 w.heap.size:=(fr.keep _ hzl fun e=>by have:=hGe _ e;omega).trans (NZ.up (w:=w2) (g:=w.heap.size) HZ2.out hb3)
    have hb4:Below w.heap.size w w4:=hbw3.trans (fr.below (fun j hj=>Nat.le_trans HBW2.out.size (hGe j hj)) hbw3.size)
    refine⟨hnz,?_⟩
    rcases hq with⟨E,hne,hal,rfl⟩|⟨rs,S1,M1,hal,rfl,hM4,hrs,hI4⟩
    ·exact Or.inl ⟨E,rfl,hne,HR9.out w4 (E:Int) hb4 (by omega) ⟨T,E,kT,hts,by unfold nfaM;simp only[hn,hpu,hal],rfl⟩⟩
    ·have hnf:nfaM T k=.ok (S1,t0.ts,rs.map rwL,M1):=by unfold nfaM;simp only[hn,hpu,hal]
     obtain⟨hA,hAl,_⟩:=qc0 kT hnf;have hpw:2 ^ k<=256:=Nat.pow_le_pow_right (n:=2) (by decide) hk8
     obtain⟨aS,cS,aT,nT,cT,aF,nF,cF,aN,nN,cN,fs,c1,c2,c3,c4,c5,hp,hN⟩:=hM4.nfAt hrs hI4 hpw (by have:=hA.ok.few;simp at hAl;omega)
     refine Or.inr ⟨aS,_,cS,aT,nT,cT,aF,nF,cF,aN,nN,cN,rfl,c1,c2,c3,c4,c5,HQ.out _ _ ⟨q4S hb4 (Nat.le_refl _) _ _ _ _ _,Or.inr ⟨T,S1,t0.ts,fs,rs.map rwL,M1,_,_,_,_,HE.out.symm,qgQ hk8 kT hts hnf hp,rfl,hN _ (by unfold five;simp) fun j hj=>qfb _ _ _ _ _ _ _ (by omega)⟩⟩⟩
   clear jb hM hI hst hpr hGe hBw hb3 kT hts hn hpu h7 hbw3 htl hng hzl hg2 HZ2 HR9
   go_wp2_with fail
   refine jg.mono ?_
   intro e w4 hq;obtain⟨hz3,⟨E,rfl,hne,hr⟩|⟨aS,nS,cS,aT,nT,cT,aF,nF,cF,aN,nN,cN,rfl,c1,c2,c3,c4,c5,hr⟩⟩:=HGO.out e w4 hq
   ·have HR:Hid _:=hr
    have z0:w4.cell? ⟨w.heap.size,0,none⟩=some (.int .i64 0):=qb hz3 0;have z1:w4.cell? ⟨w.heap.size,1,none⟩=some (.slice none 0 0):=qb hz3 1;have z2:w4.cell? ⟨w.heap.size,2,none⟩=some (.slice none 0 0):=qb hz3 2;have z3:w4.cell? ⟨w.heap.size,3,none⟩=some (.slice none 0 0):=qb hz3 3;have z4:w4.cell? ⟨w.heap.size,4,none⟩=some (.slice none 0 0):=qb hz3 4;have f0:w4.frozen? ⟨w.heap.size,0,none⟩=false:=frozen_of_row w4 _ 0 _ _ hz3;have f1:w4.frozen? ⟨w.heap.size,1,none⟩=false:=frozen_of_row w4 _ 1 _ _ hz3;have f2:w4.frozen? ⟨w.heap.size,2,none⟩=false:=frozen_of_row w4 _ 2 _ _ hz3;have f3:w4.frozen? ⟨w.heap.size,3,none⟩=false:=frozen_of_row w4 _ 3 _ _ hz3;have f4:w4.frozen? ⟨w.heap.size,4,none⟩=false:=frozen_of_row w4 _ 4 _ _ hz3;have hneb:(((E:Nat):Int) != 0)=true:=by simp;omega
    clear jg hq hz3 hr HGO;go_wp2;refine bodyPost_ret (v:=.tuple #[nilN,.int .i64 (E:Int)]) (by simp[results,Tryz.results6,go_sem,nilN,nfV,z0,z1,z2,z3,z4]) rfl ?_
    exact HR.out
   ·have HR:Hid _:=hr
    have z0:w4.cell? ⟨w.heap.size,0,none⟩=some (.int .i64 0):=qb hz3 0;have z1:w4.cell? ⟨w.heap.size,1,none⟩=some (.slice none 0 0):=qb hz3 1;have z2:w4.cell? ⟨w.heap.size,2,none⟩=some (.slice none 0 0):=qb hz3 2;have z3:w4.cell? ⟨w.heap.size,3,none⟩=some (.slice none 0 0):=qb hz3 3;have z4:w4.cell? ⟨w.heap.size,4,none⟩=some (.slice none 0 0):=qb hz3 4;have f0:w4.frozen? ⟨w.heap.size,0,none⟩=false:=frozen_of_row w4 _ 0 _ _ hz3;have f1:w4.frozen? ⟨w.heap.size,1,none⟩=false:=frozen_of_row w4 _ 1 _ _ hz3;have f2:w4.frozen? ⟨w.heap.size,2,none⟩=false:=frozen_of_row w4 _ 2 _ _ hz3;have f3:w4.frozen? ⟨w.heap.size,3,none⟩=false:=frozen_of_row w4 _ 3 _ _ hz3;have f4:w4.frozen? ⟨w.heap.size,4,none⟩=false:=frozen_of_row w4 _ 4 _ _ hz3;clear jg hq hz3 hr HGO;go_wp2;refine bodyPost_ret (v:=.tuple #[nfV k (.slice aS nS cS) (.slice aT nT cT) (.slice aF nF cF) (.slice aN nN cN),.int .i64 0]) (by simp[results,Tryz.results6,go_sem,nfV,z0,z1,z2,z3,z4]) rfl ?_
    exact HR.out
 ·have hneb:(E != 0)=true:=by simp;exact h0
  have HR9:Hid (∀w2,Below w.heap.size w w2->Q (.returned (.tuple #[nilN,.int .i64 E])) (five w2 w.heap.size (.int .i64 0) (.slice none 0 0) (.slice none 0 0) (.slice none 0 0) (.slice none 0 0))):=fun w2 hb=>HQ.out _ _ ⟨q4S hb (Nat.le_refl _) _ _ _ _ _,Or.inl ⟨E,h0,rfl,Or.inl HE.out.symm⟩⟩
  go_enter Tryz.func6,Tryz.ntmps6
  go_wp2_with fail
  refine jm.mono ?_
  rintro e w3 ⟨rfl,hb2⟩
  have HR:Hid _:=HR9.out w3 (qd HB1.out hb2);have hz3:=NZ.up HZ1.out hb2;have z0:w3.cell? ⟨w.heap.size,0,none⟩=some (.int .i64 0):=qb hz3 0;have z1:w3.cell? ⟨w.heap.size,1,none⟩=some (.slice none 0 0):=qb hz3 1;have z2:w3.cell? ⟨w.heap.size,2,none⟩=some (.slice none 0 0):=qb hz3 2;have z3:w3.cell? ⟨w.heap.size,3,none⟩=some (.slice none 0 0):=qb hz3 3;have z4:w3.cell? ⟨w.heap.size,4,none⟩=some (.slice none 0 0):=qb hz3 4;have f0:w3.frozen? ⟨w.heap.size,0,none⟩=false:=frozen_of_row w3 _ 0 _ _ hz3;have f1:w3.frozen? ⟨w.heap.size,1,none⟩=false:=frozen_of_row w3 _ 1 _ _ hz3;have f2:w3.frozen? ⟨w.heap.size,2,none⟩=false:=frozen_of_row w3 _ 2 _ _ hz3;have f3:w3.frozen? ⟨w.heap.size,3,none⟩=false:=frozen_of_row w3 _ 3 _ _ hz3;have f4:w3.frozen? ⟨w.heap.size,4,none⟩=false:=frozen_of_row w3 _ 4 _ _ hz3;clear jm hb2 hz3 HZ1 HR9;go_wp2;refine bodyPost_ret (v:=.tuple #[nilN,.int .i64 E]) (by simp[results,Tryz.results6,go_sem,nilN,nfV,z0,z1,z2,z3,z4]) rfl ?_
  exact HR.out
end Go.Proofs.YtekeaodpdcnfjaaGreatDoor
