/- Texts of the proof, put together: what it uses. -/
import Derived.Deep.RegionLaw
import Derived.Deep.RegionHeld2
import Derived.Test.YtejekdenpefoiaaGreatDoorX01
import Derived.Test.YtejekdenpefoiaaGreatDoorX02
import Derived.Test.YtejekdenpefoiaaGreatDoorX03
import Derived.Test.YtejekdenpefoiaaGreatDoorX05
import Derived.Test.YtejekdenpefoiaaGreatDoorX06
import Derived.Test.YtejekdenpefoiaaGreatDoorX09
set_option maxRecDepth 100000
set_option maxHeartbeats 16000000
namespace Go.Proofs.YtejekdenpefoiaaGreatDoor
open Go.RowKit Go.Maps
def noTx (n:Nat):List ByteArray:=List.replicate n ⟨#[]⟩
theorem qbj(n:Nat):noTx n++[⟨#[]⟩]=noTx (n+1):=by
 unfold noTx
 rw[List.replicate_succ']
structure PtN (w:World) (B b:Nat) (vi:Value) (mp:Nat) (vt:Value) (T:Tr) (items:List It) (n:Nat):Prop where
 k:PtK T items n
 ok:∀ x∈items,ItOk x
 r:PtR w b 76 [] vi mp vt items (noTx items.length) items.length (posI items)
 ge:∀ k,FP b mp vi vt k→B≤k
theorem qd6{w3:World}{b:Nat}(hb:w3.heap[b]? = some (.cells #[.slice none 0 0,.map none,.slice none 0 0] 76 (0,0))) :
  Pts ((w3.setCell ⟨b,1,none⟩ (.map (some w3.heap.size))).alloc (.map #[] 0)) (fun k=>k=b∨k=w3.heap.size) b 76 [] [] []:=by
 have hl:b<w3.heap.size:=(Array.getElem?_eq_some_iff.1 hb).1
 have h1:=heap_setCell_same _ b 1 _ _ (.map (some w3.heap.size)) hb
 have hz:(w3.setCell ⟨b,1,none⟩ (.map (some w3.heap.size))).heap.size=w3.heap.size:=by simp
 have hn:=q9b (w3.setCell ⟨b,1,none⟩ (.map (some w3.heap.size)))
 rw[hz]at hn
 refine ⟨by simp,rfl,by simp,fun x hx=>(by cases hx),fun x hx=>(by cases hx),.slice none 0 0,w3.heap.size,.slice none 0 0,⟨Or.inl rfl,?_,⟨rfl,Or.inl ⟨rfl,rfl⟩⟩,⟨rfl,Or.inl ⟨rfl,rfl⟩⟩,hn.alike fun x _=>rfl⟩,fun k=>?_⟩
 ·rw[(qd _ _).block b (by rw[hz];exact hl),h1];rfl
 ·constructor
  ·rintro (h | h)
   ·exact Or.inl h
   ·exact Or.inr (Or.inl h)
  ·rintro (h | h | h | h)
   ·exact Or.inl h
   ·exact Or.inr h
   ·cases h
   ·cases h
theorem PtR.again{w:World}{b mp n:Nat}{T:TypeId}{vi vt:Value}{items:List It}{texts:List ByteArray}{f:It→Option Nat}(h:PtR w b T [] vi mp vt items texts n f) :
  PtR (((w.setCell ⟨b,0,none⟩ vi).setCell ⟨b,1,none⟩ (.map (some mp))).setCell ⟨b,2,none⟩ vt) b T [] vi mp vt items texts n f∧∀ k:Nat,(((w.setCell ⟨b,0,none⟩ vi).setCell ⟨b,1,none⟩ (.map (some mp))).setCell ⟨b,2,none⟩ vt).heap[k]? = w.heap[k]? := by
 have k1:=heap_setCell_same w b 0 _ _ vi h.blk
 have k2:=heap_setCell_same _ b 1 _ _ (.map (some mp)) k1
 have k3:=heap_setCell_same _ b 2 _ _ vt k2
 have all:∀ k:Nat,(((w.setCell ⟨b,0,none⟩ vi).setCell ⟨b,1,none⟩ (.map (some mp))).setCell ⟨b,2,none⟩ vt).heap[k]? = w.heap[k]? := fun k=>by
  by_cases e:k=b
  ·subst e;rw[k3,h.blk];rfl
  ·exact (Below.heap_setCell _ _ _ _ e).trans ((Below.heap_setCell _ _ _ _ e).trans (Below.heap_setCell _ _ _ _ e))
 exact ⟨h.far fun k _=>all k,all⟩
theorem q1d{B:Nat}{w w':World}(h:Below B w w')(a:Addr)(v:Value)(ha:B≤a.block):Below B w (w'.setCell a v) :=
 ⟨h.os,h.tape,h.output,by simp;exact h.size,fun k hk=>(Below.heap_setCell _ _ _ _ (by omega)).trans (h.block k hk)⟩
structure PtG (w wr:World) (b t:Nat) (F:Nat→Prop) (items:List It) (k:Nat):Prop where
 p:∃ G,Pts wr G b 76 [] (items.take k) (noTx k)∧(∀ j,G j→w.heap.size≤j)∧∀ j,F j→¬ G j
 t:TabI wr F t items
 b:Below w.heap.size w wr
theorem qcl{items:List It}(hn:items.Nodup){k:Nat}(hk:k<items.length):items[k] ∉ items.take k:=fun h=>by
 obtain ⟨j,hj,e⟩:=List.getElem_of_mem h
 rw[List.getElem_take]at e
 have:=(List.getElem_inj hn).1 e
 simp at hj
 omega
theorem PtG.up{w wr w':World}{b t:Nat}{F:Nat→Prop}{items:List It}{k:Nat}(h:PtG w wr b t F items k)(hb:Below wr.heap.size wr w'):PtG w w' b t F items k:=by
 obtain ⟨G,hp,h1,h2⟩:=h.p
 exact ⟨⟨G,hp.up hb,h1,h2⟩,h.t.up hb,qe h.b hb⟩
theorem q5Y{w wr:World}{b t:Nat}{F:Nat→Prop}{items:List It}{k:Nat}(h:PtG w wr b t F items k)(hk:k<items.length):Calls Tryz.prog 75 #[.pointer (some ⟨b,0,none⟩),itV items[k]] wr fun e w'=>(∃ j,e=.returned (.int .i64 j))∧PtG w w' b t F items (k+1):=by
 obtain ⟨G,hp,h1,h2⟩:=h.p
 have hnd:=h.t.nd
 have hfew:=h.t.few
 refine (q3x hp items[k] (h.t.ok _ (List.getElem_mem hk)) (qcl hnd hk) (by simp;omega)).mono ?_
 rintro e w' ⟨rfl,G',hp',fr⟩
 rw[qbj,List.take_append_getElem hk]at hp'
 refine ⟨⟨_,rfl⟩,⟨G',hp',fr.ge h1 h.b.size,fun j hj hG=>?_⟩,h.t.far fun j hj=>fr.keep j (h.t.lt j hj) (h2 j hj),h.b.trans (fr.below h1 h.b.size)⟩
 rcases fr.foot j hG with e | e
 ·exact h2 j hj e
 ·have:=h.t.lt j hj;omega
theorem PtG.fin{w wr:World}{b t:Nat}{F:Nat→Prop}{items:List It}(h:PtG w wr b t F items items.length):∃ vi mp vt,PtR wr b 76 [] vi mp vt items (noTx items.length) items.length (posI items)∧∀ k,FP b mp vi vt k→w.heap.size≤k:=by
 obtain ⟨G,hp,h1,_⟩:=h.p
 rw[List.take_length]at hp
 obtain ⟨vi,mp,vt,hr,hG⟩:=hp.ex
 exact ⟨vi,mp,vt,hr,fun k hk=>h1 k ((hG k).2 hk)⟩
theorem q2H(a:Option Addr)(len cap:Nat)(ts:List Tk)(w:World)(hT:TkSl w a len cap ts) :
  Calls Tryz.prog 40 #[.slice a len cap] w fun e w'=>Below w.heap.size w w'∧((chkE ts≠0∧e=.returned (.tuple #[.agg #[.slice none 0 0,.map none,.slice none 0 0],.int .i64 0,.int .i64 (chkE ts:Int)])) ∨
   (chkE ts=0∧∃ T items n b vi mp vt,KT T∧T.size≤2048∧ts=T.flat∧PtN w' w.heap.size b vi mp vt T items n∧e=.returned (.tuple #[.agg #[vi,.map (some mp),vt],.int .i64 (n:Int),.int .i64 0]))):=by
 obtain ⟨w0,hw0⟩:∃ w0,w0=w.alloc (.cells #[.slice none 0 0,.map none,.slice none 0 0] 76):=⟨_,rfl⟩
 have hb0:Below w.heap.size w w0:=by rw[hw0];exact qd _ _
 have hz0:w0.heap.size=w.heap.size+1:=by rw[hw0];simp
 have hv0:w0.heap[w.heap.size]? = some (.cells #[.slice none 0 0,.map none,.slice none 0 0] 76 (0,0)):=by rw[hw0];exact (MapKept.heap_alloc w _).1
 have jn:=q83 w0
 have hmm:=@run_makeMap Tryz.prog
 have HT:Hid _:=hT.up hb0
 have HTS:Hid (∀ x,a=some x→0<len→x.block<w0.heap.size):=fun x hx hl=>by
  have h1:=(hT.up hb0)
  subst hx
  exact h1.lt hl
 have HB0:Hid _:=hb0
 have HZ0:Hid _:=hz0
 have HV0:Hid _:=hv0
 have HW0:Hid _:=hw0
 clear hT hb0 hz0 hv0 hw0
 by_cases hc:chkE ts=0
 ·obtain ⟨T,kT,hsz,hts,hE,hK⟩:=qbX hc
  obtain ⟨items,hi⟩:∃ items,items=keepI [] ts:=⟨_,rfl⟩
  obtain ⟨n,hn⟩:∃ n,n=keepN [] ts:=⟨_,rfl⟩
  rw[← hi,← hn]at hK
  have HFIN:Hid (∀ w' vi mp vt,PtN w' w.heap.size w.heap.size vi mp vt T items n→∃ T' items' n' b vi' mp' vt',KT T'∧T'.size≤2048∧ts=T'.flat∧PtN w' w.heap.size b vi' mp' vt' T' items' n'∧(Ending.returned (.tuple #[.agg #[vi,.map (some mp),vt],.int .i64 (n:Int),.int .i64 0]))=.returned (.tuple #[.agg #[vi',.map (some mp'),vt'],.int .i64 (n':Int),.int .i64 0])):=fun w' vi mp vt h=>⟨T,items,n,_,vi,mp,vt,kT,hsz,hts,h,rfl⟩
  have HK:Hid _:=hK
  have HI:Hid _:=hi
  have HN:Hid _:=hn
  have HE:Hid _:=hE
  have HC:Hid _:=hc
  clear kT hsz hts hK hi hn hE hc
  go_enter Tryz.func40,Tryz.ntmps40
  go_wp2_with fail
  rw[← HW0.out]
  refine jn.mono ?_
  rintro e w1 ⟨t,F,rfl,hTab,hge,hb1⟩
  have jk:=q3B a len cap ts ⟨hTab,q7v⟩ (HT.out.up hb1) (fun hl x hx e=>by have:=HTS.out x hx hl;have:=hge _ e;omega)
  rw[HE.out,← HI.out,← HN.out]at jk
  have HGE:Hid (∀ k,F k→w0.heap.size≤k):=hge
  have HB1:Hid _:=hb1
  clear jn hTab hge hb1
  unfold tbV
  go_wp2_with fail
  refine jk.mono ?_
  rintro e w2 ⟨rfl,F2,hTab2,fr2⟩
  have hb2:Below w0.heap.size w1 w2:=fr2.below HGE.out HB1.out.size
  have hbb:Below w0.heap.size w0 w2:=HB1.out.trans hb2
  have hv2:w2.heap[w.heap.size]? = some (.cells #[.slice none 0 0,.map none,.slice none 0 0] 76 (0,0)):=(hbb.block _ (by have:=HZ0.out;omega)).trans HV0.out
  have hg2:∀ k,F2 k→w0.heap.size≤k:=fr2.ge HGE.out HB1.out.size
  have hp0:=qd6 hv2
  have HB2:Hid (Below w.heap.size w w2):=HB0.out.trans (hbb.mono (by have:=HZ0.out;omega))
  have hl2:w.heap.size<w2.heap.size:=(Array.getElem?_eq_some_iff.1 hv2).1
  have d1:w2.cell? ⟨w.heap.size,1,none⟩=some (.map none):=qb hv2 1
  have z1:w2.frozen? ⟨w.heap.size,1,none⟩=false:=frozen_of_row _ _ 1 _ _ hv2
  have hzs:(w2.setCell ⟨w.heap.size,1,none⟩ (.map (some w2.heap.size))).heap.size=w2.heap.size:=by simp
  have HG0:Hid (PtG w ((w2.setCell ⟨w.heap.size,1,none⟩ (.map (some w2.heap.size))).alloc (.map #[] 0)) w.heap.size t F2 items 0):=by
   refine ⟨⟨_,hp0,fun j hj=>?_,fun j hj hG=>?_⟩,hTab2.1.far fun k hk=>?_,?_⟩
   ·rcases hj with rfl | rfl <;> omega
   ·have h1:=hg2 j hj
    have h2:=hTab2.1.lt j hj
    have:=HZ0.out
    rcases hG with e | e <;> omega
   ·have h1:=hg2 k hk
    have h2:=hTab2.1.lt k hk
    have:=HZ0.out
    exact ((qd _ _).block k (by rw[hzs];exact h2)).trans (Below.heap_setCell _ _ _ _ (by dsimp only;omega))
   ·exact qe (q1d HB2.out _ _ (Nat.le_refl _)) (qd _ _)
  clear jk hTab2 fr2 hb2 hbb hv2 hg2 hp0 hzs
  have hfew:items.length≤2048:=HK.out.few
  generalize hL:items.length=L at *
  have HL:Hid (items.length=L):=hL
  clear hL
  go_wp2_with fail
  generalize (w2.setCell ⟨w.heap.size,1,none⟩ (.map (some w2.heap.size))).alloc (.map #[] 0)=w3 at *
  have jl:=q82 HG0.out.t
  rw[HL.out]at jl
  refine jl.mono ?_
  rintro e w4 ⟨rfl,hw4⟩
  obtain rfl:=hw4.symm
  clear jl d1 z1
  go_wp2
  go_loopw [24] (fun i wr=>∃ k:Nat,k≤L∧i=.int .i64 (k:Int)∧Hid (PtG w wr w.heap.size t F2 items k)) (fun i _=>L - (intOf i).toNat)
  case atStart=>exact ⟨0,Nat.zero_le _,rfl,HG0⟩
  case round =>
   clear HG0
   obtain ⟨k,hk,rfl,HG⟩:=hrel
   by_cases hlt:k<L
   ·have hki:k<items.length:=by have:=HL.out;omega
    have ji:=q6R HG.out.t k items[k] (List.getElem?_eq_getElem hki)
    have HKN:Hid (∀ w',Below wr.heap.size wr w'→Calls Tryz.prog 75 #[.pointer (some ⟨w.heap.size,0,none⟩),itV items[k]] (w'.alloc (itO items[k])) fun e w''=>(∃ j,e=.returned (.int .i64 j))∧PtG w w'' w.heap.size t F2 items (k+1)):=fun w' hb=>q5Y ((HG.out.up hb).up (qd w' _)) hki
    obtain ⟨x,hx⟩:∃ x,x=items[k]:=⟨_,rfl⟩
    rw[← hx]at ji HKN
    clear hx HG
    obtain ⟨op,p,xa,xb⟩:=x
    unfold itV at *
    unfold itO at *
    dsimp only at *
    go_wp2_with fail
    refine ji.mono ?_
    rintro e w5 ⟨rfl,hb5⟩
    have jk:=HKN.out w5 hb5
    clear ji hb5
    go_wp2_with fail
    refine jk.mono ?_
    rintro e w6 ⟨⟨j,rfl⟩,hG6⟩
    have HG6:Hid _:=hG6
    clear jk hG6
    go_wp2
    go_roundw
    case rel=>exact ⟨k+1,by omega,by go_num,HG6⟩
    case measure=>simp[intOf] <;> omega
   ·obtain rfl:k=L:=by omega
    have hg:=HG.out
    rw[← HL.out]at hg
    obtain ⟨vi,mp,vt,hr,hge⟩:=hg.fin
    have h3:=hr.again
    obtain ⟨ai,ci,rfl⟩:=qt hr.ri
    obtain ⟨at',ct,rfl⟩:=qt hr.rt
    have f0:=hr.c0
    have f1:=hr.c1
    have f2:=hr.c2
    have z0:wr.frozen? ⟨w.heap.size,0,none⟩=false:=frozen_of_row _ _ 0 _ _ hr.blk
    have z1:wr.frozen? ⟨w.heap.size,1,none⟩=false:=frozen_of_row _ _ 1 _ _ hr.blk
    have z2:wr.frozen? ⟨w.heap.size,2,none⟩=false:=frozen_of_row _ _ 2 _ _ hr.blk
    have HQ:Hid _:=HFIN.out _ _ _ _ ⟨HK.out,HG.out.t.ok,h3.1,hge⟩
    have HBW:Hid _:=q1d (q1d (q1d HG.out.b ⟨w.heap.size,0,none⟩ (.slice ai items.length ci) (Nat.le_refl _)) ⟨w.heap.size,1,none⟩ (.map (some mp)) (Nat.le_refl _)) ⟨w.heap.size,2,none⟩ (.slice at' (noTx items.length).length ct) (Nat.le_refl _)
    have g0:=h3.1.c0
    have g1:=h3.1.c1
    have g2:=h3.1.c2
    clear hr hg h3 hge HG
    go_wp2
    generalize (((wr.setCell ⟨w.heap.size,0,none⟩ (.slice ai items.length ci)).setCell ⟨w.heap.size,1,none⟩ (.map (some mp))).setCell ⟨w.heap.size,2,none⟩ (.slice at' (noTx items.length).length ct))=W at *
    refine bodyPost_ret (v:=.tuple #[.agg #[.slice ai items.length ci,.map (some mp),.slice at' (noTx items.length).length ct],.int .i64 (n:Int),.int .i64 0]) (by simp[results,Tryz.results40,go_sem,g0,g1,g2]) rfl ⟨HBW.out,Or.inr ⟨HC.out,HQ.out⟩⟩
 ·obtain ⟨h1,h2,h3⟩:=q91 (items:=[]) hc
  have hne:(((chkE ts:Nat):Int) != 0)=true:=by simp;omega
  have HC:Hid _:=hc
  have H1:Hid _:=h1
  have H3:Hid _:=h3
  clear hc h1 h2 h3
  obtain ⟨E,hE⟩:∃ E,E=chkE ts:=⟨_,rfl⟩
  have HE:Hid _:=hE
  rw[← hE]at hne
  rw[← hE]
  clear hE
  go_enter Tryz.func40,Tryz.ntmps40
  go_wp2_with fail
  rw[← HW0.out]
  refine jn.mono ?_
  rintro e w1 ⟨t,F,rfl,hTab,hge,hb1⟩
  have jk:=q3B a len cap ts ⟨hTab,q7v⟩ (HT.out.up hb1) (fun hl x hx e=>by have:=HTS.out x hx hl;have:=hge _ e;omega)
  rw[H1.out,H3.out,← HE.out]at jk
  have HGE:Hid (∀ k,F k→w0.heap.size≤k):=hge
  have HB1:Hid _:=hb1
  clear jn hTab hge hb1 hmm
  unfold tbV
  go_wp2_with fail
  refine jk.mono ?_
  rintro e w2 ⟨rfl,F2,hTab2,fr2⟩
  have hb2:Below w0.heap.size w1 w2:=fr2.below HGE.out HB1.out.size
  have hbb:Below w0.heap.size w0 w2:=HB1.out.trans hb2
  have hv2:w2.heap[w.heap.size]? = some (.cells #[.slice none 0 0,.map none,.slice none 0 0] 76 (0,0)):=(hbb.block _ (by have:=HZ0.out;omega)).trans HV0.out
  have HB2:Hid (Below w.heap.size w w2):=HB0.out.trans (hbb.mono (by have:=HZ0.out;omega))
  have f0:w2.cell? ⟨w.heap.size,0,none⟩=some (.slice none 0 0):=qb hv2 0
  have f1:w2.cell? ⟨w.heap.size,1,none⟩=some (.map none):=qb hv2 1
  have f2:w2.cell? ⟨w.heap.size,2,none⟩=some (.slice none 0 0):=qb hv2 2
  have z0:w2.frozen? ⟨w.heap.size,0,none⟩=false:=frozen_of_row _ _ 0 _ _ hv2
  have z1:w2.frozen? ⟨w.heap.size,1,none⟩=false:=frozen_of_row _ _ 1 _ _ hv2
  have z2:w2.frozen? ⟨w.heap.size,2,none⟩=false:=frozen_of_row _ _ 2 _ _ hv2
  have HBW:Hid _:=q1d (q1d (q1d HB2.out ⟨w.heap.size,0,none⟩ (.slice none 0 0) (Nat.le_refl _)) ⟨w.heap.size,1,none⟩ (.map none) (Nat.le_refl _)) ⟨w.heap.size,2,none⟩ (.slice none 0 0) (Nat.le_refl _)
  have k1:=heap_setCell_same w2 _ 0 _ _ (.slice none 0 0) hv2
  have k2:=heap_setCell_same _ _ 1 _ _ (.map none) k1
  have k3:=heap_setCell_same _ _ 2 _ _ (.slice none 0 0) k2
  have g0:(((w2.setCell ⟨w.heap.size,0,none⟩ (.slice none 0 0)).setCell ⟨w.heap.size,1,none⟩ (.map none)).setCell ⟨w.heap.size,2,none⟩ (.slice none 0 0)).cell? ⟨w.heap.size,0,none⟩=some (.slice none 0 0):=qb k3 0
  have g1:(((w2.setCell ⟨w.heap.size,0,none⟩ (.slice none 0 0)).setCell ⟨w.heap.size,1,none⟩ (.map none)).setCell ⟨w.heap.size,2,none⟩ (.slice none 0 0)).cell? ⟨w.heap.size,1,none⟩=some (.map none):=qb k3 1
  have g2:(((w2.setCell ⟨w.heap.size,0,none⟩ (.slice none 0 0)).setCell ⟨w.heap.size,1,none⟩ (.map none)).setCell ⟨w.heap.size,2,none⟩ (.slice none 0 0)).cell? ⟨w.heap.size,2,none⟩=some (.slice none 0 0):=qb k3 2
  clear jk hTab2 fr2 hb2 hbb hv2 k1 k2 k3
  go_wp2
  generalize (((w2.setCell ⟨w.heap.size,0,none⟩ (.slice none 0 0)).setCell ⟨w.heap.size,1,none⟩ (.map none)).setCell ⟨w.heap.size,2,none⟩ (.slice none 0 0))=W at *
  have HCE:Hid (E≠0):=by have:=HC.out;rw[← HE.out]at this;exact this
  refine bodyPost_ret (v:=.tuple #[.agg #[.slice none 0 0,.map none,.slice none 0 0],.int .i64 0,.int .i64 (E:Int)]) (by simp[results,Tryz.results40,go_sem,g0,g1,g2]) rfl ⟨HBW.out,Or.inl ⟨HCE.out,rfl⟩⟩
theorem PgO.start{T0:Tr}{w:World}{F:Nat→Prop}{p:Nat}{vs:Value}{items:List It}{M:Mt}(h:PgO T0 w F p vs items M)(v:Value):PgO T0 (w.setCell ⟨p,6,none⟩ v) F p v items M∧F p∧w.cell? ⟨p,6,none⟩=some vs∧w.frozen? ⟨p,6,none⟩=false:=by
 obtain ⟨G,mn,vm,met,hr,hF⟩:=h.ex
 have st:∀ k,k≠p→(w.setCell ⟨p,6,none⟩ v).heap[k]? = w.heap[k]? := fun k hk=>Below.heap_setCell _ _ _ _ hk
 refine ⟨⟨h.few,h.nd,h.of,G,mn,vm,met,⟨hr.po.setRest (j:=3) v,qp hr.row fun k hk=>st k fun e=>hr.nv k hk (e ▸ hr.gp),hr.num.far (st mn fun e=>hr.ng (e ▸ hr.gp)),hr.met,hr.ng,hr.nv⟩,hF⟩,(hF p).2 (Or.inl hr.gp),hr.c6,hr.fz 6⟩
theorem qdB{w1 W:World}{B b:Nat}{vi:Value}{mp:Nat}{vt:Value}{T:Tr}{items:List It}{n p mn:Nat}(kT:KT T)(hsz:T.size≤2048)(h:PtN w1 B b vi mp vt T items n)(hb:Below w1.heap.size w1 W)(hp:w1.heap.size≤p)(hm:w1.heap.size≤mn)(hB:B≤w1.heap.size)
  (hP:W.heap[p]? = some (.cells (ptA vi mp vt (pgRest p mn (.slice none 0 0) (.slice none 0 0))) 82 (0,0))) (hN:NumS W mn 0 (fun _=>none)) :
  ∃ F,PgO T W F p (.slice none 0 0) items []∧∀ k,F k→B≤k∧(k<w1.heap.size∨k=p∨k=mn):=by
 obtain ⟨es,c,hmap⟩:=hN.isMap
 have hpm:p≠mn:=fun e=>by rw[e,hmap]at hP;cases hP
 have hlt:=h.r.lt
 have hR:PtR W p 82 (pgRest p mn (.slice none 0 0) (.slice none 0 0)) vi mp vt items (noTx items.length) items.length (posI items) :=
  ⟨Or.inr rfl,hP,q1r h.r.ri hb,q1r h.r.rt hb,h.r.num.far (hb.block mp h.r.num.lt)⟩
 have hG:∀ k,FP p mp vi vt k→k=p∨FP b mp vi vt k:=fun k hk=>by
  rcases hk with e | e
  ·exact Or.inl e
  ·exact Or.inr (Or.inr e)
 have hpo:PtO T W (FP p mp vi vt) p 82 (pgRest p mn (.slice none 0 0) (.slice none 0 0)) items:=by
  refine ⟨⟨kT,hsz⟩,h.k.low,h.k.cov,noTx items.length,⟨h.k.nd,by simp[noTx],by have:=h.k.few;omega,h.ok,fun s hs=>?_,vi,mp,vt,hR,fun k=>Iff.rfl⟩,fun j S hr=>Or.inl ?_⟩
  ·have:=List.eq_of_mem_replicate hs
   subst this
   unfold SOk
   decide
  ·unfold noTx
   rw[List.getElem?_replicate,if_pos hr.lt]
 refine ⟨FQ (FP p mp vi vt) mn (.slice none 0 0),⟨by simp,by simp,fun f hf=>(by cases hf),FP p mp vi vt,mn,.slice none 0 0,[],⟨hpo,⟨rfl,Or.inl ⟨rfl,rfl⟩⟩,hN.alike fun x _=>rfl,⟨rfl,fun n i hi=>(by simp at hi)⟩,fun e=>?_,fun k hk=>(by cases hk)⟩,fun k=>Iff.rfl⟩,fun k hk=>?_⟩
 ·rcases hG _ e with e | e
  ·exact hpm e.symm
  ·have:=hlt _ e;omega
 ·rcases hk with e | e | e
  ·rcases hG _ e with e | e
   ·exact ⟨by omega,Or.inr (Or.inl e)⟩
   ·exact ⟨h.ge k e,Or.inl (hlt _ e)⟩
  ·exact ⟨by omega,Or.inr (Or.inr e)⟩
  ·cases e
structure NwV (w:World) (F:Nat→Prop) (p n bp bw:Nat):Prop where
 h0:w.heap[bp]? = some (.cells #[.pointer (some ⟨p,0,none⟩)] 30 (0,0))
 h1:w.heap[bw]? = some (.cells #[.int .i64 (n:Int)] 3 (0,0))
 n0:¬ F bp
 n1:¬ F bw
theorem NwV.fr{w w':World}{F F':Nat→Prop}{p n bp bw:Nat}(h:NwV w F p n bp bw)(fr:Fr w w' F F'):NwV w' F' p n bp bw :=
 ⟨(qh h.h0 h.n0 fr).1,(qh h.h1 h.n1 fr).1,(qh h.h0 h.n0 fr).2,(qh h.h1 h.n1 fr).2⟩
theorem NwV.cells{w:World}{F:Nat→Prop}{p n bp bw:Nat}(h:NwV w F p n bp bw):w.cell? ⟨bp,0,none⟩=some (.pointer (some ⟨p,0,none⟩))∧w.cell? ⟨bw,0,none⟩=some (.int .i64 (n:Int)):=⟨qb h.h0 0,qb h.h1 0⟩
theorem NwV.set{w:World}{F:Nat→Prop}{p n bp bw:Nat}(h:NwV w F p n bp bw)(hp:F p)(j:Nat)(v:Value):(w.setCell ⟨p,j,none⟩ v).cell? ⟨bp,0,none⟩=some (.pointer (some ⟨p,0,none⟩))∧(w.setCell ⟨p,j,none⟩ v).cell? ⟨bw,0,none⟩=some (.int .i64 (n:Int)) :=
 ⟨qb ((Below.heap_setCell _ _ _ _ (fun e=>h.n0 (by have e':bp=p:=e;rw[e'];exact hp))).trans h.h0) 0,qb ((Below.heap_setCell _ _ _ _ (fun e=>h.n1 (by have e':bw=p:=e;rw[e'];exact hp))).trans h.h1) 0⟩
theorem qdJ{w:World}{F:Nat→Prop}{a:Option Addr}{n c:Nat}{l:List Nat}(h:US w F a n c l){p:Nat}(hp:F p)(j:Nat)(v:Value):US (w.setCell ⟨p,j,none⟩ v) F a n c l:=by
 have hs:=h.sl
 refine ⟨⟨hs.hlen,hs.hcap,hs.bd,hs.idx,fun k hk=>?_,fun k hk=>by simp;exact hs.blk k hk,hs.nn⟩,h.nf⟩
 have:=hs.cell k hk
 unfold World.cell? at this ⊢
 rw[Below.heap_setCell _ _ _ _ (fun e=>h.nf k hk (by rw[e];exact hp))]
 exact this
theorem qdk{w w1:World}{F F1:Nat→Prop}(fr:Fr w w1 F F1){p:Nat}(hp:F1 p)(j:Nat)(v:Value):Fr w (w1.setCell ⟨p,j,none⟩ v) F F1:=by
 refine fr.trans ⟨rfl,rfl,rfl,by simp,fun k hk hF=>Below.heap_setCell _ _ _ _ (fun e=>hF (e ▸ hp)),fun k hk=>Or.inl hk⟩
def NewQ (T0:Tr) (p:Nat) (w:World) (F:Nat→Prop) (R:Rt) (e:Ending) (w':World):Prop :=
 (e=.returned (.tuple #[])∧∃ (L:List Nat) (M':Mt) (q:Option Addr) (d:Nat) (F':Nat→Prop) (items':List It),R=some (L,M')∧PgO T0 w' F' p (.slice q L.length d) items' M'∧US w' F' q L.length d L∧Fr w w' F F') ∨
 (e=.panicked thrownP∧R=none∧∃ (F':Nat→Prop),Fr w w' F F')
theorem qd1{T0:Tr}{p:Nat}{w w1:World}{F F1:Nat→Prop}{items:List It}{M:Mt}{R:Rt}{L:List Nat}{q:Option Addr}{d:Nat}{vs:Value}(hR:R=some (L,M))(fr:Fr w w1 F F1)(hU:US w1 F1 q L.length d L)(hO:PgO T0 w1 F1 p vs items M):NewQ T0 p w F R (.returned (.tuple #[])) (w1.setCell ⟨p,6,none⟩ (.slice q L.length d)):=by
 obtain ⟨h1,h2,_,_⟩:=hO.start (.slice q L.length d)
 exact Or.inl ⟨rfl,L,M,q,d,F1,items,hR,h1,qdJ hU h2 _ _,qdk fr h2 _ _⟩
theorem q6I{T0:Tr}(kT:KT T0){p n:Nat}{w:World}{F:Nat→Prop}{items:List It}(h:PgO T0 w F p (.slice none 0 0) items [])(hn:Rep items n T0)(bp bw:Nat)(hV:NwV w F p n bp bw) :
  Calls Tryz.prog 42 #[.pointer (some ⟨bp,0,none⟩),.pointer (some ⟨bw,0,none⟩)] w (NewQ T0 p w F (needM T0 [])):=by
 have hVd:=hV.fr (Fr.ofBelow (F:=F) (Below.refl w.heap.size w).drew)
 have hk0:=hVd.cells
 have hk00:=hV.cells
 have jn:=q1M (T0:=T0) (p:=p) (vs:=.slice none 0 0) T0 kT (qbS T0) w.drew F items [] n (h.up (Below.refl w.heap.size w).drew) hn
 have HV:Hid _:=hVd
 obtain ⟨R,hR⟩:∃ R,R=needM T0 []:=⟨_,rfl⟩
 rw[← hR]at jn ⊢
 obtain ⟨Q,hQ⟩:∃ Q:Ending→World→Prop,Q=NewQ T0 p w F R:=⟨_,rfl⟩
 have HQ:Hid (∀ e w',NewQ T0 p w F R e w'→Q e w'):=fun e w' h=>by rw[hQ];exact h
 rw[← hQ]
 clear h hn hV hVd hR hQ
 go_enter Tryz.func42,Tryz.ntmps42
 go_wp2_with fail
 go_region_held2 (fun w'=>w'.cell? ⟨bp,0,none⟩=some (.pointer (some ⟨p,0,none⟩))∧w'.cell? ⟨bw,0,none⟩=some (.int .i64 (n:Int))) (first | exact hk0 | exact hk00 | assumption | fail) (first
   | (revert jn;intro jn;go_at_call 43;(with_reducible refine jn.mono ?_);rintro e w1 ⟨F1,i1,fr1,hp1,⟨L1,M1,q1,d1,hs1,rfl,hU1,hO1⟩ | ⟨hs1,rfl,M1,hpm1,hO1⟩⟩;(case inr=>exact ⟨rfl,HQ.out _ _ (Or.inr ⟨rfl,hs1,F1,(Fr.ofBelow (Below.refl _ _).drew).trans fr1⟩)⟩);have hV1:=HV.out.fr fr1;have hk1:=hV1.cells;have hst:=hO1.start (.slice q1 L1.length d1);have hk2:=hV1.set hst.2.1 6 (.slice q1 L1.length d1);have z2:=hst.2.2.1;have zf:=hst.2.2.2;have HE:Hid (Q (.returned (.tuple #[])) (w1.setCell ⟨p,6,none⟩ (.slice q1 L1.length d1))):=HQ.out _ _ (qd1 hs1 ((Fr.ofBelow (Below.refl _ _).drew).trans fr1) hU1 hO1))
   | fail)
 all_goals
  clear jn
  go_wp2
  go_end0
  exact HE.out
def NwP (T0:Tr) (p:Nat) (w:World) (F:Nat→Prop) (E:Nat) (R:Rt) (w':World):Prop :=
 ∃ (L:List Nat) (M':Mt) (q:Option Addr) (d:Nat) (F':Nat→Prop) (items':List It),R=some (L,M')∧PgO T0 w' F' p (.slice q L.length d) items' M'∧US w' F' q L.length d L∧¬ F' E∧(∀ k,k<L.length→(adOf q k).block≠E)∧Fr w w' (fun k=>F k∨k=E) F'
def NwN (w:World) (F:Nat→Prop) (E:Nat) (R:Rt) (w':World):Prop:=R=none∧∃ F':Nat→Prop,Fr w w' (fun k=>F k∨k=E) F'
theorem q8V{w w1 w2:World}{F F':Nat→Prop}{E:Nat}(h7:Fr w w1 (fun k=>F k∨k=E) F')(hg:w1.grownBy w2 (some E)):Fr w w2 (fun k=>F k∨k=E) F' :=
 ⟨hg.os.trans h7.os,hg.tape.trans h7.tape,hg.output.trans h7.output,Nat.le_trans h7.size hg.size,fun k hk hF=>(hg.block k (Nat.lt_of_lt_of_le hk h7.size) (fun e=>hF (Or.inr (by injection e)))).trans (h7.keep k hk hF),h7.foot⟩
theorem NwP.grown{T0:Tr}{p:Nat}{w w1 w2:World}{F:Nat→Prop}{E:Nat}{R:Rt}(h:NwP T0 p w F E R w1)(hg:w1.grownBy w2 (some E)):NwP T0 p w F E R w2:=by
 obtain ⟨L,M',q,d,F',i',h1,h3,h4,h5,h6,h7⟩:=h
 exact ⟨L,M',q,d,F',i',h1,h3.far fun k hk=>hg.block k (h3.lt k hk) (fun e=>h5 (by injection e with e;exact e ▸ hk)),h4.grown hg h6,h5,h6,q8V h7 hg⟩
theorem q7C:EntersF 42:=fun _ _=>rfl
theorem q5k{T0:Tr}(kT:KT T0){p n:Nat}{w:World}{F:Nat→Prop}{items:List It}(h:PgO T0 w F p (.slice none 0 0) items [])(hn:Rep items n T0)(bp bw:Nat)(hV:NwV w F p n bp bw) :
  Calls Tryz.prog 41 #[.func (.func 42) #[] #[.pointer (some ⟨bp,0,none⟩),.pointer (some ⟨bw,0,none⟩)]] w fun e w' =>
   (e=.returned (.int .i64 0)∧NwP T0 p w F w.heap.size (needM T0 []) w')∨(e=.returned (.int .i64 9)∧NwN w F w.heap.size (needM T0 []) w'):=by
 refine (q2V 42 _ w q7C (fun w'=>NwP T0 p w F w.heap.size (needM T0 []) w') (fun w'=>NwN w F w.heap.size (needM T0 []) w') ?_ ?_ ?_).mono ?_
 ·rintro w1 w2 b hp hg rfl
  exact hp.grown hg
 ·rintro w1 w2 b ⟨h1,F',h7⟩ hg rfl
  exact ⟨h1,F',q8V h7 hg⟩
 ·intro w0 hw0
  have hb:Below w.heap.size w w0:=by rw[hw0];exact qd _ _
  have hE:Erc w0 w.heap.size 0:=by rw[hw0];exact (MapKept.heap_alloc w _).1
  have hz:w0.heap.size=w.heap.size+1:=by rw[hw0];simp
  have hnE:¬ F w.heap.size:=fun e=>Nat.lt_irrefl _ (h.lt _ e)
  refine (q6I kT (h.up hb) hn bp bw (hV.fr (Fr.ofBelow hb))).mono ?_
  rintro e w' (⟨rfl,L,M',q,d,F',i',hs,hO,hU,fr⟩ | ⟨rfl,hs,F',fr⟩)
  ·have hE':Erc w' w.heap.size 0:=(fr.keep _ (by omega) hnE).trans hE
   exact Or.inl ⟨rfl,⟨L,M',q,d,F',i',hs,hO,hU,fr.out hnE (by omega),qab hU hE',((Fr.ofBelow hb).trans fr).alike (fun k hk=>Or.inl hk) (fun k hk=>hk)⟩,hE'⟩
  ·have hE':Erc w' w.heap.size 0:=(fr.keep _ (by omega) hnE).trans hE
   exact Or.inr ⟨rfl,⟨hs,F',((Fr.ofBelow hb).trans fr).alike (fun k hk=>Or.inl hk) (fun k hk=>hk)⟩,hE'⟩
 ·rintro e w' (⟨h1,h2⟩ | ⟨h1,h2⟩)
  ·exact Or.inl ⟨h1,h2⟩
  ·exact Or.inr ⟨h1,h2⟩
theorem qc3{w w1:World}{b:Nat}{vi:Value}{mp:Nat}{vt:Value}{T:Tr}{items:List It}{n:Nat}(kT:KT T)(hsz:T.size≤2048)(hb1:Below w.heap.size w w1)(hN:PtN w1 w.heap.size b vi mp vt T items n)(o:Obj) :
  ∃ W,W=((((w1.alloc o).alloc (.cells #[.int .i64 (n:Int)] 3)).alloc (.map #[] 0)).alloc (.cells #[vi,.map (some mp),vt,.pointer (some ⟨w1.heap.size+1+1+1,0,none⟩),.map (some (w1.heap.size+1+1)),.slice none 0 0,.slice none 0 0] 82)).alloc (.cells #[.pointer (some ⟨w1.heap.size+1+1+1,0,none⟩)] 30) ∧
   Below w.heap.size w W∧∃ F,PgO T W F (w1.heap.size+1+1+1) (.slice none 0 0) items []∧(∀ k,F k→w.heap.size≤k)∧NwV W F (w1.heap.size+1+1+1) n (w1.heap.size+1+1+1+1) (w1.heap.size+1):=by
 obtain ⟨u1,hu1⟩:∃ u,u=w1.alloc o:=⟨_,rfl⟩
 obtain ⟨u2,hu2⟩:∃ u,u=u1.alloc (.cells #[.int .i64 (n:Int)] 3):=⟨_,rfl⟩
 obtain ⟨u3,hu3⟩:∃ u,u=u2.alloc (.map #[] 0):=⟨_,rfl⟩
 obtain ⟨u4,hu4⟩:∃ u,u=u3.alloc (.cells #[vi,.map (some mp),vt,.pointer (some ⟨w1.heap.size+1+1+1,0,none⟩),.map (some (w1.heap.size+1+1)),.slice none 0 0,.slice none 0 0] 82):=⟨_,rfl⟩
 obtain ⟨u5,hu5⟩:∃ u,u=u4.alloc (.cells #[.pointer (some ⟨w1.heap.size+1+1+1,0,none⟩)] 30):=⟨_,rfl⟩
 refine ⟨u5,by rw[hu5,hu4,hu3,hu2,hu1],?_⟩
 have z1:u1.heap.size=w1.heap.size+1:=by rw[hu1];simp
 have z2:u2.heap.size=w1.heap.size+1+1:=by rw[hu2];simp[z1]
 have z3:u3.heap.size=w1.heap.size+1+1+1:=by rw[hu3];simp[z2]
 have z4:u4.heap.size=w1.heap.size+1+1+1+1:=by rw[hu4];simp[z3]
 have b1:Below w1.heap.size w1 u1:=by rw[hu1];exact qd _ _
 have b2:Below u1.heap.size u1 u2:=by rw[hu2];exact qd _ _
 have b3:Below u2.heap.size u2 u3:=by rw[hu3];exact qd _ _
 have b4:Below u3.heap.size u3 u4:=by rw[hu4];exact qd _ _
 have b5:Below u4.heap.size u4 u5:=by rw[hu5];exact qd _ _
 have hB:Below w1.heap.size w1 u5:=qe (qe (qe (qe b1 b2) b3) b4) b5
 have v2:u2.heap[w1.heap.size+1]? = some (.cells #[.int .i64 (n:Int)] 3 (0,0)):=by rw[← z1,hu2];exact (MapKept.heap_alloc u1 _).1
 have hnum:NumS u3 (w1.heap.size+1+1) 0 (fun _=>none):=by rw[← z2,hu3];exact qbl u2
 have v4:u4.heap[w1.heap.size+1+1+1]? = some (.cells #[vi,.map (some mp),vt,.pointer (some ⟨w1.heap.size+1+1+1,0,none⟩),.map (some (w1.heap.size+1+1)),.slice none 0 0,.slice none 0 0] 82 (0,0)):=by
  have:=(MapKept.heap_alloc u3 (.cells #[vi,.map (some mp),vt,.pointer (some ⟨w1.heap.size+1+1+1,0,none⟩),.map (some (w1.heap.size+1+1)),.slice none 0 0,.slice none 0 0] 82)).1
  rw[← hu4,z3]at this
  exact this
 have v5:u5.heap[w1.heap.size+1+1+1+1]? = some (.cells #[.pointer (some ⟨w1.heap.size+1+1+1,0,none⟩)] 30 (0,0)):=by
  have:=(MapKept.heap_alloc u4 (.cells #[.pointer (some ⟨w1.heap.size+1+1+1,0,none⟩)] 30)).1
  rw[← hu5,z4]at this
  exact this
 obtain ⟨F,hO,hF⟩:=qdB (W:=u5) (p:=w1.heap.size+1+1+1) (mn:=w1.heap.size+1+1) kT hsz hN hB (by omega) (by omega) hb1.size ((b5.block _ (by omega)).trans v4) (hnum.far ((b5.block _ (by omega)).trans (b4.block _ (by omega))))
 refine ⟨qe hb1 hB,F,hO,fun k hk=>(hF k hk).1,v5,?_,fun e=>?_,fun e=>?_⟩
 ·exact (b5.block _ (by omega)).trans ((b4.block _ (by omega)).trans ((b3.block _ (by omega)).trans v2))
 ·have:=(hF _ e).2;omega
 ·have:=(hF _ e).2;omega
def NewR (w:World) (ts:List Tk) (e:Ending) (w':World):Prop:=Below w.heap.size w w'∧((chkE ts≠0∧e=.returned (.tuple #[.pointer none,.int .i64 (chkE ts:Int)])) ∨
 ∃ T,KT T∧ts=T.flat∧chkE ts=0∧((needM T []=none∧e=.returned (.tuple #[.pointer none,.int .i64 9])) ∨
  ∃ (l0:List Nat) (M:Mt) (p:Nat) (F:Nat→Prop) (q:Option Addr) (d:Nat) (items:List It),needM T []=some (l0,M)∧e=.returned (.tuple #[pgV p,.int .i64 0])∧PgO T w' F p (.slice q l0.length d) items M∧US w' F q l0.length d l0∧(∀ k,F k→w.heap.size≤k)))
theorem q7N(a:Option Addr)(len cap:Nat)(ts:List Tk)(w:World)(hT:TkSl w a len cap ts):Calls Tryz.prog 13 #[.slice a len cap] w (NewR w ts):=by
 have jp:=q2H a len cap ts w hT
 have hmm:=@run_makeMap Tryz.prog
 obtain ⟨Q,hQ⟩:∃ Q:Ending→World→Prop,Q=NewR w ts:=⟨_,rfl⟩
 have HQ:Hid (∀ e w',NewR w ts e w'→Q e w'):=fun e w' h=>by rw[hQ];exact h
 rw[← hQ]
 clear hT hQ
 go_enter Tryz.func13,Tryz.ntmps13
 go_wp2_with fail
 refine jp.mono ?_
 rintro e w1 ⟨hb1,⟨hc,rfl⟩ | ⟨hc,T,items,n,b,vi,mp,vt,kT,hsz,hts,hN,rfl⟩⟩
 ·have hne:(((chkE ts:Nat):Int) != 0)=true:=by simp;omega
  have HC:Hid _:=hc
  have HB1:Hid _:=hb1
  clear jp hc hb1 hmm
  generalize hE:chkE ts=E at *
  have HE:Hid _:=hE
  clear hE
  go_wp2
  exact HQ.out _ _ ⟨qe HB1.out (qe (qd _ _) (qd _ _)),Or.inl ⟨by rw[HE.out];exact HC.out,by rw[HE.out];rfl⟩⟩
 ·obtain ⟨ai,ci,rfl⟩:=qt hN.r.ri
  obtain ⟨at',ct,rfl⟩:=qt hN.r.rt
  obtain ⟨W,hW,hbW,F,hO,hF,hV⟩:=qc3 kT hsz hb1 hN (.cells #[.slice ai items.length ci,.map (some mp),.slice at' (noTx items.length).length ct] 76)
  have jc:=q5k kT hO hN.k.rep _ _ hV
  have HW:Hid _:=hW
  have HBW:Hid _:=hbW
  have HF:Hid _:=hF
  have HV:Hid _:=hV
  have HC:Hid _:=hc
  have HTS:Hid _:=hts
  have HKT:Hid _:=kT
  clear jp hc hb1 hN hts hW hbW hF hV hO kT hsz
  go_wp2_with fail
  rw[← HW.out]
  refine jc.mono ?_
  rintro e w6 (⟨rfl,L,M',q,d,F',i',hs,hO,hU,hnE,_,fr⟩ | ⟨rfl,hs,F',fr⟩)
  ·have hge:∀ k,F k∨k=W.heap.size→w.heap.size≤k:=fun k hk=>by
    rcases hk with hk | hk
    ·exact HF.out k hk
    ·have:=HBW.out.size;omega
   have hb6:Below w.heap.size w w6:=HBW.out.trans (fr.below hge HBW.out.size)
   have hl0:=(Array.getElem?_eq_some_iff.1 HV.out.h0).1
   have hc0:w6.cell? ⟨w1.heap.size+1+1+1+1,0,none⟩=some (.pointer (some ⟨w1.heap.size+1+1+1,0,none⟩)):=qb ((fr.keep _ hl0 (fun e=>by rcases e with e | e;exact HV.out.n0 e;omega)).trans HV.out.h0) 0
   have HE:Hid (Q (.returned (.tuple #[pgV (w1.heap.size+1+1+1),.int .i64 0])) w6):=HQ.out _ _ ⟨hb6,Or.inr ⟨T,HKT.out,HTS.out,HC.out,Or.inr ⟨L,M',_,F',q,d,i',hs,rfl,hO,hU,fr.ge hge HBW.out.size⟩⟩⟩
   clear jc hs hO hU hnE fr hge hb6 hl0
   unfold pgV at HE
   go_wp2
   exact HE.out
  ·have hge:∀ k,F k∨k=W.heap.size→w.heap.size≤k:=fun k hk=>by
    rcases hk with hk | hk
    ·exact HF.out k hk
    ·have:=HBW.out.size;omega
   have hb6:Below w.heap.size w w6:=HBW.out.trans (fr.below hge HBW.out.size)
   have HE:Hid (Q (.returned (.tuple #[.pointer none,.int .i64 9])) w6):=HQ.out _ _ ⟨hb6,Or.inr ⟨T,HKT.out,HTS.out,HC.out,Or.inl ⟨hs,rfl⟩⟩⟩
   clear jc hs fr hge hb6
   go_wp2
   exact HE.out
theorem PtN.at{w1 W:World}{B b:Nat}{vi:Value}{mp:Nat}{vt:Value}{T:Tr}{items:List It}{n g:Nat}(kT:KT T)(hsz:T.size≤2048)(h:PtN w1 B b vi mp vt T items n)(hb:Below w1.heap.size w1 W)(hg:W.heap[g]? = some (.cells #[vi,.map (some mp),vt] 76 (0,0))) :
  PtO T W (FP g mp vi vt) g 76 [] items:=by
 have hR:PtR W g 76 [] vi mp vt items (noTx items.length) items.length (posI items) :=
  ⟨Or.inl rfl,hg,q1r h.r.ri hb,q1r h.r.rt hb,h.r.num.far (hb.block mp h.r.num.lt)⟩
 refine ⟨⟨kT,hsz⟩,h.k.low,h.k.cov,noTx items.length,⟨h.k.nd,by simp[noTx],by have:=h.k.few;omega,h.ok,fun s hs=>?_,vi,mp,vt,hR,fun k=>Iff.rfl⟩,fun j S hr=>Or.inl ?_⟩
 ·have:=List.eq_of_mem_replicate hs
  subst this
  unfold SOk
  decide
 ·unfold noTx
  rw[List.getElem?_replicate,if_pos hr.lt]
theorem q6z(a:Option Addr)(len cap:Nat)(ts:List Tk)(w:World)(hT:TkSl w a len cap ts) :
  Calls Tryz.prog 17 #[.slice a len cap] w fun e w'=>Below w.heap.size w w' ∧
   ((chkE ts≠0∧e=.returned (.tuple #[.bool false,.int .i64 (chkE ts:Int)]))∨∃ T b,KT T∧ts=T.flat∧chkE ts=0∧e=.returned (.tuple #[.bool b,.int .i64 0])∧(b=true↔(semTr [] T).1 0)):=by
 have jp:=q2H a len cap ts w hT
 obtain ⟨Q,hQ⟩:∃ Q:Ending→World→Prop,Q=fun e w'=>Below w.heap.size w w'∧((chkE ts≠0∧e=.returned (.tuple #[.bool false,.int .i64 (chkE ts:Int)]))∨∃ T b,KT T∧ts=T.flat∧chkE ts=0∧e=.returned (.tuple #[.bool b,.int .i64 0])∧(b=true↔(semTr [] T).1 0)):=⟨_,rfl⟩
 have HQ:Hid (∀ e w',Below w.heap.size w w'→((chkE ts≠0∧e=.returned (.tuple #[.bool false,.int .i64 (chkE ts:Int)]))∨∃ T b,KT T∧ts=T.flat∧chkE ts=0∧e=.returned (.tuple #[.bool b,.int .i64 0])∧(b=true↔(semTr [] T).1 0))→Q e w'):=fun e w' h1 h2=>by rw[hQ];exact ⟨h1,h2⟩
 rw[← hQ]
 clear hT hQ
 go_enter Tryz.func17,Tryz.ntmps17
 go_wp2_with fail
 refine jp.mono ?_
 rintro e w1 ⟨hb1,⟨hc,rfl⟩ | ⟨hc,T,items,n,b,vi,mp,vt,kT,hsz,hts,hN,rfl⟩⟩
 ·have hne:(((chkE ts:Nat):Int) != 0)=true:=by simp;omega
  have HC:Hid _:=hc
  have HB1:Hid _:=hb1
  clear jp hc hb1
  generalize hE:chkE ts=E at *
  have HE:Hid _:=hE
  clear hE
  go_wp2
  exact HQ.out _ _ (qe HB1.out (qd _ _)) (Or.inl ⟨HC.out,rfl⟩)
 ·obtain ⟨ai,ci,rfl⟩:=qt hN.r.ri
  obtain ⟨at',ct,rfl⟩:=qt hN.r.rt
  have hbn:=qd w1 (.cells #[.slice ai items.length ci,.map (some mp),.slice at' (noTx items.length).length ct] 76)
  have hO:=hN.at kT hsz hbn (MapKept.heap_alloc w1 _).1
  have je:=q3v hO
  have hfew:items.length≤2048:=hN.k.few
  have hlt:=hN.k.rep.lt
  have HREP:Hid _:=hN.k.rep
  have HEB:Hid (endB T=true↔(semTr [] T).1 0):=(qF T).1 kT
  have HB1:Hid _:=qe hb1 hbn
  have HC:Hid _:=hc
  have HTS:Hid _:=hts
  have HKT:Hid _:=kT
  have hz:(w1.alloc (.cells #[.slice ai items.length ci,.map (some mp),.slice at' (noTx items.length).length ct] 76)).heap.size=w1.heap.size+1:=by simp
  rw[hz]at je
  clear jp hc hb1 hN hts hbn hO kT hsz hz
  generalize hil:items.length=il at *
  have HIL:Hid _:=hil
  clear hil
  go_wp2_with fail
  refine je.mono ?_
  rintro e w2 ⟨rfl,⟨bs,hEL,hEb⟩,hb2⟩
  have hbn:=hEL.all n T HREP.out
  have hcb:=hEb.cell hbn
  have hix:=fun w'=>q26 (w1.heap.size+1) il n hlt w'
  have HB2:Hid (Below w.heap.size w w2):=HB1.out.trans (hb2.mono (by have:=HB1.out.size;simp at this;omega))
  clear je hEL hEb hb2 hbn
  generalize endB T=v at *
  go_wp2
  exact HQ.out _ _ HB2.out (Or.inr ⟨T,v,HKT.out,HTS.out,HC.out,rfl,HEB.out⟩)
def HeldN (M:Mt) (k h:Nat):Prop:=h<2 ^ k∧∀ j,h.testBit j=true↔j<k∧SatM [] M 0 j
theorem qb5(M:Mt):HeldN M 0 0:=⟨by decide,fun j=>by simp⟩
theorem qbR{M:Mt}{k h:Nat}(hh:HeldN M k h)(hs:SatM [] M 0 k):HeldN M (k+1) (h ||| 2 ^ k):=by
 refine ⟨Nat.or_lt_two_pow (Nat.lt_of_lt_of_le hh.1 (Nat.pow_le_pow_right (by decide) (by omega))) (Nat.pow_lt_pow_right (by decide) (by omega)),fun j=>?_⟩
 rw[Nat.testBit_or,Bool.or_eq_true,hh.2 j,Nat.testBit_two_pow]
 constructor
 ·rintro (⟨h1,h2⟩ | h1)
  ·exact ⟨by omega,h2⟩
  ·have:k=j:=by simpa using h1
   subst this
   exact ⟨by omega,hs⟩
 ·rintro ⟨h1,h2⟩
  by_cases e:j<k
  ·exact Or.inl ⟨e,h2⟩
  ·have:k=j:=by omega
   exact Or.inr (by simpa using this)
theorem qcC{M:Mt}{k h:Nat}(hh:HeldN M k h)(hs:¬ SatM [] M 0 k):HeldN M (k+1) h:=by
 refine ⟨Nat.lt_of_lt_of_le hh.1 (Nat.pow_le_pow_right (by decide) (by omega)),fun j=>?_⟩
 rw[hh.2 j]
 constructor
 ·rintro ⟨h1,h2⟩
  exact ⟨by omega,h2⟩
 ·rintro ⟨h1,h2⟩
  by_cases e:j<k
  ·exact ⟨e,h2⟩
  ·have:j=k:=by omega
   subst this
   exact absurd h2 hs
theorem qbQ{M:Mt}{h:Nat}{l:List Nat}(hh:HeldN M M.length h):hoB l h=true↔FinP M l:=by
 show decide (HoP l h)=true↔_
 rw[decide_eq_true_iff]
 unfold FinP LsP HoP
 constructor
 ·rintro ⟨s,hs,hw⟩
  exact ⟨s,hs,fun k hk=>((hh.2 k).1 (q1U.1 hw k hk)).2⟩
 ·rintro ⟨s,hs,hw⟩
  refine ⟨s,hs,q1U.2 fun k hk=>(hh.2 k).2 ⟨?_,hw k hk⟩⟩
  obtain ⟨T,_,h2,_⟩:=hw k hk
  exact (List.getElem?_eq_some_iff.1 h2).1
theorem PgR.metAt{T0:Tr}{w w2:World}{G:Nat→Prop}{p mn:Nat}{va:Option Addr}{m vc:Nat}{vs:Value}{items:List It}{met:List Nat}{M:Mt}(h:PgR T0 w G p mn (.slice va m vc) vs items met M)(hof:∀ f∈M,∃ S,KT S∧InC T0 S∧f=S.flat)(hb:Below w.heap.size w w2)(k:Nat)(hk:k<m)(hm:met.length=m):∃ g o j S,(∀ w',(Instr.indexAt 80 (.slice va m vc) (.int .i64 (k:Int))).run Tryz.prog w'=.ok (.pointer (some ⟨g,o,none⟩)) w')∧w2.cell? ⟨g,o,none⟩=some (.int .i64 ((j:Nat):Int))∧Rep items j S∧KT S∧M[k]? = some S.flat:=by
 have hkm:k<met.length:=by omega
 obtain ⟨S,hrep,hMk⟩:=h.met.2 k met[k] (List.getElem?_eq_getElem hkm)
 obtain ⟨S2,k2,i2,e2⟩:=hof S.flat (List.mem_of_getElem? hMk)
 have hw:S.WF:=by
  obtain ⟨S3,h3,h4⟩:=h.po.cov _ hrep.lt
  have:=Rep.tree hrep h3
  subst this
  rcases q2o h.po.t0.kt h4 with q | q <;> exact q.wf
 have e:=q5t hw k2.wf e2
 subst e
 rcases (q1r h.row hb).2 with ⟨e,e0⟩ | ⟨g,cap,cur,e,_,hcell,hnc,hcm,hsz,htk⟩
 ·omega
 ·injection e with e1 e2 e3
  subst e1 e3
  refine ⟨g,k,met[k],S,fun w'=>?_,?_,hrep,k2,hMk⟩
  ·simp[Instr.indexAt,run_underlying Tryz.underlying80,asIntOf,qu (show (Tryz.prog.info? 3).map (·.size)=some 1 by kernel_rfl),hk,Result.andThen,go_sem,qj]
  ·rw[qb hcell k]
   have:cur.toList[k]? = (encM met)[k]? := by rw[← htk,List.getElem?_take,if_pos (by omega)]
   rw[← Array.getElem?_toList,this]
   simp[encM,hkm]
theorem q3b{T0:Tr}{p:Nat}{vs:Value}{w:World}{F:Nat→Prop}{items:List It}{M:Mt}(h:PgO T0 w F p vs items M)(a:Option Addr)(c:Nat)(l:List Nat)(hU:USl w a l.length c l)(sm:Sm l) :
  Calls Tryz.prog 18 #[.pointer (some ⟨p,0,none⟩),.slice a l.length c] w fun e w'=>(∃ b,e=.returned (.bool b)∧(b=true↔FinP M l))∧Below w.heap.size w w':=by
 have jm:=q1n h
 obtain ⟨G,mn,vm,met,hr,hF⟩:=h.ex
 have je:=q3v hr.po
 have c5:=hr.c5
 obtain ⟨ma,mc,rfl⟩:=qt hr.row
 have hml:met.length=M.length:=hr.met.1
 have hfew:M.length≤64:=h.few
 have hm64:met.length≤64:=by omega
 have HH:Hid _:=h
 have HR:Hid _:=hr
 have HU:Hid _:=hU
 have HSM:Hid (Sm l):=sm
 have HML:Hid (met.length=M.length):=hml
 have HC5:Hid _:=c5
 clear h hr hF hU sm hml c5
 generalize hmm:met.length=m at *
 have HM:Hid (met.length=m):=hmm
 clear hmm
 generalize hil0:items.length=il at *
 have HIL:Hid (items.length=il):=hil0
 clear hil0
 generalize hn0:l.length=n at *
 have HNN:Hid (l.length=n):=hn0
 clear hn0
 go_enter Tryz.func18,Tryz.ntmps18
 go_wp2_with fail
 refine jm.mono ?_
 rintro e w1 ⟨rfl,hw1⟩
 obtain rfl:=hw1.symm
 clear jm
 go_wp2_with fail
 refine je.mono ?_
 rintro e w2 ⟨rfl,⟨bs,hEL,hEb⟩,hb2⟩
 have c5:w2.cell? ⟨p,5,none⟩=some (.slice ma m mc):=qA HC5.out hb2
 have HEL:Hid (EndL items bs):=hEL
 have HEB:Hid (EbAt w2 w.heap.size bs):=hEb
 have HB2:Hid (Below w.heap.size w w2):=hb2
 clear je hEL hEb hb2
 go_wp2
 go_loopw [6,21] (fun v i wr=>∃ (k hd:Nat),k≤m∧i=.int .i64 (k:Int)∧v=.int .u64 (hd:Int)∧wr=w2∧Hid (HeldN M k hd)) (fun _ i _=>m - (intOf i).toNat)
 case atStart=>exact ⟨0,0,Nat.zero_le _,rfl,rfl,rfl,qb5 M⟩
 case round =>
  clear c5
  obtain ⟨k,hd,hk,rfl,rfl,rfl,HHD⟩:=hrel
  by_cases hlt:k<m
  ·obtain ⟨g,o,j,S,hidx,hcj,hrep,kS,hMk⟩:=HR.out.metAt HH.out.of HB2.out k hlt HM.out
   have hbj:=HEL.out.all j S hrep
   have hjl:j<bs.length:=(List.getElem?_eq_some_iff.1 hbj).1
   have hil:bs.length=items.length:=HEL.out.len
   have hcb:=HEB.out.cell hbj
   have hsat:SatM [] M 0 k↔endB S=true:=(q37 kS hMk).trans ((qF S).1 kS).symm
   have hix:=fun w'=>q26 w.heap.size il j (by have:=HIL.out;omega) w'
   have HE:Hid (bits BinOp.or IntKind.u64 (hd:Int) (IntKind.u64.wrap (2 ^ k))=((hd ||| 2 ^ k:Nat):Int)):=by
    have h1:(2:Nat) ^ k<2 ^ 64:=Nat.pow_lt_pow_right (by decide) (by omega)
    have h2:hd<2 ^ 64:=Nat.lt_of_lt_of_le HHD.out.1 (Nat.pow_le_pow_right (by decide) (by omega))
    have e3:IntKind.u64.wrap (2 ^ k)=((2 ^ k:Nat):Int):=by
     rw[IntKind.wrap_u64,show ((2:Int) ^ k)=((2 ^ k:Nat):Int) by simp]
     generalize 2 ^ k=y at h1 ⊢
     omega
    show _=_
    rw[e3]
    exact u64_or_nat _ _ h2 h1
   cases hv:endB S with
   | true =>
    rw[hv]at hcb hsat
    have HN:Hid (HeldN M (k+1) (hd ||| 2 ^ k)):=qbR HHD.out (hsat.2 rfl)
    clear hsat HHD hrep kS hMk hbj hjl hil hv
    have hmin:min k 64=k:=by omega
    go_wp2
    go_roundw
    case rel=>exact ⟨k+1,hd ||| 2 ^ k,by omega,by go_num,congrArg (Value.int .u64) HE.out,by first | trivial | rfl,HN⟩
    case measure=>simp[intOf] <;> omega
   | false =>
    rw[hv]at hcb hsat
    have HN:Hid (HeldN M (k+1) hd):=qcC HHD.out (fun e=>by have:=hsat.1 e;cases this)
    clear hsat HHD hrep kS hMk hbj hjl hil hv HE
    go_wp2
    go_roundw
    case rel=>exact ⟨k+1,hd,by omega,by go_num,rfl,by first | trivial | rfl,HN⟩
    case measure=>simp[intOf] <;> omega
  ·obtain rfl:k=m:=by omega
   have hdm:HeldN M M.length hd:=by have:=HHD.out;rw[show k=M.length by have:=HML.out;omega]at this;exact this
   have h2:hd<2 ^ 64:=Nat.lt_of_lt_of_le hdm.1 (Nat.pow_le_pow_right (by decide) (by omega))
   have jh:=q1m a l.length c l hd wr ((show USl w a l.length c l by rw[HNN.out];exact HU.out).up HB2.out) HSM.out h2
   rw[HNN.out]at jh
   have HFI:Hid (hoB l hd=true↔FinP M l):=qbQ hdm
   clear HHD hdm h2
   go_wp2_with fail
   refine jh.mono ?_
   rintro e w4 ⟨rfl,hb4⟩
   have HB4:Hid (Below w.heap.size w w4):=qe HB2.out hb4
   clear jh hb4
   generalize hoB l hd=bb at *
   go_wp2
   go_ret
   exact ⟨⟨bb,rfl,HFI.out⟩,HB4.out⟩
structure PrgAt (w:World) (F:Nat→Prop) (p:Nat) (l0:List Nat) (M:Mt) (T0:Tr) (q:Option Addr) (d:Nat) (items:List It):Prop where
 o:PgO T0 w F p (.slice q l0.length d) items M
 u:US w F q l0.length d l0
 l:LstH l0
 g:¬ F tabG
theorem qaT{w w':World}{F:Nat→Prop}{l:List Nat}{e:Ending}(hF:∀ k,F k→k<w.heap.size)(h:CloU l w e w'):Below w.heap.size w w'∧∃ a c,e=.returned (.slice a l.length c)∧US w' F a l.length c l:=by
 refine ⟨h.1,?_⟩
 rcases h.2 with ⟨rfl,p,rfl⟩ | ⟨G,t,_,rfl,hS,h1,h2⟩
 ·exact ⟨p,0,rfl,⟨⟨rfl,Nat.le_refl _,Nat.zero_le _,fun m k w hk hm=>absurd hk (by simp at hm;omega),fun k hk=>absurd hk (by simp),fun k hk=>absurd hk (by simp),fun _=>rfl⟩,fun k hk=>absurd hk (by simp)⟩⟩
 ·refine ⟨_,G,rfl,hS.usl rfl rfl h1 h2,fun k hk e=>?_⟩
  have:=hF _ e
  simp[adOf,qj]at this
  omega
theorem q9d{k:Nat}(hk:k<64):IntKind.u64.wrap (2 ^ k)=((2 ^ k:Nat):Int):=by
 have:(2:Nat) ^ k<2 ^ 64:=Nat.pow_lt_pow_right (by decide) hk
 rw[IntKind.wrap_u64,show ((2:Int) ^ k)=((2 ^ k:Nat):Int) by simp]
 generalize 2 ^ k=y at this ⊢
 omega
theorem q2f(k:Nat)(hk:k<64)(w:World):Calls Tryz.prog 119 #[.int .i64 (k:Int)] w fun e w'=>e=.returned (.slice (some ⟨w.heap.size,0,none⟩) 1 1)∧w'=w.alloc (.cells #[.int .u64 ((2 ^ k:Nat):Int)] 52):=by
 have hmin:min k 64=k:=by omega
 have HP:Hid _:=q9d hk
 go_enter Tryz.func119,Tryz.ntmps119
 go_wp2
 rw[HP.out]
 go_ret
 exact ⟨rfl,rfl⟩
noncomputable def ahE (ts:List Tk) (zs:List Int):Int:=if chkE ts≠0 then (chkE ts:Int) else trE zs
theorem q5L(a:Option Addr)(len cap:Nat)(ts:List Tk)(d:Option Addr)(m c:Nat)(zs:List Int)(w:World)(hT:TkSl w a len cap ts)(hL:LtSl w d m c zs) :
  Calls Tryz.prog 86 #[.slice a len cap,.slice d m c] w fun e w'=>e=.returned (.int .i64 (ahE ts zs))∧Below w.heap.size w w':=by
 have je:=q6z a len cap ts w hT
 have HL:Hid _:=hL
 obtain ⟨E,hE⟩:∃ E,E=ahE ts zs:=⟨_,rfl⟩
 rw[← hE]
 have HE:Hid _:=hE
 clear hT hL hE
 go_enter Tryz.func86,Tryz.ntmps86
 go_wp2_with fail
 refine je.mono ?_
 rintro e w1 ⟨hb1,⟨hc,rfl⟩ | ⟨T,b,kT,hts,hc,rfl,_⟩⟩
 ·have e1:E=(chkE ts:Int):=by rw[HE.out];unfold ahE;rw[if_pos hc]
  have hne:(((chkE ts:Nat):Int) != 0)=true:=by simp;omega
  have HB1:Hid _:=hb1
  rw[← e1]at hne ⊢
  clear je hc hb1 HE e1
  go_wp2
  go_ret
  exact ⟨rfl,HB1.out⟩
 ·have e1:E=trE zs:=by rw[HE.out];unfold ahE;rw[if_neg (by omega)]
  have jt:=q5T d m c zs w1 (HL.out.up hb1)
  have HB1:Hid _:=hb1
  rw[← e1]at jt
  clear je hc hb1 HE hts kT e1
  go_wp2_with fail
  refine jt.mono ?_
  rintro e w2 ⟨rfl,hb2⟩
  have HB2:Hid _:=qe HB1.out hb2
  clear jt hb2
  go_wp2
  go_ret
  exact ⟨rfl,HB2.out⟩
theorem US.same{w w':World}{F:Nat→Prop}{a:Option Addr}{n c:Nat}{l:List Nat}(h:US w F a n c l)(hs:w.heap.size≤w'.heap.size)(hk:∀ k,k<n→w'.heap[(adOf a k).block]? = w.heap[(adOf a k).block]?){F':Nat→Prop}(hF:∀ k,k<n→¬ F' (adOf a k).block):US w' F' a n c l:=by
 have s:=h.sl
 refine ⟨⟨s.hlen,s.hcap,s.bd,s.idx,fun k hk2=>?_,fun k hk2=>Nat.lt_of_lt_of_le (s.blk k hk2) hs,s.nn⟩,hF⟩
 have:=s.cell k hk2
 unfold World.cell? at this ⊢
 rw[hk k hk2];exact this
theorem PrgAt.far{w w':World}{F:Nat→Prop}{p:Nat}{l0:List Nat}{M:Mt}{T0:Tr}{q:Option Addr}{d:Nat}{items:List It}(h:PrgAt w F p l0 M T0 q d items)(hs:w.heap.size≤w'.heap.size)(hF:∀ k,F k→w'.heap[k]? = w.heap[k]?)(hS:∀ k,k<l0.length→w'.heap[(adOf q k).block]? = w.heap[(adOf q k).block]?):PrgAt w' F p l0 M T0 q d items :=
 ⟨h.o.far hF,h.u.same hs hS h.u.nf,h.l,h.g⟩
def pcV (r:PcU):Value:=.slice r.a r.len r.cap
def vAt (vs:List Value) (x:Nat):Value:=vs.getD x (.slice none 0 0)
def clA (p:Nat) (vs:List Value):Array Value:=(Value.pointer (some ⟨p,0,none⟩)::vs).toArray
structure LfU (w:World) (F:Nat→Prop) (c:Nat) (vs:List Value) (r:PcU):Prop where
 us:US w F r.a r.len r.cap r.ts
 ap:∀ k,k<r.len→(adOf r.a k).block≠c∧∀ y,y<256→(vAt vs y).ownBlock≠some (adOf r.a k).block
structure ClO (T0:Tr) (q:Option Addr) (d:Nat) (w:World) (F:Nat→Prop) (c p:Nat) (l0:List Nat) (M:Mt) (vs:List Value) (Ls:Nat→List PcU):Prop where
 prg:∃ items,PrgAt w F p l0 M T0 q d items
 blk:w.heap[c]? = some (.cells (clA p vs) 100 (0,0))
 vl:vs.length=256
 row:∀ x,x<256→w.ownsRow (c+1) 33 1 (vAt vs x) (Ls x).length ((Ls x).map pcV)
 dis:∀ x y k,x<256→y<256→x≠y→(vAt vs x).ownBlock=some k→(vAt vs y).ownBlock≠some k
 sb:∀ k,k<l0.length→(adOf q k).block<c
 nc:∀ k,F k→k≠c∧∀ x,x<256→(vAt vs x).ownBlock≠some k
 lst:∀ x,x<256→∀ r∈Ls x,LfU w F c vs r
 dn:∀ x,x<256→∀ (k:Nat) (r:PcU),(Ls x)[k]? = some r→k<M.length∧∀ M2,M <+: M2→stepM fuelN x [2 ^ k] [] M2=some (r.ts,M2)
section
variable {T0:Tr} {q:Option Addr} {d:Nat} {w w':World} {F F':Nat→Prop} {c p:Nat} {l0:List Nat} {M M':Mt} {vs:List Value} {Ls:Nat→List PcU}
theorem ClO.clt(h:ClO T0 q d w F c p l0 M vs Ls):c<w.heap.size:=(Array.getElem?_eq_some_iff.1 h.blk).1
theorem ClO.c0(h:ClO T0 q d w F c p l0 M vs Ls):w.cell? ⟨c,0,none⟩=some (.pointer (some ⟨p,0,none⟩)):=qb h.blk 0
theorem ClO.cx(h:ClO T0 q d w F c p l0 M vs Ls){x:Nat}(hx:x<256):w.cell? ⟨c,1+x,none⟩=some (vAt vs x):=by
 rw[qb h.blk (1+x)]
 have hl:x<vs.length:=by rw[h.vl];exact hx
 simp[clA,vAt,Nat.add_comm 1 x,List.getElem?_eq_getElem hl]
theorem ClO.rlt(h:ClO T0 q d w F c p l0 M vs Ls){x k:Nat}(hx:x<256)(hk:(vAt vs x).ownBlock=some k):k<w.heap.size:=qN (h.row x hx) k hk
theorem ClO.rge(h:ClO T0 q d w F c p l0 M vs Ls){x k:Nat}(hx:x<256)(hk:(vAt vs x).ownBlock=some k):c+1≤k:=q36 (h.row x hx) k hk
theorem ClO.fr(h:ClO T0 q d w F c p l0 M vs Ls)(hP:∃ items,PrgAt w' F' p l0 M' T0 q d items)(fr:Fr w w' F F')(hM:M <+: M'):ClO T0 q d w' F' c p l0 M' vs Ls:=by
 have hnc:¬ F c:=fun e=>(h.nc c e).1 rfl
 refine ⟨hP,(fr.keep c h.clt hnc).trans h.blk,h.vl,fun x hx=>qp (h.row x hx) fun k hk=>fr.keep k (h.rlt hx hk) (fun e=>(h.nc k e).2 x hx hk),h.dis,h.sb,fun k hk=>?_,fun x hx r hr=>⟨(h.lst x hx r hr).us.fr fr,(h.lst x hx r hr).ap⟩,fun x hx k r hr=>?_⟩
 ·rcases fr.foot k hk with e | e
  ·exact h.nc k e
  ·have:=h.clt
   exact ⟨by omega,fun x hx e2=>by have:=h.rlt hx e2;omega⟩
 ·obtain ⟨h1,h2⟩:=h.dn x hx k r hr
  exact ⟨Nat.lt_of_lt_of_le h1 hM.length_le,fun M2 h3=>h2 M2 (hM.trans h3)⟩
theorem ClO.up(h:ClO T0 q d w F c p l0 M vs Ls)(hb:Below w.heap.size w w'):ClO T0 q d w' F c p l0 M vs Ls:=by
 obtain ⟨items,hp⟩:=h.prg
 exact h.fr ⟨items,hp.o.up hb,hp.u.up hb,hp.l,hp.g⟩ (Fr.ofBelow hb) (List.prefix_refl _)
end
def addL (Ls:Nat→List PcU) (x:Nat) (r:PcU) (y:Nat):List PcU:=if y=x then Ls y++[r] else Ls y
theorem q3L(vs:List Value)(x y:Nat)(v:Value)(hx:x<vs.length):vAt (vs.set x v) y=if y=x then v else vAt vs y:=by
 unfold vAt
 by_cases e:y=x
 ·subst e;simp[hx]
 ·have e2:¬ x=y:=fun h=>e h.symm
  simp[e,e2]
theorem ClO.put{T0:Tr}{q:Option Addr}{d:Nat}{w w5:World}{F:Nat→Prop}{c p:Nat}{l0:List Nat}{M:Mt}{vs:List Value}{Ls:Nat→List PcU}{o:Obj}{v':Value}{x:Nat}{r:PcU}(h:ClO T0 q d w F c p l0 M vs Ls)(hx:x<256)
  (hg:(w.alloc o).drew.grownBy w5 (vAt vs x).ownBlock) (ho:w5.ownsRow (c+1) 33 1 v' ((Ls x).length+1) ((Ls x).map pcV++[pcV r])) (hl:v'.ownBlock=(vAt vs x).ownBlock∨v'.ownBlock=some (w.heap.size+1))
  (hr:LfU w F c vs r) (hd:(Ls x).length<M.length∧∀ M2,M <+: M2→stepM fuelN x [2 ^ (Ls x).length] [] M2=some (r.ts,M2)) :
  w5.cell? ⟨c,1+x,none⟩=some (vAt vs x)∧w5.frozen? ⟨c,1+x,none⟩=false∧ClO T0 q d (w5.setCell ⟨c,1+x,none⟩ v') F c p l0 M (vs.set x v') (addL Ls x r)∧Below c w (w5.setCell ⟨c,1+x,none⟩ v'):=by
 have hb1:=qd w o
 have hz:(w.alloc o).drew.heap.size=w.heap.size+1:=by simp
 have hs:=hg.size
 have hclt:=h.clt
 have st:∀ k,k<w.heap.size→(vAt vs x).ownBlock≠some k→w5.heap[k]? = w.heap[k]? := fun k hk hne=>(hg.block k (by omega) (fun e=>hne e.symm)).trans (hb1.block k hk)
 have hcb:(vAt vs x).ownBlock≠some c:=fun e=>by have:=h.rge hx e;omega
 have hb5:=(st c hclt hcb).trans h.blk
 have hxl:x<vs.length:=by rw[h.vl];exact hx
 have hvc:v'.ownBlock≠some c:=fun e=>by
  rcases hl with e2 | e2
  ·rw[e2]at e;exact hcb e
  ·rw[e2]at e;injection e with e;omega
 have s6:∀ k,k≠c→(w5.setCell ⟨c,1+x,none⟩ v').heap[k]? = w5.heap[k]? := fun k hk=>Below.heap_setCell _ _ _ _ hk
 have all:∀ k,k<w.heap.size→k≠c→(vAt vs x).ownBlock≠some k→(w5.setCell ⟨c,1+x,none⟩ v').heap[k]? = w.heap[k]? := fun k h1 h2 h3=>(s6 k h2).trans (st k h1 h3)
 have hsz:w.heap.size≤(w5.setCell ⟨c,1+x,none⟩ v').heap.size:=by simp;omega
 have hv':∀ k,v'.ownBlock=some k→(vAt vs x).ownBlock=some k∨w.heap.size≤k:=fun k hk=>by
  rcases hl with e | e
  ·rw[e]at hk;exact Or.inl hk
  ·rw[e]at hk;injection hk with hk;right;omega
 obtain ⟨items,hp⟩:=h.prg
 have hplt:=hp.o.lt
 refine ⟨?_,frozen_of_row w5 c _ _ _ hb5,⟨⟨items,hp.far hsz (fun k hk=>all k (hplt k hk) (h.nc k hk).1 ((h.nc k hk).2 x hx)) (fun k hk=>?_)⟩,?_,by simp[h.vl],fun y hy=>?_,fun y z k hy hz2 hne hk=>?_,h.sb,fun k hk=>⟨(h.nc k hk).1,fun y hy=>?_⟩,fun y hy r2 hr2=>?_,fun y hy k r2 hr2=>?_⟩,?_⟩
 ·have:=h.cx hx
  unfold World.cell? at this ⊢
  rw[st c hclt hcb];exact this
 ·have h1:=h.sb k hk
  exact all _ (by omega) (by omega) (fun e=>by have:=h.rge hx e;omega)
 ·rw[heap_setCell_same w5 c (1+x) _ _ _ hb5]
  congr 2
  unfold clA
  rw[Nat.add_comm 1 x]
  simp
 ·unfold addL
  rw[q3L vs x y v' hxl]
  by_cases e:y=x
  ·subst e
   rw[if_pos rfl,if_pos rfl,List.map_append,List.length_append]
   exact qp ho fun k hk=>s6 k (fun e=>hvc (e ▸ hk))
  ·rw[if_neg e,if_neg e]
   exact qp (h.row y hy) fun k hk=>all k (h.rlt hy hk) (fun e2=>by have:=h.rge hy hk;omega) (h.dis y x k hy hx e hk)
 ·rw[q3L vs x y v' hxl]at hk
  rw[q3L vs x z v' hxl]
  by_cases ey:y=x
  ·subst ey
   rw[if_pos rfl]at hk
   rw[if_neg (fun e=>hne e.symm)]
   intro e2
   rcases hv' k hk with e3 | e3
   ·exact h.dis y z k hy hz2 hne e3 e2
   ·have:=h.rlt hz2 e2;omega
  ·rw[if_neg ey]at hk
   by_cases ez:z=x
   ·subst ez
    rw[if_pos rfl]
    intro e2
    rcases hv' k e2 with e3 | e3
    ·exact h.dis y z k hy hz2 hne hk e3
    ·have:=h.rlt hy hk;omega
   ·rw[if_neg ez];exact h.dis y z k hy hz2 hne hk
 ·rw[q3L vs x y v' hxl]
  by_cases e:y=x
  ·subst e
   rw[if_pos rfl]
   intro e2
   rcases hv' k e2 with e3 | e3
   ·exact (h.nc k hk).2 y hy e3
   ·have:=hplt k hk;omega
  ·rw[if_neg e];exact (h.nc k hk).2 y hy
 ·have key:∀ r2,LfU w F c vs r2→LfU (w5.setCell ⟨c,1+x,none⟩ v') F c (vs.set x v') r2:=fun r2 hr2=>by
   refine ⟨hr2.us.same hsz (fun k hk=>all _ (hr2.us.sl.blk k hk) (hr2.ap k hk).1 ((hr2.ap k hk).2 x hx)) hr2.us.nf,fun k hk=>⟨(hr2.ap k hk).1,fun z hz2=>?_⟩⟩
   rw[q3L vs x z v' hxl]
   by_cases e:z=x
   ·rw[if_pos e]
    intro e2
    rcases hv' _ e2 with e3 | e3
    ·exact (hr2.ap k hk).2 x hx e3
    ·have:=hr2.us.sl.blk k hk;omega
   ·rw[if_neg e];exact (hr2.ap k hk).2 z hz2
  unfold addL at hr2
  by_cases e:y=x
  ·rw[if_pos e]at hr2
   rcases List.mem_append.1 hr2 with h1 | h1
   ·exact key r2 (h.lst y hy r2 h1)
   ·have:r2=r:=by simpa using h1
    subst this
    exact key _ hr
  ·rw[if_neg e]at hr2
   exact key r2 (h.lst y hy r2 hr2)
 ·unfold addL at hr2
  by_cases e:y=x
  ·subst e
   rw[if_pos rfl]at hr2
   by_cases hlt:k<(Ls y).length
   ·rw[List.getElem?_append_left hlt]at hr2
    exact h.dn y hy k r2 hr2
   ·have hk2:k=(Ls y).length:=by
     have:=(List.getElem?_eq_some_iff.1 hr2).1
     simp at this
     omega
    subst hk2
    simp at hr2
    subst hr2
    exact hd
  ·rw[if_neg e]at hr2
   exact h.dn y hy k r2 hr2
 ·exact ⟨hg.os,hg.tape,hg.output,hsz,fun k hk=>all k (by omega) (by omega) (fun e=>by have:=h.rge hx e;omega)⟩
theorem q4r:(Tryz.prog.info? 33).map (fun i=>(i.zero,i.size,i.bytes))=some (some (.slice none 0 0),1,24):=by kernel_rfl
theorem q7Z{w:World}{ops:Array Oper}{o:Oper}{a:Act}{K:Act→World→Prop}{Q:Exit→Act→World→Prop}{E:Prop}(hw:Region.wanted o (yielded ops a.tmps)=true)(s x:Operand)
  (ho:o.op=.call { callee:=.builtin .append,args:=#[s,x],argTypes:=#[56,56] }) (base:Nat)
  (v:Value) (n:Nat) (xs:List Value) (y:PcU) (g:Nat) (hs:a.eval s=v) (hx:a.eval x=.slice (some ⟨g,0,none⟩) 1 1) (hown:w.ownsRow base 33 1 v n xs)
  (hB:w.heap[g]? = some (.cells #[pcV y] 33 (0,0))) (hn:n≤1000000) (hbase:base≤w.heap.size)
  (h:∀ v' w',w'.ownsRow base 33 1 v' (n+1) (xs++[pcV y])→w.grownBy w' v.ownBlock→(v'.ownBlock=v.ownBlock∨v'.ownBlock=some w.heap.size)→K (a.put o.dst v') w') :
  if Region.wanted o (yielded ops a.tmps)=true then Oper.wp Tryz.prog o a w K Q else E:=by
 rw[if_pos hw]
 obtain ⟨i,hi,hz0,hz1,hz2⟩:=info_parts q4r
 obtain ⟨v',w',hr,h2,h3,_,h5⟩:=run_append_own_at (P:=Tryz.prog) w base 56 o.type 33 i _ 1 24 Tryz.underlying56 hi hz0 hz1 hz2 rfl (by decide) v n _ hown ⟨g,0,none⟩ 1 1 [pcV y] rfl (fun j u hj=>by
  rw[qj,Nat.zero_add,qb hB]
  match j with
  | 0=>simpa using hj
  | j+1=>simp at hj) (fun u hu=>by simp at hu;subst hu;rfl) (by unfold maxLen;omega) (by omega) hbase
 unfold Oper.wp execOp
 simp only[ho,resolve,invoke,builtin,Sem.run_bind,Sem.run_pure,Result.andThen_ok,List.map_toArray,List.map_cons,List.map_nil,hs,hx,hr]
 exact h v' w' h2 h3 h5
structure ClS (T0:Tr) (q:Option Addr) (d:Nat) (w0 w:World) (F:Nat→Prop) (c p:Nat) (l0:List Nat) (M:Mt) (vs:List Value) (Ls:Nat→List PcU):Prop where
 o:ClO T0 q d w F c p l0 M vs Ls
 ge:∀ k,F k→w0.heap.size≤k
 gc:w0.heap.size≤c
 bel:Below w0.heap.size w0 w
 tab:Tab64 w0
section
variable {T0:Tr} {q:Option Addr} {d:Nat} {w0 w w':World} {F F':Nat→Prop} {c p:Nat} {l0:List Nat} {M M':Mt} {vs:List Value} {Ls:Nat→List PcU}
theorem ClS.up(h:ClS T0 q d w0 w F c p l0 M vs Ls)(hb:Below w.heap.size w w'):ClS T0 q d w0 w' F c p l0 M vs Ls:=⟨h.o.up hb,h.ge,h.gc,qe h.bel hb,h.tab⟩
theorem ClS.fr(h:ClS T0 q d w0 w F c p l0 M vs Ls)(hP:∃ items,PrgAt w' F' p l0 M' T0 q d items)(fr:Fr w w' F F')(hM:M <+: M'):ClS T0 q d w0 w' F' c p l0 M' vs Ls :=
 ⟨h.o.fr hP fr hM,fr.ge h.ge h.bel.size,h.gc,h.bel.trans (fr.below h.ge h.bel.size),h.tab⟩
theorem ClS.good(h:ClS T0 q d w0 w F c p l0 M vs Ls):GoodM M:=by
 obtain ⟨items,hp⟩:=h.o.prg
 exact hp.o.good
end
def oneW (w:World) (k:Nat):World:=w.alloc (.cells #[.int .u64 ((2 ^ k:Nat):Int)] 52)
theorem pow64{k:Nat}(hk:k<64):2 ^ k<2 ^ 64:=Nat.pow_lt_pow_right (by decide) hk
theorem q9c{w:World}{F:Nat→Prop}(hF:∀ k,F k→k<w.heap.size)(k:Nat):US (oneW w k) F (some ⟨w.heap.size,0,none⟩) 1 1 [2 ^ k]:=⟨qL [2 ^ k] w (by simp),fun j hj e=>by
 have:=hF _ e
 simp[adOf,qj]at this⟩
theorem qbB{k:Nat}(hk:k<64):Sm [2 ^ k]:=fun x hx=>by
 have:x=2 ^ k:=by simpa using hx
 subst this
 exact pow64 hk
theorem qcw{k m:Nat}(h:m≤k):¬ BdL [2 ^ k] m:=fun hb=>by
 have:=hb (2 ^ k) (by simp) k (by simp)
 omega
section
variable {T0:Tr} {q:Option Addr} {d:Nat} {w0 w:World} {F:Nat→Prop} {c p:Nat} {l0:List Nat} {M:Mt} {vs:List Value} {Ls:Nat→List PcU}
theorem ClS.flt(h:ClS T0 q d w0 w F c p l0 M vs Ls):∀ k,F k→k<w.heap.size:=by
 obtain ⟨items,hp⟩:=h.o.prg
 exact hp.o.lt
theorem ClS.past(h:ClS T0 q d w0 w F c p l0 M vs Ls){k x:Nat}(hk:k<64)(hm:M.length≤k):Calls Tryz.prog 15 #[.pointer (some ⟨p,0,none⟩),.slice (some ⟨w.heap.size,0,none⟩) 1 1,.int .u8 (x:Int)] (oneW w k) fun e w'=>e=.returned (.tuple #[.slice none 0 0,.int .i64 2])∧ClS T0 q d w0 w' F c p l0 M vs Ls:=by
 have h1:=h.up (qd w (.cells #[.int .u64 ((2 ^ k:Nat):Int)] 52))
 obtain ⟨items,hp⟩:=h1.o.prg
 refine (q6A (x:=x) hp.o _ 1 [2 ^ k] (q9c h.flt k) (qbB hk) (by simp) (qcw hm)).mono ?_
 rintro e w' ⟨rfl,hb⟩
 exact ⟨rfl,h1.up hb⟩
theorem ClS.step(h:ClS T0 q d w0 w F c p l0 M vs Ls){k x:Nat}(hk:k<M.length)(hx:x<256):Calls Tryz.prog 15 #[.pointer (some ⟨p,0,none⟩),.slice (some ⟨w.heap.size,0,none⟩) 1 1,.int .u8 (x:Int)] (oneW w k) fun e w' =>
  (stepM fuelN x [2 ^ k] [] M=none∧e=.returned (.tuple #[.slice none 0 0,.int .i64 9])∧Below w0.heap.size w0 w') ∨
  ∃ r M' F',stepM fuelN x [2 ^ k] [] M=some (r.ts,M')∧e=.returned (.tuple #[.slice r.a r.len r.cap,.int .i64 0])∧ClS T0 q d w0 w' F' c p l0 M' vs Ls∧LfU w' F' c vs r∧(∀ M2,M' <+: M2→stepM fuelN x [2 ^ k] [] M2=some (r.ts,M2))∧M <+: M'∧Fr (oneW w k) w' F F':=by
 have h1:=h.up (qd w (.cells #[.int .u64 ((2 ^ k:Nat):Int)] 52))
 obtain ⟨items,hp⟩:=h1.o.prg
 have ht:Tab64 (oneW w k):=h.tab.up h1.bel
 have htl:=World.block_lt_of_cell? _ _ (ht 0 (by decide))
 have hbd:BdL [2 ^ k] M.length:=q3C hk
 refine (q3s hx hp.o ht hp.g _ 1 [2 ^ k] ⟨q9c h.flt k,by simp,hbd⟩).mono ?_
 rintro e w' ⟨F',i',fr,⟨hs,rfl,hO⟩ | ⟨L,M',q',d',hs,rfl,hU,hO,hnw⟩⟩
 ·exact Or.inl ⟨hs,rfl,h1.bel.trans (fr.below h1.ge h1.bel.size)⟩
 ·have ag:=q2K fuelN x [2 ^ k] [] M M' L hbd hs
  refine Or.inr ⟨⟨q',L.length,d',L⟩,M',F',hs,rfl,h1.fr ⟨i',hO,hp.u.fr fr,hp.l,fr.out hp.g htl⟩ fr ag.1,⟨hU,fun j hj=>?_⟩,ag.2,ag.1,fr⟩
  have h2:(oneW w k).heap.size≤(adOf q' j).block:=hnw j hj
  have h3:c<(oneW w k).heap.size:=h1.o.clt
  refine ⟨fun e=>?_,fun y hy e=>?_⟩
  ·have e2:(adOf q' j).block=c:=e
   omega
  ·have h4:(adOf q' j).block<(oneW w k).heap.size:=h1.o.rlt hy e
   omega
end
theorem q5b(t:List Nat){x:Nat}(hx:x<256)(w:World):(Instr.index 140 (.agg (stB t)) (.int .i64 (x:Int))).run Tryz.prog w=.ok (.bool (decide (x∈t))) w:=by
 have h1:=q2Q t hx
 have h2:=q11 t
 generalize stB t=A at *
 have hxa:x<A.size:=by omega
 rw[Array.getElem?_eq_getElem hxa]at h1
 injection h1 with h1
 simp[Instr.index,run_underlying Tryz.underlying140,asIntOf,qu (show (Tryz.prog.info? 4).map (·.size)=some 1 by kernel_rfl),hx,Result.andThen,go_sem,h1,hxa]
theorem qaf(c x:Nat)(hx:x<256)(w:World):(Instr.indexAt 98 (.pointer (some ⟨c,1,none⟩)) (.int .i64 (x:Int))).run Tryz.prog w=.ok (.pointer (some ⟨c,1+x,none⟩)) w:=by
 simp[Instr.indexAt,run_underlying Tryz.underlying98,asIntOf,qu (show (Tryz.prog.info? 56).map (·.size)=some 1 by kernel_rfl),hx,Result.andThen,go_sem,qj]
theorem q9w(c x:Nat)(hx:x<256)(w:World):(Instr.indexAt 98 (.pointer (some ⟨c,1,none⟩)) (.int .u8 (x:Int))).run Tryz.prog w=.ok (.pointer (some ⟨c,1+x,none⟩)) w:=by
 simp[Instr.indexAt,run_underlying Tryz.underlying98,asIntOf,qu (show (Tryz.prog.info? 56).map (·.size)=some 1 by kernel_rfl),hx,Result.andThen,go_sem,qj]
structure GtR (T0:Tr) (q:Option Addr) (d:Nat) (w0:World) (c p:Nat) (l0 t:List Nat) (g:Nat) (R:Option Mt) (n:Nat) (w:World) (F:Nat→Prop) (M:Mt) (vs:List Value) (Ls:Nat→List PcU):Prop where
 s:ClS T0 q d w0 w F c p l0 M vs Ls
 st:StAt w g t
 nf:¬ F g
 ng:g≠c
 ln:∀ y,y<256→(Ls y).length=if y∈t then n else 0
 nm:t≠[]→n≤M.length
 rr:R=closeM fuelN (lettersL t) (64 - n) n M
structure GtI (T0:Tr) (q:Option Addr) (d:Nat) (w0:World) (c p:Nat) (l0 t:List Nat) (g:Nat) (R:Option Mt) (n x:Nat) (w:World) (F:Nat→Prop) (M:Mt) (vs:List Value) (Ls:Nat→List PcU):Prop where
 s:ClS T0 q d w0 w F c p l0 M vs Ls
 st:StAt w g t
 nf:¬ F g
 ng:g≠c
 ln:∀ y,y<256→(Ls y).length=if y∈t then (if y<x then n+1 else n) else 0
 nm:n<M.length
 rr:R=restM (lettersL t) n (63 - n) (lfrom t x) M
section
variable {T0:Tr} {q:Option Addr} {d:Nat} {w0 w:World} {F:Nat→Prop} {c p g n x:Nat} {l0 t:List Nat} {M:Mt} {vs:List Value} {Ls:Nat→List PcU} {R:Option Mt}
theorem GtR.into(h:GtR T0 q d w0 c p l0 t g R n w F M vs Ls)(hn:n<64)(hm:n<M.length):GtI T0 q d w0 c p l0 t g R n 0 w F M vs Ls :=
 ⟨h.s,h.st,h.nf,h.ng,fun y hy=>by rw[h.ln y hy];simp,hm,by rw[h.rr,show 64 - n=63 - n+1 by omega,q9R _ _ _ hm,qaA]⟩
theorem GtI.out(h:GtI T0 q d w0 c p l0 t g R n 256 w F M vs Ls):GtR T0 q d w0 c p l0 t g R (n+1) w F M vs Ls :=
 ⟨h.s,h.st,h.nf,h.ng,fun y hy=>by rw[h.ln y hy,if_pos hy],fun _=>h.nm,by rw[h.rr,qbd,qbw,show 64 - (n+1)=63 - n by omega]⟩
theorem GtI.skip(h:GtI T0 q d w0 c p l0 t g R n x w F M vs Ls)(hx:x<256)(ht:x ∉ t):GtI T0 q d w0 c p l0 t g R n (x+1) w F M vs Ls:=by
 refine ⟨h.s,h.st,h.nf,h.ng,fun y hy=>?_,h.nm,by rw[h.rr,q40 t hx,if_neg ht]⟩
 rw[h.ln y hy]
 by_cases hy2:y∈t
 ·have:y≠x:=fun e=>ht (e ▸ hy2)
  rw[if_pos hy2,if_pos hy2]
  by_cases h3:y<x
  ·rw[if_pos h3,if_pos (by omega)]
  ·rw[if_neg h3,if_neg (by omega)]
 ·rw[if_neg hy2,if_neg hy2]
theorem GtR.none(h:GtR T0 q d w0 c p l0 t g R n w F M vs Ls)(h8:∀ y∈t,y<256)(hno:∀ y,y<256→y ∉ t)(hm:M.length≤n):GtR T0 q d w0 c p l0 t g R (n+1) w F M vs Ls:=by
 have ht:t=[]:=by
  cases t with
  | nil=>rfl
  | cons a t=>exact absurd (List.mem_cons_self ..) (hno a (h8 a (List.mem_cons_self ..)))
 refine ⟨h.s,h.st,h.nf,h.ng,fun y hy=>?_,fun e=>absurd ht e,?_⟩
 ·rw[h.ln y hy,if_neg (hno y hy),if_neg (hno y hy)]
 ·rw[h.rr,q3n _ _ _ hm,q3n _ _ _ (by omega)]
theorem GtR.past(h:GtR T0 q d w0 c p l0 t g R n w F M vs Ls)(hm:M.length≤n):R=some M:=by rw[h.rr,q3n _ _ _ hm]
theorem GtR.full(h:GtR T0 q d w0 c p l0 t g R n w F M vs Ls)(hm:M.length≤n):∀ y,y<256→y∈t→(Ls y).length=M.length:=fun y hy ht=>by
 have:=h.nm (fun e=>by rw[e]at ht;cases ht)
 rw[h.ln y hy,if_pos ht]
 omega
end
def GtQ (T0:Tr) (q:Option Addr) (d:Nat) (w0:World) (c p:Nat) (l0 t:List Nat) (R:Option Mt) (e:Ending) (w':World):Prop :=
 (R=none∧e=.returned (.int .i64 9)∧Below w0.heap.size w0 w') ∨
 ∃ M' F' vs' Ls',R=some M'∧e=.returned (.int .i64 0)∧ClS T0 q d w0 w' F' c p l0 M' vs' Ls'∧∀ y,y<256→y∈t→(Ls' y).length=M'.length
theorem StAt.put{w w':World}{g c x:Nat}{t:List Nat}(h:StAt w g t){o:Obj}{w5:World}{v v':Value}{base n:Nat}{xs:List Value}(hr:w.ownsRow base 33 1 v n xs)(hg:(w.alloc o).drew.grownBy w5 v.ownBlock)(hc:g≠c)(hw:w'=w5.setCell ⟨c,1+x,none⟩ v'):StAt w' g t:=by
 subst hw
 have hne:v.ownBlock≠some g:=q1N hr h fun cs e=>by injection e with _ e _;exact absurd e (by decide)
 have hz:(w.alloc o).drew.heap.size=w.heap.size+1:=by simp
 have:=h.lt
 exact (Below.heap_setCell _ _ _ _ hc).trans ((hg.block g (by omega) (fun e=>hne e.symm)).trans (((qd w o).block g h.lt).trans h))
theorem GtI.put{T0:Tr}{q:Option Addr}{d:Nat}{w0 w w2 w5:World}{F F':Nat→Prop}{c p g n x:Nat}{l0 t:List Nat}{M M':Mt}{vs:List Value}{Ls:Nat→List PcU}{R:Option Mt}{r:PcU}{v':Value}{o:Obj}
  (h:GtI T0 q d w0 c p l0 t g R n x w F M vs Ls) (hx:x<256) (ht:x∈t) (hst:stepM fuelN x [2 ^ n] [] M=some (r.ts,M')) (hS:ClS T0 q d w0 w2 F' c p l0 M' vs Ls) (hg2:StAt w2 g t) (hnf:¬ F' g) (hr:LfU w2 F' c vs r) (hd:∀ M2,M' <+: M2→stepM fuelN x [2 ^ n] [] M2=some (r.ts,M2)) (hM:M <+: M')
  (hg:(w2.alloc o).drew.grownBy w5 (vAt vs x).ownBlock) (ho:w5.ownsRow (c+1) 33 1 v' ((Ls x).length+1) ((Ls x).map pcV++[pcV r])) (hl:v'.ownBlock=(vAt vs x).ownBlock∨v'.ownBlock=some (w2.heap.size+1)) :
  w5.cell? ⟨c,1+x,none⟩=some (vAt vs x)∧w5.frozen? ⟨c,1+x,none⟩=false∧GtI T0 q d w0 c p l0 t g R n (x+1) (w5.setCell ⟨c,1+x,none⟩ v') F' M' (vs.set x v') (addL Ls x r):=by
 have hlx:(Ls x).length=n:=by rw[h.ln x hx,if_pos ht,if_neg (by omega)]
 have hnm:n<M'.length:=Nat.lt_of_lt_of_le h.nm hM.length_le
 obtain ⟨h1,h2,h3,h4⟩:=hS.o.put hx hg ho hl hr (by rw[hlx];exact ⟨hnm,hd⟩)
 refine ⟨h1,h2,⟨⟨h3,hS.ge,hS.gc,hS.bel.trans (h4.mono hS.gc),hS.tab⟩,hg2.put (hS.o.row x hx) hg h.ng rfl,hnf,h.ng,fun y hy=>?_,hnm,?_⟩⟩
 ·unfold addL
  have:=h.ln y hy
  by_cases e:y=x
  ·subst e
   rw[if_pos rfl,List.length_append,hlx,if_pos ht,if_pos (by omega)]
   rfl
  ·rw[if_neg e,this]
   by_cases hy2:y∈t
   ·rw[if_pos hy2,if_pos hy2]
    by_cases h3:y<x
    ·rw[if_pos h3,if_pos (by omega)]
    ·rw[if_neg h3,if_neg (by omega)]
   ·rw[if_neg hy2,if_neg hy2]
 ·rw[h.rr,q40 t hx,if_pos ht,qaI hst]
theorem q4q{T0:Tr}{q:Option Addr}{d:Nat}{w0 w:World}{F:Nat→Prop}{c p:Nat}{l0:List Nat}{M:Mt}{vs:List Value}(h:ClS T0 q d w0 w F c p l0 M vs (fun _=>[]))(t:List Nat)(h8:∀ x∈t,x<256) :
  Calls Tryz.prog 87 #[.pointer (some ⟨c,0,none⟩),.agg (stB t)] w (GtQ T0 q d w0 c p l0 t (closeM fuelN (lettersL t) 64 0 M)):=by
 obtain ⟨R,hR⟩:∃ R,R=closeM fuelN (lettersL t) 64 0 M:=⟨_,rfl⟩
 rw[← hR]
 obtain ⟨Q,hQ⟩:∃ Q:Ending→World→Prop,Q=GtQ T0 q d w0 c p l0 t R:=⟨_,rfl⟩
 have HQ:Hid (∀ e w',GtQ T0 q d w0 c p l0 t R e w'→Q e w'):=fun e w' h=>by rw[hQ];exact h
 rw[← hQ]
 have hb0:=qd w (.cells (stB t) 140)
 have HG0:Hid (GtR T0 q d w0 c p l0 t w.heap.size R 0 (w.alloc (.cells (stB t) 140)) F M vs (fun _=>[])):=⟨h.up hb0,(MapKept.heap_alloc w _).1,fun e=>Nat.lt_irrefl _ (h.flt _ e),fun e=>by have:=h.o.clt;omega,fun y hy=>by simp,fun _=>Nat.zero_le _,hR⟩
 have H8:Hid _:=h8
 have hbx:∀ w,(Instr.box 140 (.agg (stB t))).run Tryz.prog w=.ok (.pointer (some ⟨w.heap.size,0,none⟩)) (w.alloc (.cells (stB t) 140)):=fun w=>rfl
 clear h h8 hR hQ hb0
 go_enter Tryz.func87,Tryz.ntmps87
 go_wp2
 go_loopw [10] (fun i wr=>∃ (n:Nat) (Fj:Nat→Prop) (Mj:Mt) (vj:List Value) (Lj:Nat→List PcU),n≤64∧i=.int .i64 (n:Int)∧Hid (GtR T0 q d w0 c p l0 t w.heap.size R n wr Fj Mj vj Lj)) (fun i _=>64 - (intOf i).toNat)
 case atStart=>exact ⟨0,F,M,vs,_,by omega,rfl,HG0⟩
 case round =>
  clear HG0 hbx
  obtain ⟨n,Fj,Mj,vj,Lj,hn,rfl,HG⟩:=hrel
  by_cases hlt:n<64
  ·have hlb:((n:Int)<64)=True:=by simp;omega
   go_wp2
   refine wp_load_row 140 _ rfl w.heap.size rfl 140 (stB t) (0,0) _ HG.out.st Tryz.underlying140 rfl (by rw[q11];exact q1B) ?_
   by_cases hm:n<Mj.length
   ·have HI0:Hid _:=HG.out.into hlt hm
    clear HG hm
    go_wp2
    go_loopw [14] (fun i w1=>∃ (x:Nat) (Fi:Nat→Prop) (Mi:Mt) (vi:List Value) (Li:Nat→List PcU),x≤256∧i=.int .i64 (x:Int)∧Hid (GtI T0 q d w0 c p l0 t w.heap.size R n x w1 Fi Mi vi Li)) (fun i _=>256 - (intOf i).toNat)
    case atStart=>exact ⟨0,_,_,_,_,by omega,rfl,HI0⟩
    case round =>
     clear HI0
     obtain ⟨x,Fi,Mi,vi,Li,hx,rfl,HI⟩:=hrel
     by_cases hltx:x<256
     ·have hix:=fun w'=>q5b t hltx w'
      by_cases hxt:x∈t
      ·rw[decide_eq_true hxt]at hix
       have sd:=HI.out.s.up (Below.refl _ _).drew
       have ja:Calls Tryz.prog 119 #[.int .i64 (n:Int)] wr.drew fun e w'=>e=.returned (.slice (some ⟨wr.heap.size,0,none⟩) 1 1)∧w'=oneW wr.drew n:=q2f n hlt wr.drew
       have js0:=sd.step HI.out.nm hltx
       have hk00:wr.cell? ⟨c,0,none⟩=some (.pointer (some ⟨p,0,none⟩)):=HI.out.s.o.c0
       have hk0:wr.drew.cell? ⟨c,0,none⟩=some (.pointer (some ⟨p,0,none⟩)):=sd.o.c0
       have hk1:(oneW wr.drew n).cell? ⟨c,0,none⟩=some (.pointer (some ⟨p,0,none⟩)):=(sd.up (qd _ _)).o.c0
       have hcv:IntKind.u8.wrap (x:Int)=(x:Int):=by rw[IntKind.wrap_u8];omega
       have hzz:wr.drew.heap.size=wr.heap.size:=rfl
       cases hst:stepM fuelN x [2 ^ n] [] Mi with
       | none =>
        have js:Calls Tryz.prog 15 #[.pointer (some ⟨p,0,none⟩),.slice (some ⟨wr.heap.size,0,none⟩) 1 1,.int .u8 (x:Int)] (oneW wr.drew n) fun e w'=>e=.returned (.tuple #[.slice none 0 0,.int .i64 9])∧Q (.returned (.int .i64 9)) w'∧w'.cell? ⟨c,0,none⟩=w'.cell? ⟨c,0,none⟩:=js0.mono fun e w' hq=>by
         rcases hq with ⟨_,he,hb⟩ | ⟨r,M',F',h1,_⟩
         ·exact ⟨he,HQ.out _ _ (Or.inl ⟨by rw[HI.out.rr,q40 t hltx,if_pos hxt,qaH hst],rfl,hb⟩),rfl⟩
         ·rw[hst]at h1;cases h1
        clear js0 sd HI hst hzz
        go_upto_region 20 with fail
        go_region_with (first
         | (revert ja;intro ja;go_at_call 119;(with_reducible refine ja.mono ?_);rintro e w1 ⟨rfl,rfl⟩)
         | (revert js;intro js;go_at_call 15;(with_reducible refine js.mono ?_);rintro e w2 ⟨rfl,hq2,_⟩;have HE:Hid _:=hq2)
         | fail)
        all_goals
         clear ja js
         go_wp2
         exact HE.out
       | some z =>
        obtain ⟨L,M2⟩:=z
        have js:Calls Tryz.prog 15 #[.pointer (some ⟨p,0,none⟩),.slice (some ⟨wr.heap.size,0,none⟩) 1 1,.int .u8 (x:Int)] (oneW wr.drew n) fun e w2=>∃ r F2,e=.returned (.tuple #[.slice r.a r.len r.cap,.int .i64 0])∧Hid (stepM fuelN x [2 ^ n] [] Mi=some (r.ts,M2))∧Hid (ClS T0 q d w0 w2 F2 c p l0 M2 vi Li)∧Hid (LfU w2 F2 c vi r)∧Hid (∀ M3,M2 <+: M3→stepM fuelN x [2 ^ n] [] M3=some (r.ts,M3))∧Hid (Mi <+: M2)∧Hid (StAt w2 w.heap.size t)∧Hid (¬ F2 w.heap.size):=js0.mono fun e w' hq=>by
         rcases hq with ⟨h1,_⟩ | ⟨r,M',F',h1,he,h3,h4,h5,h6,fr⟩
         ·rw[hst]at h1;cases h1
         ·rw[hst]at h1
          injection h1 with h1
          injection h1 with h1 h2
          subst h1 h2
          have hg0:StAt (oneW wr.drew n) w.heap.size t:=(qd wr.drew _).block _ HI.out.st.lt |>.trans HI.out.st
          exact ⟨r,F',he,hst,h3,h4,h5,h6,(fr.keep _ hg0.lt HI.out.nf).trans hg0,fr.out HI.out.nf hg0.lt⟩
        have HLX:Hid ((Li x).length=n):=by show _=_;rw[HI.out.ln x hltx,if_pos hxt,if_neg (by omega)]
        clear js0 sd hst hzz
        go_upto_region 20 with fail
        go_region_with (first
         | (revert ja;intro ja;go_at_call 119;(with_reducible refine ja.mono ?_);rintro e w1 ⟨rfl,rfl⟩)
         | (revert js;intro js;go_at_call 15;(with_reducible refine js.mono ?_);rintro e w2 ⟨r,F2,rfl,HST,HS2,HLF,HDN,HPR,HSA,HNF⟩)
         | fail)
        all_goals
         clear ja js hk00 hk0 hk1 hcv
         have hrow:=HS2.out.o.row x hltx
         obtain ⟨av,cv,hv⟩:=qt hrow
         rw[HLX.out]at hv
         have cx:=HS2.out.o.cx hltx
         rw[hv]at cx
         have cxb:(w2.alloc (.cells #[pcV r] 33)).cell? ⟨c,1+x,none⟩=some (.slice av n cv):=qA cx (qd w2 _)
         have hixL:=fun w'=>qaf c x hltx w'
         have hbA:=qd w2 (.cells #[pcV r] 33)
         have hO:(w2.alloc (.cells #[pcV r] 33)).drew.ownsRow (c+1) 33 1 (.slice av n cv) n ((Li x).map pcV):=by
          have:=World.ownsRow.alloc hrow (.cells #[pcV r] 33)
          rw[HLX.out,hv]at this
          exact this
         have hB:(w2.alloc (.cells #[pcV r] 33)).drew.heap[w2.heap.size]? = some (.cells #[pcV r] 33 (0,0)):=(MapKept.heap_alloc w2 _).1
         have HPUT:Hid (∀ w5 v',(w2.alloc (.cells #[pcV r] 33)).drew.grownBy w5 (Value.slice av n cv).ownBlock→w5.ownsRow (c+1) 33 1 v' (n+1) ((Li x).map pcV++[pcV r])→(v'.ownBlock=(Value.slice av n cv).ownBlock∨v'.ownBlock=some (w2.alloc (.cells #[pcV r] 33)).drew.heap.size)→w5.cell? ⟨c,1+x,none⟩=some (.slice av n cv)∧w5.frozen? ⟨c,1+x,none⟩=false∧∃ Fi Mi vi Li,GtI T0 q d w0 c p l0 t w.heap.size R n (x+1) (w5.setCell ⟨c,1+x,none⟩ v') Fi Mi vi Li):=fun w5 v' hg ho hl=>by
          rw[← hv]at hg hl ⊢
          have:=HI.out.put hltx hxt HST.out HS2.out HSA.out HNF.out HLF.out HDN.out HPR.out hg (by rw[HLX.out];exact ho) (by simpa using hl)
          exact ⟨this.1,this.2.1,_,_,_,_,this.2.2⟩
         have hcb:c+1≤w2.heap.size:=HS2.out.o.clt
         clear hrow hbA HS2 HLF HDN HPR HSA HNF HST hv
         obtain ⟨ra,rl,rc,rt⟩:=r
         unfold pcV at *
         dsimp only at *
         go_upto_region 20 with fail
         go_region_law ((refine q7Z rfl _ _ rfl (c+1) (.slice av n cv) n _ ⟨ra,rl,rc,rt⟩ w2.heap.size rfl rfl hO hB (by omega) (by simp;omega) ?_;intro v5 w5 hown5 hgr5 hloc5;obtain ⟨a5,k5,rfl⟩:=qt hown5;have m5:=HPUT.out w5 _ hgr5 hown5 hloc5;have c5:=m5.1;have z5:=m5.2.1;have HN5:Hid _:=m5.2.2;clear m5))
         all_goals
          obtain ⟨F6,M6,v6,L6,hI6⟩:=HN5.out
          have HI6:Hid _:=hI6
          clear hI6 hO hB cx cxb hixL c5 z5 hown5 hgr5 hloc5 HPUT
          go_wp2
          go_roundw
          case rel=>exact ⟨x+1,F6,M6,v6,L6,by omega,by go_num,HI6⟩
          case measure=>simp[intOf] <;> omega
      ·rw[decide_eq_false hxt]at hix
       have HIN:Hid _:=HI.out.skip hltx hxt
       clear HI
       go_wp2
       go_roundw
       case rel=>exact ⟨x+1,_,_,_,_,by omega,by go_num,HIN⟩
       case measure=>simp[intOf] <;> omega
     ·obtain rfl:x=256:=by omega
      have HGN:Hid _:=HI.out.out
      clear HI
      go_wp2
      go_roundw
      case rel=>exact ⟨n+1,_,_,_,_,by omega,by go_num,HGN⟩
      case measure=>simp[intOf] <;> omega
   ·have HMN:Hid (Mj.length≤n):=by show _≤_;omega
    clear hm
    go_wp2
    go_loopw [14] (fun i w1=>∃ (x:Nat),x≤256∧i=.int .i64 (x:Int)∧w1=wr∧Hid (∀ y,y<x→y ∉ t)) (fun i _=>256 - (intOf i).toNat)
    case atStart=>exact ⟨0,by omega,rfl,rfl,fun y hy=>absurd hy (by omega)⟩
    case round =>
     obtain ⟨x,hx,rfl,rfl,HNO⟩:=hrel
     by_cases hltx:x<256
     ·have hix:=fun w'=>q5b t hltx w'
      by_cases hxt:x∈t
      ·rw[decide_eq_true hxt]at hix
       have sd:=HG.out.s.up (Below.refl _ _).drew
       have ja:Calls Tryz.prog 119 #[.int .i64 (n:Int)] wr.drew fun e w'=>e=.returned (.slice (some ⟨wr.heap.size,0,none⟩) 1 1)∧w'=oneW wr.drew n:=q2f n hlt wr.drew
       have hk00:wr.cell? ⟨c,0,none⟩=some (.pointer (some ⟨p,0,none⟩)):=HG.out.s.o.c0
       have hk0:wr.drew.cell? ⟨c,0,none⟩=some (.pointer (some ⟨p,0,none⟩)):=sd.o.c0
       have hk1:(oneW wr.drew n).cell? ⟨c,0,none⟩=some (.pointer (some ⟨p,0,none⟩)):=(sd.up (qd _ _)).o.c0
       have hcv:IntKind.u8.wrap (x:Int)=(x:Int):=by rw[IntKind.wrap_u8];omega
       have js:Calls Tryz.prog 15 #[.pointer (some ⟨p,0,none⟩),.slice (some ⟨wr.heap.size,0,none⟩) 1 1,.int .u8 (x:Int)] (oneW wr.drew n) fun e w'=>e=.returned (.tuple #[.slice none 0 0,.int .i64 2])∧Q (.returned (.int .i64 0)) w':=(sd.past hlt HMN.out).mono fun e w' ⟨he,hs⟩=>⟨he,HQ.out _ _ (Or.inr ⟨Mj,Fj,vj,Lj,HG.out.past HMN.out,rfl,hs,HG.out.full HMN.out⟩)⟩
       clear sd HG HNO
       go_upto_region 20 with fail
       go_region_with (first
        | (revert ja;intro ja;go_at_call 119;(with_reducible refine ja.mono ?_);rintro e w3 ⟨rfl,rfl⟩)
        | (revert js;intro js;go_at_call 15;(with_reducible refine js.mono ?_);rintro e w2 ⟨rfl,hq2⟩;have HE:Hid _:=hq2)
        | fail)
       all_goals
        clear ja js
        go_wp2
        exact HE.out
      ·rw[decide_eq_false hxt]at hix
       have HNN:Hid (∀ y,y<x+1→y ∉ t):=fun y hy=>by
        by_cases e:y=x
        ·subst e;exact hxt
        ·exact HNO.out y (by omega)
       clear HNO
       go_wp2
       go_roundw
       case rel=>exact ⟨x+1,by omega,by go_num,by first | trivial | rfl,HNN⟩
       case measure=>simp[intOf] <;> omega
     ·obtain rfl:x=256:=by omega
      have HGN:Hid _:=HG.out.none H8.out HNO.out HMN.out
      clear HG
      go_wp2
      go_roundw
      case rel=>exact ⟨n+1,_,_,_,_,by omega,by go_num,HGN⟩
      case measure=>simp[intOf] <;> omega
  ·obtain rfl:n=64:=by omega
   have hm:Mj.length≤64:=HG.out.s.good.few
   have HE:Hid (Q (.returned (.int .i64 0)) wr):=HQ.out _ _ (Or.inr ⟨Mj,Fj,vj,Lj,HG.out.past hm,rfl,HG.out.s,HG.out.full hm⟩)
   clear HG hm
   go_wp2
   exact HE.out
def vs0:List Value:=List.replicate 256 (.slice none 0 0)
theorem qdd:vs0.length=256:=List.length_replicate
theorem q9s(x:Nat):vAt vs0 x=.slice none 0 0:=by
 unfold vAt vs0
 rw[List.getD_eq_getElem?_getD,List.getElem?_replicate]
 split <;> rfl
theorem q8a:Tryz.zeroCells100=(Value.pointer none::List.replicate 256 (Value.slice none 0 0)).toArray:=by kernel_rfl
theorem q89(p:Nat):Tryz.zeroCells100.setIfInBounds 0 (.pointer (some ⟨p,0,none⟩))=clA p vs0:=by
 rw[q8a,List.setIfInBounds_toArray]
 rfl
def NcR (w:World) (ts:List Tk) (zs:List Int) (e:Ending) (w':World):Prop:=Below w.heap.size w w'∧((ahE ts zs≠0∧e=.returned (.tuple #[.pointer none,.int .i64 (ahE ts zs)])) ∨
 (ahE ts zs=0∧∃ T,KT T∧ts=T.flat∧((closedR T (zN zs)=none∧e=.returned (.tuple #[.pointer none,.int .i64 9])) ∨
  ∃ l0 M c p q d F vs Ls,closedR T (zN zs)=some (l0,M)∧e=.returned (.tuple #[.pointer (some ⟨c,0,none⟩),.int .i64 0])∧ClS T q d w w' F c p l0 M vs Ls∧∀ y,y<256→y∈zN zs→(Ls y).length=M.length)))
theorem q65{T:Tr}{t l0:List Nat}{M:Mt}(h:needM T []=some (l0,M)):closedR T t=(closeM fuelN (lettersL t) 64 0 M).map fun M'=>(l0,M'):=by
 unfold closedR;rw[h]
theorem qar{T:Tr}{t:List Nat}(h:needM T []=none):closedR T t=none:=by
 unfold closedR;rw[h]
theorem q8J{ts:List Tk}{zs:List Int}(h:ahE ts zs=0):chkE ts=0∧trE zs=0:=by
 unfold ahE at h
 by_cases hc:chkE ts=0
 ·rw[if_neg (by omega)]at h;exact ⟨hc,h⟩
 ·rw[if_pos hc]at h;omega
theorem zN_lt{zs:List Int}(h:∀ z∈zs,0≤z∧z<256):∀ x∈zN zs,x<256:=fun x hx=>by
 unfold zN at hx
 obtain ⟨z,hz,rfl⟩:=List.mem_map.1 hx
 have:=h z hz
 omega
theorem qdh{T:Tr}{q:Option Addr}{d:Nat}{w w1:World}{F:Nat→Prop}{p:Nat}{l0:List Nat}{M:Mt}{items:List It}(hp:PrgAt w1 F p l0 M T q d items)(hb:Below w.heap.size w w1)(hF:∀ k,F k→w.heap.size≤k)(hT:Tab64 w) :
  ClS T q d w (w1.alloc (.cells (clA p vs0) 100)) F w1.heap.size p l0 M vs0 (fun _=>[]):=by
 have hbn:=qd w1 (.cells (clA p vs0) 100)
 have hlt:=hp.o.lt
 refine ⟨⟨⟨items,hp.o.up hbn,hp.u.up hbn,hp.l,hp.g⟩,(MapKept.heap_alloc w1 _).1,qdd,fun x hx=>?_,fun x y k hx hy hne hk=>?_,fun k hk=>hp.u.sl.blk k hk,fun k hk=>⟨fun e=>by have:=hlt k hk;omega,fun x hx e=>?_⟩,fun x hx r hr=>(by cases hr),fun x hx k r hr=>(by simp at hr)⟩,hF,hb.size,qe hb hbn,hT⟩
 ·rw[q9s];exact ⟨rfl,Or.inl ⟨rfl,rfl⟩⟩
 ·rw[q9s]at hk;cases hk
 ·rw[q9s]at e;cases e
theorem q4v(a:Option Addr)(len cap:Nat)(ts:List Tk)(b:Option Addr)(m c:Nat)(zs:List Int)(w:World)(hS:TkSl w a len cap ts)(hL:LtSl w b m c zs)(hT:Tab64 w) :
  Calls Tryz.prog 59 #[.slice a len cap,.slice b m c] w (NcR w ts zs):=by
 have jc:=q5L a len cap ts b m c zs w hS hL
 obtain ⟨Q,hQ⟩:∃ Q:Ending→World→Prop,Q=NcR w ts zs:=⟨_,rfl⟩
 have HQ:Hid (∀ e w',NcR w ts zs e w'→Q e w'):=fun e w' h=>by rw[hQ];exact h
 rw[← hQ]
 have HS:Hid _:=hS
 have HL:Hid _:=hL
 have HT:Hid _:=hT
 obtain ⟨E,hE⟩:∃ E,E=ahE ts zs:=⟨_,rfl⟩
 rw[← hE]at jc
 have HE:Hid _:=hE
 clear hS hL hT hQ hE
 by_cases h0:E=0
 ·go_enter Tryz.func59,Tryz.ntmps59
  subst h0
  go_wp2_with fail
  refine jc.mono ?_
  rintro e w1 ⟨rfl,hb1⟩
  have jn:=q7N a len cap ts w1 (HS.out.up hb1)
  have HB1:Hid _:=hb1
  obtain ⟨hc0,ht0⟩:=q8J HE.out.symm
  have HC0:Hid _:=hc0
  clear jc hb1 hc0 ht0
  go_wp2_with fail
  refine jn.mono ?_
  rintro e w2 ⟨hb2,⟨hc,_⟩ | ⟨T,kT,hts,_,⟨hn,rfl⟩ | ⟨l0,M,p,F,q,d,items,hn,rfl,hO,hU,hF⟩⟩⟩
  ·exact absurd HC0.out hc
  ·have HR:Hid (Q (.returned (.tuple #[.pointer none,.int .i64 9])) w2):=HQ.out _ _ ⟨qe HB1.out hb2,Or.inr ⟨HE.out.symm,T,kT,hts,Or.inl ⟨qar hn,rfl⟩⟩⟩
   clear jn hb2 kT hts hn
   go_wp2
   exact HR.out
  ·have htl:=World.block_lt_of_cell? _ _ (HT.out 0 (by decide))
   have hg2:∀ k,F k→w.heap.size≤k:=fun k hk=>Nat.le_trans HB1.out.size (hF k hk)
   have hp:PrgAt w2 F p l0 M T q d items:=⟨hO,hU,⟨qG (qK T q5v kT hn).1.bd hO.few,q1I T hn⟩,fun e=>Nat.lt_irrefl _ (Nat.lt_of_lt_of_le htl (hg2 _ e))⟩
   have hcl:=qdh hp (qe HB1.out hb2) hg2 HT.out
   have jl:=q4u b m c zs _ (HL.out.up hcl.bel)
   have HCL:Hid _:=hcl
   have HZ:Hid _:=zN_lt HL.out.ok
   have HFIN:Hid (∀ e w',GtQ T q d w w2.heap.size p l0 (zN zs) (closeM fuelN (lettersL (zN zs)) 64 0 M) e w'→(e=.returned (.int .i64 9)∧Q (.returned (.tuple #[.pointer none,.int .i64 9])) w')∨(e=.returned (.int .i64 0)∧Q (.returned (.tuple #[.pointer (some ⟨w2.heap.size,0,none⟩),.int .i64 0])) w')):=fun e w' h=>by
    rcases h with ⟨h1,h2,h3⟩ | ⟨M',F',vs',Ls',h1,h2,h3,h4⟩
    ·exact Or.inl ⟨h2,HQ.out _ _ ⟨h3,Or.inr ⟨HE.out.symm,T,kT,hts,Or.inl ⟨by rw[q65 hn,h1];rfl,rfl⟩⟩⟩⟩
    ·exact Or.inr ⟨h2,HQ.out _ _ ⟨h3.bel,Or.inr ⟨HE.out.symm,T,kT,hts,Or.inr ⟨l0,M',_,p,q,d,F',vs',Ls',by rw[q65 hn,h1];rfl,rfl,h3,h4⟩⟩⟩⟩
   clear jn hb2 kT hts hn hO hU hF htl hg2 hp hcl
   unfold pgV
   go_wp2_with fail
   rw[q89]
   generalize clA p vs0=CA at *
   refine jl.mono ?_
   rintro e w3 ⟨rfl,hb3⟩
   have jg:=q4q (HCL.out.up hb3) (zN zs) HZ.out
   clear jl hb3
   generalize stB (zN zs)=SB at *
   go_wp2_with fail
   refine jg.mono ?_
   intro e w4 hq
   rcases HFIN.out e w4 hq with ⟨rfl,h2⟩ | ⟨rfl,h2⟩
   ·have HR:Hid _:=h2
    clear hq h2 jg
    go_wp2
    exact HR.out
   ·have HR:Hid _:=h2
    clear hq h2 jg
    go_wp2
    exact HR.out
 ·have hne:(E != 0)=true:=by simp;exact h0
  have H0:Hid _:=h0
  go_enter Tryz.func59,Tryz.ntmps59
  go_wp2_with fail
  refine jc.mono ?_
  rintro e w1 ⟨rfl,hb1⟩
  have HR:Hid (Q (.returned (.tuple #[.pointer none,.int .i64 E])) w1):=HQ.out _ _ ⟨hb1,Or.inl ⟨by rw[← HE.out];exact H0.out,by rw[HE.out]⟩⟩
  clear jc hb1
  go_wp2
  exact HR.out
def RwU (w:World) (g:Nat) (rs:List PcU):Prop:=w.heap[g]? = some (.cells (rs.map pcV).toArray 33 (0,0))
theorem RwU.lt{w:World}{g:Nat}{rs:List PcU}(h:RwU w g rs):g<w.heap.size:=(Array.getElem?_eq_some_iff.1 h).1
theorem RwU.cell{w:World}{g:Nat}{rs:List PcU}(h:RwU w g rs){i:Nat}{r:PcU}(hi:rs[i]? = some r):w.cell? ⟨g,i,none⟩=some (.slice r.a r.len r.cap):=by
 unfold RwU at h
 rw[qb h i]
 simp[hi,pcV]
theorem RwU.fz{w:World}{g:Nat}{rs:List PcU}(h:RwU w g rs)(i:Nat):w.frozen? ⟨g,i,none⟩=false:=frozen_of_row w g i _ _ h
theorem RwU.set{w:World}{g:Nat}{rs:List PcU}(h:RwU w g rs)(i:Nat)(r:PcU):RwU (w.setCell ⟨g,i,none⟩ (.slice r.a r.len r.cap)) g (rs.set i r):=by
 unfold RwU at h ⊢
 rw[heap_setCell_same w g i _ _ _ h]
 congr 2
 simp[pcV]
theorem q8C:(Tryz.prog.info? 33).map (·.size)=some 1:=by kernel_rfl
theorem q1K(g n i:Nat)(hi:i<n)(w:World):(Instr.indexAt 56 (.slice (some ⟨g,0,none⟩) n n) (.int .i64 (i:Int))).run Tryz.prog w=.ok (.pointer (some ⟨g,i,none⟩)) w:=by
 simp[Instr.indexAt,run_underlying Tryz.underlying56,asIntOf,qu q8C,hi,Result.andThen,go_sem,qj]
def nilU:PcU:=⟨none,0,0,[]⟩
theorem qdv(n:Nat):madeCells #[.slice none 0 0] n=Array.replicate n (Value.slice none 0 0):=by
 unfold madeCells
 apply Array.ext
 ·simp
 ·intro i h1 h2
  simp[Nat.mod_one]
theorem q9J(l:Nat)(hb:l≤100000)(w:World) :
  (Instr.makeSlice 56 (.int .i64 (l:Int)) (.int .i64 (l:Int))).run Tryz.prog w=.ok (.slice (some ⟨w.heap.size,0,none⟩) l l) (w.alloc (.cells (Array.replicate l (Value.slice none 0 0)) 33)):=by
 obtain ⟨i,hi,hz0,hz1,hz2⟩:=info_parts q4r
 have:=run_make (P:=Tryz.prog) w 56 33 i (.slice none 0 0) Tryz.underlying56 hi hz0 .i64 .i64 (l:Int) (l:Int) (by omega) (by omega) (by rw[hz2];omega) (by omega)
 rw[this,hz1]
 simp only[Int.toNat_natCast,Nat.mul_one]
 have e:(Value.slice none 0 0).cells=#[.slice none 0 0]:=rfl
 rw[e,qdv]
theorem RwU.made(w:World)(l:Nat):RwU (w.alloc (.cells (Array.replicate l (Value.slice none 0 0)) 33)) w.heap.size (List.replicate l nilU):=by
 unfold RwU
 rw[(MapKept.heap_alloc w _).1]
 simp[pcV,nilU]
structure LsU (w:World) (F:Nat→Prop) (g:Nat) (r:PcU):Prop where
 us:US w F r.a r.len r.cap r.ts
 ap:∀ k,k<r.len→(adOf r.a k).block≠g
structure FwR (T0:Tr) (q:Option Addr) (d:Nat) (w0:World) (c p:Nat) (l0:List Nat) (M:Mt) (vs:List Value) (Ls:Nat→List PcU) (t:List Nat) (R:Option (List (List Nat))) (g k:Nat) (w:World) (F:Nat→Prop) (rs:List PcU):Prop where
 s:ClS T0 q d w0 w F c p l0 M vs Ls
 row:RwU w g rs
 len:rs.length=t.length+1
 ng:¬ F g
 gc:c<g
 ng2:∀ y,y<256→(vAt vs y).ownBlock≠some g
 lg:∀ y,y<256→∀ r∈Ls y,∀ j,j<r.len→(adOf r.a j).block≠g
 all:∀ (j:Nat) (r:PcU),j≤k→rs[j]? = some r→LsU w F g r
 now:∃ r,rs[k]? = some r∧r.ts.length≤1024∧BdL r.ts M.length∧R=(fwdM M r.ts (t.drop k)).map fun tl=>(rs.take k).map (·.ts)++tl
section
variable {T0:Tr} {q:Option Addr} {d:Nat} {w0 w w':World} {F F':Nat→Prop} {c p:Nat} {l0:List Nat} {M:Mt} {vs:List Value} {Ls:Nat→List PcU} {t:List Nat} {R:Option (List (List Nat))} {g k:Nat} {rs:List PcU}
theorem LsU.fr{r:PcU}(h:LsU w F g r)(fr:Fr w w' F F'):LsU w' F' g r:=⟨h.us.fr fr,h.ap⟩
theorem ClS.row(h:ClS T0 q d w0 w F c p l0 M vs Ls)(ng:¬ F g)(gc:c<g)(ng2:∀ y,y<256→(vAt vs y).ownBlock≠some g)(hl:∀ y,y<256→∀ r∈Ls y,∀ j,j<r.len→(adOf r.a j).block≠g)(j:Nat)(v:Value):ClS T0 q d w0 (w.setCell ⟨g,j,none⟩ v) F c p l0 M vs Ls:=by
 have st:∀ k,k≠g→(w.setCell ⟨g,j,none⟩ v).heap[k]? = w.heap[k]? := fun k hk=>Below.heap_setCell _ _ _ _ hk
 have hsz:w.heap.size≤(w.setCell ⟨g,j,none⟩ v).heap.size:=by simp
 obtain ⟨items,hp⟩:=h.o.prg
 refine ⟨⟨⟨items,hp.far hsz (fun k hk=>st k fun e=>ng (e ▸ hk)) (fun k hk=>st _ fun e=>by have:=h.o.sb k hk;omega)⟩,(st c (by omega)).trans h.o.blk,h.o.vl,fun x hx=>qp (h.o.row x hx) fun k hk=>st k fun e=>ng2 x hx (e ▸ hk),h.o.dis,h.o.sb,h.o.nc,fun x hx r hr=>⟨(h.o.lst x hx r hr).us.same hsz (fun k hk=>st _ (hl x hx r hr k hk)) (h.o.lst x hx r hr).us.nf,(h.o.lst x hx r hr).ap⟩,h.o.dn⟩,h.ge,h.gc,?_,h.tab⟩
 exact q1d h.bel _ _ (Nat.le_trans h.gc (Nat.le_of_lt gc))
theorem LsU.set{r:PcU}(h:LsU w F g r)(j:Nat)(v:Value):LsU (w.setCell ⟨g,j,none⟩ v) F g r :=
 ⟨h.us.same (by simp) (fun k hk=>Below.heap_setCell _ _ _ _ (h.ap k hk)) h.us.nf,h.ap⟩
theorem FwR.next{r2:PcU}{x:Nat}(h:FwR T0 q d w0 c p l0 M vs Ls t R g k w F rs)(hx:t[k]? = some x)(hP:∃ items,PrgAt w' F' p l0 M T0 q d items)(fr:Fr w w' F F')(hU:US w' F' r2.a r2.len r2.cap r2.ts)(hnw:∀ j,j<r2.len→w.heap.size≤(adOf r2.a j).block)
  (hs:∀ r,rs[k]? = some r→stepM fuelN x r.ts [] M=some (r2.ts,M)) :
  FwR T0 q d w0 c p l0 M vs Ls t R g (k+1) (w'.setCell ⟨g,k+1,none⟩ (.slice r2.a r2.len r2.cap)) F' (rs.set (k+1) r2):=by
 have hkt:k<t.length:=(List.getElem?_eq_some_iff.1 hx).1
 have hgl:=h.row.lt
 have ng':=fr.out h.ng hgl
 have row':RwU w' g rs:=(fr.keep g hgl h.ng).trans h.row
 obtain ⟨r,hr,hl,hb,hR⟩:=h.now
 have hst:=hs r hr
 have hk1:k+1<rs.length:=by rw[h.len];omega
 refine ⟨(h.s.fr hP fr (List.prefix_refl _)).row ng' h.gc h.ng2 h.lg _ _,row'.set (k+1) r2,by simp[h.len],ng',h.gc,h.ng2,h.lg,fun j r3 hj hr3=>?_,r2,by rw[List.getElem?_set_self hk1],q9k fuelN x r.ts [] (by simp) hst,(q50 h.s.good hb hst).1.bd,?_⟩
 ·refine LsU.set ?_ _ _
  by_cases e:j=k+1
  ·subst e
   rw[List.getElem?_set_self hk1]at hr3
   injection hr3 with hr3
   subst hr3
   exact ⟨hU,fun j hj e=>by have:=hnw j hj;omega⟩
  ·rw[List.getElem?_set_ne (fun h=>e h.symm)]at hr3
   exact (h.all j r3 (by omega) hr3).fr fr
 ·have hd:t.drop k=x::t.drop (k+1):=by
   obtain ⟨h1,h2⟩:=List.getElem?_eq_some_iff.1 hx
   rw[List.drop_eq_getElem_cons h1,h2]
  rw[hR,hd,fwdM,hst]
  have hkl:k<rs.length:=by omega
  have ht:(rs.set (k+1) r2).take (k+1)=rs.take k++[r]:=by
   rw[List.take_set_of_le (Nat.le_refl _),List.take_add_one,hr]
   rfl
  rw[ht]
  show Option.map _ ((fwdM M r2.ts (t.drop (k+1))).map (r.ts :: ·))=_
  cases fwdM M r2.ts (t.drop (k+1)) with
  | none=>rfl
  | some tl=>simp
theorem FwR.fin(h:FwR T0 q d w0 c p l0 M vs Ls t R g t.length w F rs):R=some (rs.map (·.ts)):=by
 obtain ⟨r,hr,_,_,hR⟩:=h.now
 rw[hR,List.drop_length,fwdM]
 have:rs=rs.take t.length++[r]:=by
  have h1:rs.take (t.length+1)=rs:=List.take_of_length_le (by rw[h.len];omega)
  rw[List.take_add_one,hr]at h1
  exact h1.symm
 simp only[Option.map_some,Option.some.injEq]
 conv=>rhs;rw[this]
 simp
end
def FwQ (T0:Tr) (q:Option Addr) (d:Nat) (w0:World) (c p:Nat) (l0:List Nat) (M:Mt) (vs:List Value) (Ls:Nat→List PcU) (t:List Nat) (R:Option (List (List Nat))) (e:Ending) (w':World):Prop :=
 (R=none∧e=.returned (.tuple #[.slice none 0 0,.int .i64 9])∧Below w0.heap.size w0 w') ∨
 ∃ rs g F',R=some (rs.map (·.ts))∧e=.returned (.tuple #[.slice (some ⟨g,0,none⟩) (t.length+1) (t.length+1),.int .i64 0])∧FwR T0 q d w0 c p l0 M vs Ls t R g t.length w' F' rs
theorem q2T{T0:Tr}{q:Option Addr}{d:Nat}{w0 w:World}{F:Nat→Prop}{c p:Nat}{l0:List Nat}{M:Mt}{vs:List Value}{Ls:Nat→List PcU}(h:ClS T0 q d w0 w F c p l0 M vs Ls)(b:Option Addr)(m cc:Nat)(zs:List Int)(hL:LtSl w0 b m cc zs)(hm:m≤1024)(hC:Closed fuelN (lettersL (zN zs)) M)(hbd:BdL l0 M.length) :
  Calls Tryz.prog 61 #[.pointer (some ⟨c,0,none⟩),.slice b m cc] w (FwQ T0 q d w0 c p l0 M vs Ls (zN zs) (fwdM M l0 (zN zs))):=by
 have hlen:=hL.sl.hlen
 obtain ⟨t,ht⟩:∃ t,t=zN zs:=⟨_,rfl⟩
 have htl:t.length=m:=by rw[ht,q2C];exact hlen
 rw[← ht]
 obtain ⟨R,hR⟩:∃ R,R=fwdM M l0 t:=⟨_,rfl⟩
 rw[← hR]
 obtain ⟨Q,hQ⟩:∃ Q:Ending→World→Prop,Q=FwQ T0 q d w0 c p l0 M vs Ls t R:=⟨_,rfl⟩
 have HQ:Hid (∀ e w',FwQ T0 q d w0 c p l0 M vs Ls t R e w'→Q e w'):=fun e w' h=>by rw[hQ];exact h
 rw[← hQ]
 have hmk:(Instr.makeSlice 56 (.int .i64 ((m:Int)+1)) (.int .i64 ((m:Int)+1))).run Tryz.prog w=.ok (.slice (some ⟨w.heap.size,0,none⟩) (m+1) (m+1)) (w.alloc (.cells (Array.replicate (m+1) (Value.slice none 0 0)) 33)):=q9J (m+1) (by omega) w
 have hb1:=qd w (.cells (Array.replicate (m+1) (Value.slice none 0 0)) 33)
 have h1:=h.up hb1
 obtain ⟨items,hp⟩:=h1.o.prg
 have jst:=q3e hp.o hp.u hp.l.few
 have c0:(w.alloc (.cells (Array.replicate (m+1) (Value.slice none 0 0)) 33)).cell? ⟨c,0,none⟩=some (.pointer (some ⟨p,0,none⟩)):=h1.o.c0
 have HIX:Hid (∀ i:Nat,i<m+1→∀ w',(Instr.indexAt 56 (.slice (some ⟨w.heap.size,0,none⟩) (m+1) (m+1)) (.int .i64 (i:Int))).run Tryz.prog w'=.ok (.pointer (some ⟨w.heap.size,i,none⟩)) w'):=fun i hi w'=>q1K w.heap.size (m+1) i hi w'
 have hi0:∀ w',(Instr.indexAt 56 (.slice (some ⟨w.heap.size,0,none⟩) (m+1) (m+1)) (.int .i64 0)).run Tryz.prog w'=.ok (.pointer (some ⟨w.heap.size,0,none⟩)) w':=fun w'=>HIX.out 0 (by omega) w'
 have HST:Hid (∀ e w',CloU l0 (w.alloc (.cells (Array.replicate (m+1) (Value.slice none 0 0)) 33)) e w'→∃ a0 k0,e=.returned (.slice a0 l0.length k0)∧w'.cell? ⟨w.heap.size,0,none⟩=some (.slice none 0 0)∧w'.frozen? ⟨w.heap.size,0,none⟩=false∧∃ rs,FwR T0 q d w0 c p l0 M vs Ls t R w.heap.size 0 (w'.setCell ⟨w.heap.size,0,none⟩ (.slice a0 l0.length k0)) F rs):=fun e w' hc=>by
  obtain ⟨hbw,a0,k0,he,hU⟩:=qaT hp.o.lt hc
  have hnew:∀ j,j<l0.length→(adOf a0 j).block≠w.heap.size:=fun j hj e2=>by
   rcases hc.2 with ⟨e3,_⟩ | ⟨G,t3,_,e3,_⟩
   ·rw[e3]at hj;simp at hj
   ·rw[he]at e3
    injection e3 with e3
    injection e3 with e4 _ _
    rw[e4]at e2
    simp[adOf,qj]at e2
    try omega
  have hrow:RwU w' w.heap.size (List.replicate (m+1) nilU):=(hbw.block _ (by simp)).trans (RwU.made w (m+1))
  have hcl:=h1.up hbw
  have hng:¬ F w.heap.size:=fun e=>Nat.lt_irrefl _ (h.flt _ e)
  have hgc:c<w.heap.size:=h.o.clt
  have hng2:∀ y,y<256→(vAt vs y).ownBlock≠some w.heap.size:=fun y hy e=>Nat.lt_irrefl _ (h.o.rlt hy e)
  have hlg:∀ y,y<256→∀ r∈Ls y,∀ j,j<r.len→(adOf r.a j).block≠w.heap.size:=fun y hy r hr j hj e=>by
   have:=(h.o.lst y hy r hr).us.sl.blk j hj
   omega
  refine ⟨a0,k0,he,hrow.cell (i:=0) (r:=nilU) (by simp),hrow.fz 0,(List.replicate (m+1) nilU).set 0 ⟨a0,l0.length,k0,l0⟩,hcl.row hng hgc hng2 hlg _ _,hrow.set 0 ⟨a0,l0.length,k0,l0⟩,by simp[htl],hng,hgc,hng2,hlg,fun j r hj hr=>?_,⟨a0,l0.length,k0,l0⟩,by simp,hp.l.few,hbd,by rw[hR];simp⟩
  obtain rfl:j=0:=by omega
  rw[List.getElem?_set_self (by simp)]at hr
  injection hr with hr
  subst hr
  exact LsU.set ⟨hU,hnew⟩ _ _
 have HL:Hid _:=hL
 have HC:Hid (Closed fuelN (lettersL t) M):=by rw[ht];exact hC
 have HTT:Hid (t=zN zs):=ht
 have HTL:Hid (t.length=m):=htl
 have HZL:Hid (zs.length=m):=hlen
 clear h h1 hb1 hp hL hC hbd hlen ht htl hR hQ
 generalize l0.length=L0 at *
 go_enter Tryz.func61,Tryz.ntmps61
 go_wp2_with fail
 refine jst.mono ?_
 intro e w2 hq
 obtain ⟨a0,k0,rfl,cg,zg,rs0,hF0⟩:=HST.out e w2 hq
 have HF0:Hid _:=hF0
 clear jst hq hF0 HST c0 hmk
 go_wp2
 go_loopw [24] (fun i wr=>∃ (k:Nat) (Fj:Nat→Prop) (rs:List PcU),k≤m∧i=.int .i64 (k:Int)∧Hid (FwR T0 q d w0 c p l0 M vs Ls t R w.heap.size k wr Fj rs)) (fun i _=>m - (intOf i).toNat)
 case atStart=>exact ⟨0,F,rs0,Nat.zero_le _,rfl,HF0⟩
 case round =>
  clear HF0 cg zg hi0
  obtain ⟨k,Fj,rs,hk,rfl,HF⟩:=hrel
  by_cases hlt:k<m
  ·have hkz:k<zs.length:=by have:=HZL.out;omega
   have hS:=HL.out.sl.up HF.out.s.bel
   have hixz:=fun w'=>hS.idx m k w' hlt (Nat.le_refl _)
   have hce:=hS.cell k hlt
   have hok:=HL.out.ok zs[k] (List.getElem_mem hkz)
   have hgd:zs.getD k 0=zs[k]:=by simp[List.getD,hkz]
   rw[hgd]at hce
   obtain ⟨x,hx⟩:=Int.eq_ofNat_of_zero_le hok.1
   have hx8:x<256:=by omega
   have HTX:Hid (t[k]? = some x):=by
    show _=_
    rw[HTT.out]
    simp[zN,hkz,hx]
   rw[hx]at hce
   obtain ⟨r,hr,hrl,hrb,hRR⟩:=HF.out.now
   have hlu:=HF.out.all k r (Nat.le_refl _) hr
   have hrn:r.len=r.ts.length:=hlu.us.sl.len
   have hcg:wr.cell? ⟨w.heap.size,k,none⟩=some (.slice r.a r.ts.length r.cap):=by rw[← hrn];exact HF.out.row.cell hr
   have hixk:=HIX.out k (by omega)
   have hixk1:∀ w',(Instr.indexAt 56 (.slice (some ⟨w.heap.size,0,none⟩) (m+1) (m+1)) (.int .i64 ((k:Int)+1))).run Tryz.prog w'=.ok (.pointer (some ⟨w.heap.size,k+1,none⟩)) w':=fun w'=>HIX.out (k+1) (by omega) w'
   have c0:wr.cell? ⟨c,0,none⟩=some (.pointer (some ⟨p,0,none⟩)):=HF.out.s.o.c0
   have hbd:Below wr.heap.size wr wr.drew:=(Below.refl _ _).drew
   have sd:=HF.out.s.up hbd
   obtain ⟨items,hp⟩:=sd.o.prg
   have hrU:US wr.drew Fj r.a r.ts.length r.cap r.ts:=by have:=(hlu.us.up hbd);rw[hrn]at this;exact this
   have js0:=q3s hx8 hp.o (sd.tab.up sd.bel) hp.g r.a r.cap r.ts ⟨hrU,hrl,hrb⟩
   have htl:=World.block_lt_of_cell? _ _ ((sd.tab.up sd.bel) 0 (by decide))
   have hdk:t.drop k=x::t.drop (k+1):=by
    obtain ⟨h1,h2⟩:=List.getElem?_eq_some_iff.1 HTX.out
    rw[List.drop_eq_getElem_cons h1,h2]
   have hxl:x∈lettersL t:=q4N.2 ⟨hx8,List.mem_of_getElem? HTX.out⟩
   cases hst:stepM fuelN x r.ts [] M with
   | none =>
    have js:Calls Tryz.prog 15 #[.pointer (some ⟨p,0,none⟩),.slice r.a r.ts.length r.cap,.int .u8 (x:Int)] wr.drew fun e w'=>e=.returned (.tuple #[.slice none 0 0,.int .i64 9])∧Q (.returned (.tuple #[.slice none 0 0,.int .i64 9])) w':=js0.mono fun e w' hq=>by
     obtain ⟨F',i',fr,⟨_,he,_⟩ | ⟨L,M',q',d',h1,_⟩⟩:=hq
     ·exact ⟨he,HQ.out _ _ (Or.inl ⟨by rw[hRR,hdk,fwdM,hst];rfl,rfl,sd.bel.trans (fr.below sd.ge sd.bel.size)⟩)⟩
     ·rw[hst]at h1;cases h1
    clear js0 sd hp htl hrU hlu hrn hst hdk hRR hS hok hgd hx hbd HF
    generalize r.ts.length=RL at *
    generalize adOf b k=ad at *
    obtain ⟨ga,oa,sa⟩:=ad
    go_upto_region 20 with fail
    go_region_with (first
     | (revert js;intro js;go_at_call 15;(with_reducible refine js.mono ?_);rintro e w3 ⟨rfl,hq2⟩;have HE:Hid _:=hq2)
     | fail)
    all_goals
     clear js
     go_wp2
     exact HE.out
   | some z =>
    obtain ⟨L,M2⟩:=z
    have e2:=HC.out.step hxl r.ts [] hrb hst
    subst e2
    have js:Calls Tryz.prog 15 #[.pointer (some ⟨p,0,none⟩),.slice r.a r.ts.length r.cap,.int .u8 (x:Int)] wr.drew fun e w3=>∃ q2 d2 L2 F2 v,e=.returned (.tuple #[.slice q2 L2 d2,.int .i64 0])∧w3.cell? ⟨w.heap.size,k+1,none⟩=some v∧w3.frozen? ⟨w.heap.size,k+1,none⟩=false∧Hid (∃ rs2,FwR T0 q d w0 c p l0 M2 vs Ls t R w.heap.size (k+1) (w3.setCell ⟨w.heap.size,k+1,none⟩ (.slice q2 L2 d2)) F2 rs2):=js0.mono fun e w3 hq=>by
     obtain ⟨F2,i2,fr,⟨h1,_⟩ | ⟨L1,M1,q2,d2,h1,he,hU,hO,hnw⟩⟩:=hq
     ·rw[hst]at h1;cases h1
     ·rw[hst]at h1
      injection h1 with h1
      injection h1 with h1 h2
      subst h1 h2
      have hgl:=HF.out.row.lt
      have hk1:k+1<rs.length:=by rw[HF.out.len,HTL.out];omega
      have hrow:RwU w3 w.heap.size rs:=(fr.keep _ hgl HF.out.ng).trans HF.out.row
      exact ⟨q2,d2,L.length,F2,_,he,hrow.cell (List.getElem?_eq_getElem hk1),hrow.fz _,_,HF.out.next (r2:=⟨q2,L.length,d2,L⟩) HTX.out ⟨i2,hO,hp.u.fr fr,hp.l,fr.out hp.g htl⟩ ((Fr.ofBelow hbd).trans fr) hU hnw (fun r' hr'=>by rw[hr]at hr';injection hr' with hr';subst hr';exact hst)⟩
    clear js0 sd hp htl hrU hlu hrn hst hdk hRR hS hok hgd hx hbd HF
    generalize r.ts.length=RL at *
    generalize adOf b k=ad at *
    obtain ⟨ga,oa,sa⟩:=ad
    go_upto_region 20 with fail
    go_region_with (first
     | (revert js;intro js;go_at_call 15;(with_reducible refine js.mono ?_);rintro e w3 ⟨q2,d2,L2,F2,v,rfl,cv,zv,HN3⟩)
     | fail)
    all_goals
     clear js hcg hce c0 hixz hixk
     obtain ⟨rs2,hN3⟩:=HN3.out
     have HN4:Hid _:=hN3
     clear hN3 HN3
     go_wp2
     go_roundw
     case rel=>exact ⟨k+1,F2,rs2,by omega,by go_num,HN4⟩
     case measure=>simp[intOf] <;> omega
  ·obtain rfl:k=m:=by omega
   have hf:=HF.out
   rw[← HTL.out]at hf
   have HE:Hid (Q (.returned (.tuple #[.slice (some ⟨w.heap.size,0,none⟩) (k+1) (k+1),.int .i64 0])) wr):=HQ.out _ _ (Or.inr ⟨rs,w.heap.size,Fj,hf.fin,by rw[HTL.out],hf⟩)
   clear hf HF
   go_wp2
   exact HE.out
theorem q8M{f g:Nat→Bool}{m n:Nat}(h:∀ j,(decide (j<m)&&f j)=(decide (j<n)&&g j)):bitsN f m=bitsN g n:=Nat.eq_of_testBit_eq fun j=>by rw[q4F,q4F,h j]
def endF (M:Mt) (k:Nat):Bool:=decide (k<M.length)&&endB (growT (M.getD k []))
theorem qbL{M:Mt}(h:M.length≤64):bitsN (endF M) 64=endS M:=q8M fun j=>by
 unfold endF
 by_cases hj:j<M.length
 ·simp[hj];omega
 ·simp[hj]
theorem qbM{M:Mt}(hM:GoodM M)(k:Nat):FinP M [2 ^ k]↔endF M k=true:=by
 unfold FinP
 rw[q4X]
 unfold endF
 constructor
 ·intro h
  have hk:=qdE h
  obtain ⟨T,kT,h1,h2⟩:=q8X hM hk
  rw[h2,((qF T).1 kT).2 ((q37 kT h1).1 h)]
  simp[hk]
 ·intro h
  have h3:=Bool.and_eq_true _ _ ▸ h
  have hk:k<M.length:=by simpa using h3.1
  obtain ⟨T,kT,h1,h2⟩:=q8X hM hk
  rw[h2]at h3
  exact (q37 kT h1).2 (((qF T).1 kT).1 h3.2)
theorem qbm{h k:Nat}(hh:h<2 ^ 64)(hk:k<64):bits BinOp.or IntKind.u64 (h:Int) (IntKind.u64.wrap (2 ^ k))=((h ||| 2 ^ k:Nat):Int):=by
 rw[q9d hk]
 exact u64_or_nat _ _ hh (pow64 hk)
theorem q3V(f:Nat→Bool){n:Nat}(hn:n≤64):bitsN f n<2 ^ 64:=Nat.lt_of_lt_of_le (q8L f n) (Nat.pow_le_pow_right (by decide) hn)
theorem q6r{T0:Tr}{q:Option Addr}{d:Nat}{w0 w:World}{F:Nat→Prop}{c p:Nat}{l0:List Nat}{M:Mt}{vs:List Value}{Ls:Nat→List PcU}(h:ClS T0 q d w0 w F c p l0 M vs Ls) :
  Calls Tryz.prog 89 #[.pointer (some ⟨c,0,none⟩)] w fun e w'=>e=.returned (.int .u64 (endS M:Int))∧Below w.heap.size w w':=by
 have hall:=qbL h.good.few
 rw[← hall]
 have HH:Hid _:=h
 clear h hall
 go_enter Tryz.func89,Tryz.ntmps89
 go_wp2
 go_loopw [3,5] (fun v i wr=>∃ n:Nat,n≤64∧i=.int .i64 (n:Int)∧v=.int .u64 (bitsN (endF M) n:Int)∧Hid (Below w.heap.size w wr)) (fun _ i _=>64 - (intOf i).toNat)
 case atStart=>exact ⟨0,by omega,rfl,rfl,Below.refl _ _⟩
 case round =>
  obtain ⟨n,hn,rfl,rfl,HB⟩:=hrel
  by_cases hlt:n<64
  ·have sd:=(HH.out.up HB.out).up (Below.refl _ _).drew
   have hk00:wr.cell? ⟨c,0,none⟩=some (.pointer (some ⟨p,0,none⟩)):=(HH.out.up HB.out).o.c0
   have hk0:wr.drew.cell? ⟨c,0,none⟩=some (.pointer (some ⟨p,0,none⟩)):=sd.o.c0
   have ja:Calls Tryz.prog 119 #[.int .i64 (n:Int)] wr.drew fun e w'=>e=.returned (.slice (some ⟨wr.heap.size,0,none⟩) 1 1)∧w'=oneW wr.drew n:=q2f n hlt wr.drew
   have h1:=sd.up (qd wr.drew (.cells #[.int .u64 ((2 ^ n:Nat):Int)] 52))
   have hk1:(oneW wr.drew n).cell? ⟨c,0,none⟩=some (.pointer (some ⟨p,0,none⟩)):=h1.o.c0
   obtain ⟨items,hp⟩:=h1.o.prg
   have jf:Calls Tryz.prog 18 #[.pointer (some ⟨p,0,none⟩),.slice (some ⟨wr.heap.size,0,none⟩) 1 1] (oneW wr.drew n) fun e w'=>e=.returned (.bool (endF M n))∧Hid (Below w.heap.size w w'):=(q3b hp.o _ 1 [2 ^ n] (q9c sd.flt n).sl (qbB hlt)).mono fun e w' ⟨⟨b,he,hb⟩,hbw⟩=>by
    refine ⟨?_,qe HB.out (qe ((Below.refl _ _).drew.trans ((qd wr.drew _).mono (Nat.le_refl _))) hbw)⟩
    rw[he]
    have:b=endF M n:=by
     have:=hb.trans (qbM sd.good n)
     cases b <;> cases hE:endF M n <;> simp_all
    rw[this]
   have hmin:min n 64=n:=by omega
   have HOR:Hid _:=qbm (q3V (endF M) (Nat.le_of_lt hlt)) hlt
   have HBN:Hid (bitsN (endF M) (n+1)=if endF M n then bitsN (endF M) n ||| 2 ^ n else bitsN (endF M) n):=rfl
   clear sd h1 hp
   generalize hb:endF M n=bb at *
   clear hb
   generalize bitsN (endF M) n=hn0 at *
   cases bb with
   | true =>
    go_upto_region 20 with fail
    go_region_with (first
     | (revert ja;intro ja;go_at_call 119;(with_reducible refine ja.mono ?_);rintro e w1 ⟨rfl,rfl⟩)
     | (revert jf;intro jf;go_at_call 18;(with_reducible refine jf.mono ?_);rintro e w2 ⟨rfl,HB2⟩)
     | fail)
    all_goals
     clear ja jf hk00 hk0 hk1
     go_wp2
     go_roundw
     case rel=>exact ⟨n+1,by omega,by go_num,by rw[HOR.out,HBN.out];rfl,HB2⟩
     case measure=>simp[intOf] <;> omega
   | false =>
    go_upto_region 20 with fail
    go_region_with (first
     | (revert ja;intro ja;go_at_call 119;(with_reducible refine ja.mono ?_);rintro e w1 ⟨rfl,rfl⟩)
     | (revert jf;intro jf;go_at_call 18;(with_reducible refine jf.mono ?_);rintro e w2 ⟨rfl,HB2⟩)
     | fail)
    all_goals
     clear ja jf hk00 hk0 hk1
     go_wp2
     go_roundw
     case rel=>exact ⟨n+1,by omega,by go_num,by rw[HBN.out];rfl,HB2⟩
     case measure=>simp[intOf] <;> omega
  ·obtain rfl:n=64:=by omega
   go_wp2
   go_ret
   exact ⟨rfl,HB.out⟩
def aheadF (Ls:Nat→List PcU) (x h k:Nat):Bool:=hoB (((Ls x)[k]?.map (·.ts)).getD []) h
theorem qan{T0:Tr}{q:Option Addr}{d:Nat}{w0 w:World}{F:Nat→Prop}{c p:Nat}{l0:List Nat}{M:Mt}{vs:List Value}{Ls:Nat→List PcU}(h:ClS T0 q d w0 w F c p l0 M vs Ls){x:Nat}(hx:x<256)(hf:(Ls x).length=M.length)(hd:Nat):bitsN (aheadF Ls x hd) (Ls x).length=aheadS M x hd:=by
 unfold aheadS
 rw[hf]
 refine q8M fun j=>?_
 by_cases hj:j<M.length
 ·simp only[hj,decide_true,Bool.true_and]
  have hjl:j<(Ls x).length:=by omega
  have h1:=(h.o.dn x hx j _ (List.getElem?_eq_getElem hjl)).2 M (List.prefix_refl _)
  unfold aheadF stepL
  rw[List.getElem?_eq_getElem hjl,h1]
  rfl
 ·simp[hj]
theorem q6o{T0:Tr}{q:Option Addr}{d:Nat}{w0 w:World}{F:Nat→Prop}{c p:Nat}{l0:List Nat}{M:Mt}{vs:List Value}{Ls:Nat→List PcU}(h:ClS T0 q d w0 w F c p l0 M vs Ls)(x hd:Nat)(hx:x<256)(hh:hd<2 ^ 64)(hf:(Ls x).length=M.length) :
  Calls Tryz.prog 90 #[.pointer (some ⟨c,0,none⟩),.int .u8 (x:Int),.int .u64 (hd:Int)] w fun e w'=>e=.returned (.int .u64 (aheadS M x hd:Int))∧Below w.heap.size w w':=by
 have hall:=qan h hx hf hd
 rw[← hall]
 have h64:(Ls x).length≤64:=by rw[hf];exact h.good.few
 have hrow:=h.o.row x hx
 obtain ⟨av,cv,hv⟩:=qt hrow
 have cx:=h.o.cx hx
 rw[hv]at cx
 have hixc:=fun w'=>q9w c x hx w'
 have HAT:Hid (∀ k:Nat,k<(Ls x).length→∃ g o r,(Ls x)[k]? = some r∧(∀ w',(Instr.indexAt 56 (.slice av (Ls x).length cv) (.int .i64 (k:Int))).run Tryz.prog w'=.ok (.pointer (some ⟨g,o,none⟩)) w')∧w.cell? ⟨g,o,none⟩=some (.slice r.a r.len r.cap)∧USl w r.a r.len r.cap r.ts∧Sm r.ts):=fun k hk=>by
  have hr:=List.getElem?_eq_getElem hk
  have hmem:=List.getElem_mem hk
  obtain ⟨hkM,hdn⟩:=h.o.dn x hx k _ hr
  have hstp:=hdn M (List.prefix_refl _)
  have hbd:=(q50 h.good (q3C hkM) hstp).1.bd
  rw[hv]at hrow
  rcases hrow.2 with ⟨e,e0⟩ | ⟨g,cap',cur,e,_,hcell,hnc,_,hsz,htk⟩
  ·omega
  ·injection e with e1 _ e3
   subst e1 e3
   refine ⟨g,k,_,hr,fun w'=>?_,?_,(h.o.lst x hx _ hmem).us.sl,qG hbd h.good.few⟩
   ·simp[Instr.indexAt,run_underlying Tryz.underlying56,asIntOf,qu (show (Tryz.prog.info? 33).map (·.size)=some 1 by kernel_rfl),hk,Result.andThen,go_sem,qj]
   ·rw[qb hcell k]
    have:cur.toList[k]? = ((Ls x).map pcV)[k]? := by rw[← htk,List.getElem?_take,if_pos (by omega)]
    rw[← Array.getElem?_toList,this]
    simp[hk,pcV]
 clear h hall hrow hv hf
 generalize hLL:(Ls x).length=ll at *
 have HLL:Hid _:=hLL
 clear hLL
 go_enter Tryz.func90,Tryz.ntmps90
 go_wp2
 go_loopw [7,17] (fun v i wr=>∃ n:Nat,n≤ll∧i=.int .i64 (n:Int)∧v=.int .u64 (bitsN (aheadF Ls x hd) n:Int)∧Hid (Below w.heap.size w wr)) (fun _ i _=>ll - (intOf i).toNat)
 case atStart=>exact ⟨0,by omega,rfl,rfl,Below.refl _ _⟩
 case round =>
  clear cx hixc
  obtain ⟨n,hn,rfl,rfl,HB⟩:=hrel
  by_cases hlt:n<ll
  ·obtain ⟨g,o,r,hr,hix,hce,hU,hS⟩:=HAT.out n hlt
   have ce:=qA hce HB.out
   have jh:=q1m r.a r.len r.cap r.ts hd wr (hU.up HB.out) hS hh
   have hmin:min n 64=n:=by omega
   have HOR:Hid _:=qbm (q3V (aheadF Ls x hd) (show n≤64 by omega)) (show n<64 by omega)
   have HBN:Hid (bitsN (aheadF Ls x hd) (n+1)=if hoB r.ts hd then bitsN (aheadF Ls x hd) n ||| 2 ^ n else bitsN (aheadF Ls x hd) n):=by
    show _=_
    rw[bitsN]
    have:aheadF Ls x hd n=hoB r.ts hd:=by unfold aheadF;rw[hr];rfl
    rw[this]
   have HBB:Hid _:=HB.out
   clear hr hce hU hS
   generalize hoB r.ts hd=bb at *
   generalize bitsN (aheadF Ls x hd) n=hn0 at *
   obtain ⟨ra,rl,rc,rt⟩:=r
   dsimp only at *
   go_wp2_with fail
   refine jh.mono ?_
   rintro e w2 ⟨rfl,hb2⟩
   have HB2:Hid (Below w.heap.size w w2):=qe HBB.out hb2
   clear jh hb2 ce hix
   cases bb with
   | true =>
    go_wp2
    go_roundw
    case rel=>exact ⟨n+1,by omega,by go_num,by rw[HOR.out,HBN.out];rfl,HB2⟩
    case measure=>simp[intOf] <;> omega
   | false =>
    go_wp2
    go_roundw
    case rel=>exact ⟨n+1,by omega,by go_num,by rw[HBN.out];rfl,HB2⟩
    case measure=>simp[intOf] <;> omega
  ·obtain rfl:n=ll:=by omega
   go_wp2
   go_ret
   exact ⟨rfl,HB.out⟩
def HsAt (w:World) (g:Nat) (hs:List Nat):Prop:=w.heap[g]? = some (.cells (hs.map fun h:Nat=>Value.int .u64 (h:Int)).toArray 52 (0,0))
theorem HsAt.lt{w:World}{g:Nat}{hs:List Nat}(h:HsAt w g hs):g<w.heap.size:=(Array.getElem?_eq_some_iff.1 h).1
theorem HsAt.up{w w':World}{g:Nat}{hs:List Nat}(h:HsAt w g hs)(hb:Below w.heap.size w w'):HsAt w' g hs:=(hb.block g h.lt).trans h
theorem HsAt.cell{w:World}{g:Nat}{hs:List Nat}(h:HsAt w g hs){i x:Nat}(hi:hs[i]? = some x):w.cell? ⟨g,i,none⟩=some (.int .u64 (x:Int)):=by
 unfold HsAt at h
 rw[qb h i]
 simp[hi]
theorem HsAt.fz{w:World}{g:Nat}{hs:List Nat}(h:HsAt w g hs)(i:Nat):w.frozen? ⟨g,i,none⟩=false:=frozen_of_row w g i _ _ h
theorem HsAt.set{w:World}{g:Nat}{hs:List Nat}(h:HsAt w g hs)(i x:Nat):HsAt (w.setCell ⟨g,i,none⟩ (.int .u64 (x:Int))) g (hs.set i x):=by
 unfold HsAt at h ⊢
 rw[heap_setCell_same w g i _ _ _ h]
 congr 2
 simp
theorem HsAt.usl{w:World}{g:Nat}{hs:List Nat}(h:HsAt w g hs)(hl:hs.length≤100000):USl w (some ⟨g,0,none⟩) hs.length hs.length hs:=by
 have e:(hs.map fun h:Nat=>Value.int .u64 (h:Int))=((iU hs).map (Value.int .u64)):=by simp[iU]
 unfold HsAt at h
 rw[e]at h
 have h2:SoAt w g (iU hs).toArray []:=by unfold SoAt;simpa using h
 exact h2.usl rfl rfl (Nat.le_refl _) (by unfold maxLen;omega)
theorem q7G:(Tryz.prog.info? 52).map (fun i=>(i.zero,i.size,i.bytes))=some (some (.int .u64 0),1,8):=by kernel_rfl
theorem q5P(g n i:Nat)(hi:i<n)(w:World):(Instr.indexAt 33 (.slice (some ⟨g,0,none⟩) n n) (.int .i64 (i:Int))).run Tryz.prog w=.ok (.pointer (some ⟨g,i,none⟩)) w:=by
 simp[Instr.indexAt,run_underlying Tryz.underlying33,asIntOf,qu (show (Tryz.prog.info? 52).map (·.size)=some 1 by kernel_rfl),hi,Result.andThen,go_sem,qj]
theorem qdu(n:Nat):madeCells #[.int .u64 0] n=Array.replicate n (Value.int .u64 0):=by
 unfold madeCells
 apply Array.ext
 ·simp
 ·intro i h1 h2
  simp[Nat.mod_one]
theorem q9I(l:Nat)(hb:l≤100000)(w:World) :
  (Instr.makeSlice 33 (.int .i64 (l:Int)) (.int .i64 (l:Int))).run Tryz.prog w=.ok (.slice (some ⟨w.heap.size,0,none⟩) l l) (w.alloc (.cells (Array.replicate l (Value.int .u64 0)) 52)):=by
 obtain ⟨i,hi,hz0,hz1,hz2⟩:=info_parts q7G
 have:=run_make (P:=Tryz.prog) w 33 52 i (.int .u64 0) Tryz.underlying33 hi hz0 .i64 .i64 (l:Int) (l:Int) (by omega) (by omega) (by rw[hz2];omega) (by omega)
 rw[this,hz1]
 simp only[Int.toNat_natCast,Nat.mul_one]
 have e:(Value.int .u64 0).cells=#[.int .u64 0]:=rfl
 rw[e,qdu]
theorem HsAt.made(w:World)(l:Nat):HsAt (w.alloc (.cells (Array.replicate l (Value.int .u64 0)) 52)) w.heap.size (List.replicate l 0):=by
 unfold HsAt
 rw[(MapKept.heap_alloc w _).1]
 simp
structure BwR (M:Mt) (t:List Nat) (w wr:World) (i:Nat) (hs:List Nat):Prop where
 row:HsAt wr w.heap.size hs
 len:hs.length=t.length+1
 all:∀ j,i≤j→j≤t.length→hs[j]? = some ((backL M (t.drop j)).headD 0)
 bel:Below w.heap.size w wr
theorem q9X{M:Mt}(hM:M.length≤64):∀ t,(backL M t).headD 0<2 ^ 64
 | []=>q3V _ hM
 | _::_=>q3V _ hM
theorem BwR.fin{M:Mt}{t:List Nat}{w wr:World}{hs:List Nat}(h:BwR M t w wr 0 hs):hs=backL M t:=List.ext_getElem? fun j=>by
 by_cases hj:j≤t.length
 ·rw[h.all j (Nat.zero_le _) hj,q5r M t j hj]
 ·rw[List.getElem?_eq_none (by rw[h.len];omega),List.getElem?_eq_none (by rw[q3U];omega)]
theorem q2G{T0:Tr}{q:Option Addr}{d:Nat}{w0 w:World}{F:Nat→Prop}{c p:Nat}{l0:List Nat}{M:Mt}{vs:List Value}{Ls:Nat→List PcU}(h:ClS T0 q d w0 w F c p l0 M vs Ls)(b:Option Addr)(m cc:Nat)(zs:List Int)(hL:LtSl w0 b m cc zs)(hm:m≤1024)(hf:∀ y,y<256→y∈zN zs→(Ls y).length=M.length) :
  Calls Tryz.prog 60 #[.pointer (some ⟨c,0,none⟩),.slice b m cc] w fun e w'=>e=.returned (.slice (some ⟨w.heap.size,0,none⟩) (m+1) (m+1))∧HsAt w' w.heap.size (backL M (zN zs))∧Below w.heap.size w w':=by
 have hlen:=hL.sl.hlen
 obtain ⟨t,ht⟩:∃ t,t=zN zs:=⟨_,rfl⟩
 have htl:t.length=m:=by rw[ht,q2C];exact hlen
 rw[← ht]at hf ⊢
 have hmk:(Instr.makeSlice 33 (.int .i64 ((m:Int)+1)) (.int .i64 ((m:Int)+1))).run Tryz.prog w=.ok (.slice (some ⟨w.heap.size,0,none⟩) (m+1) (m+1)) (w.alloc (.cells (Array.replicate (m+1) (Value.int .u64 0)) 52)):=q9I (m+1) (by omega) w
 have hb1:=qd w (.cells (Array.replicate (m+1) (Value.int .u64 0)) 52)
 have h1:=h.up hb1
 have je:=q6r h1
 have HIX:Hid (∀ i:Nat,i<m+1→∀ w',(Instr.indexAt 33 (.slice (some ⟨w.heap.size,0,none⟩) (m+1) (m+1)) (.int .i64 (i:Int))).run Tryz.prog w'=.ok (.pointer (some ⟨w.heap.size,i,none⟩)) w'):=fun i hi w'=>q5P w.heap.size (m+1) i hi w'
 have him:=HIX.out m (by omega)
 have HH:Hid _:=h
 have HL:Hid _:=hL
 have HF:Hid _:=hf
 have HTT:Hid (t=zN zs):=ht
 have HTL:Hid (t.length=m):=htl
 have HZL:Hid (zs.length=m):=hlen
 have HST:Hid (∀ w',Below (w.alloc (.cells (Array.replicate (m+1) (Value.int .u64 0)) 52)).heap.size (w.alloc (.cells (Array.replicate (m+1) (Value.int .u64 0)) 52)) w'→w'.cell? ⟨w.heap.size,m,none⟩=some (.int .u64 0)∧w'.frozen? ⟨w.heap.size,m,none⟩=false∧∃ hs,BwR M t w (w'.setCell ⟨w.heap.size,m,none⟩ (.int .u64 (endS M:Int))) m hs):=fun w' hb=>by
  have hrow:HsAt w' w.heap.size (List.replicate (m+1) 0):=(HsAt.made w (m+1)).up hb
  refine ⟨hrow.cell (i:=m) (x:=0) (by simp),hrow.fz m,_,hrow.set m (endS M),by simp[htl],fun j h1 h2=>?_,q1d (qe hb1 hb) _ _ (Nat.le_refl _)⟩
  obtain rfl:j=m:=by omega
  rw[List.getElem?_set_self (by simp),List.drop_of_length_le (by omega)]
  rfl
 clear h h1 hL hf hb1 ht htl hlen
 generalize hES:endS M=es at *
 clear hES
 go_enter Tryz.func60,Tryz.ntmps60
 go_wp2_with fail
 refine je.mono ?_
 rintro e w2 ⟨rfl,hb2⟩
 obtain ⟨cm,zm,hs0,hB0⟩:=HST.out w2 hb2
 have HB0:Hid _:=hB0
 clear je hb2 hB0 HST hmk
 go_wp2
 go_loopw [6] (fun i wr=>∃ (k:Nat) (hs:List Nat),k≤m∧i=.int .i64 ((k:Int) - 1)∧Hid (BwR M t w wr k hs)) (fun i _=>(intOf i+1).toNat)
 case atStart=>exact ⟨m,hs0,Nat.le_refl _,by go_num,HB0⟩
 case round =>
  clear HB0 cm zm him
  obtain ⟨k,hs,hk,rfl,HB⟩:=hrel
  by_cases hlt:0<k
  ·obtain ⟨i,rfl⟩:∃ i,k=i+1:=⟨k - 1,by omega⟩
   rw[show (((i+1:Nat):Int) - 1)=(i:Int) by omega]
   have hlt2:i<m:=by omega
   have hkz:i<zs.length:=by have:=HZL.out;omega
   have hbw:=HB.out.bel
   have scl:=HH.out.up hbw
   have hS:=HL.out.sl.up scl.bel
   have hixz:=fun w'=>hS.idx m i w' hlt2 (Nat.le_refl _)
   have hce:=hS.cell i hlt2
   have hok:=HL.out.ok zs[i] (List.getElem_mem hkz)
   have hgd:zs.getD i 0=zs[i]:=by simp[List.getD,hkz]
   rw[hgd]at hce
   obtain ⟨x,hx⟩:=Int.eq_ofNat_of_zero_le hok.1
   have hx8:x<256:=by omega
   have hTX:t[i]? = some x:=by
    rw[HTT.out]
    simp[zN,hkz,hx]
   rw[hx]at hce
   have hdk:t.drop i=x::t.drop (i+1):=by
    obtain ⟨h1,h2⟩:=List.getElem?_eq_some_iff.1 hTX
    rw[List.drop_eq_getElem_cons h1,h2]
   have hnx:=HB.out.all (i+1) (Nat.le_refl _) (by rw[HTL.out];omega)
   have h64:=q9X scl.good.few (t.drop (i+1))
   have sd:=scl.up (Below.refl _ _).drew
   have ja0:=q6o sd x ((backL M (t.drop (i+1))).headD 0) hx8 h64 (HF.out x hx8 (List.mem_of_getElem? hTX))
   have hil:i<hs.length:=by rw[HB.out.len,HTL.out];omega
   have c1:=HB.out.row.cell hnx
   have hixi:=HIX.out i (by omega)
   have hixi1:∀ w',(Instr.indexAt 33 (.slice (some ⟨w.heap.size,0,none⟩) (m+1) (m+1)) (.int .i64 ((i:Int)+1))).run Tryz.prog w'=.ok (.pointer (some ⟨w.heap.size,i+1,none⟩)) w':=fun w'=>HIX.out (i+1) (by omega) w'
   have ja:Calls Tryz.prog 90 #[.pointer (some ⟨c,0,none⟩),.int .u8 (x:Int),.int .u64 (((backL M (t.drop (i+1))).headD 0:Nat):Int)] wr.drew fun e w3=>∃ (z:Nat) (y:Int),e=.returned (.int .u64 (z:Int))∧(w3.cell? (adOf b i)=some (.int .u8 (x:Int))∧w3.cell? ⟨w.heap.size,i+1,none⟩=some (.int .u64 (((backL M (t.drop (i+1))).headD 0:Nat):Int)))∧((w3.setCell ⟨w.heap.size,i,none⟩ (.int .u64 (z:Int))).cell? (adOf b i)=some (.int .u8 (x:Int))∧(w3.setCell ⟨w.heap.size,i,none⟩ (.int .u64 (z:Int))).cell? ⟨w.heap.size,i+1,none⟩=some (.int .u64 (((backL M (t.drop (i+1))).headD 0:Nat):Int)))∧w3.cell? ⟨w.heap.size,i,none⟩=some (.int .u64 y)∧w3.frozen? ⟨w.heap.size,i,none⟩=false∧Hid (∃ hs2,BwR M t w (w3.setCell ⟨w.heap.size,i,none⟩ (.int .u64 (z:Int))) i hs2):=ja0.mono fun e w3 ⟨he,hb3⟩=>by
    have hrow:HsAt w3 w.heap.size hs:=(HB.out.row.up (Below.refl _ _).drew).up hb3
    have hbw3:Below w.heap.size w w3:=qe hbw ((Below.refl _ _).drew.trans (hb3.mono (Nat.le_refl _)))
    have hcz:∀ w',Below w.heap.size w w'→w'.cell? (adOf b i)=some (.int .u8 (x:Int)):=fun w' hb=>by
     have:=(HL.out.sl.up (HH.out.up hb).bel).cell i hlt2
     rw[hgd,hx]at this
     exact this
    have hset:=hrow.set i (aheadS M x ((backL M (t.drop (i+1))).headD 0))
    refine ⟨_,_,he,⟨hcz _ hbw3,hrow.cell hnx⟩,⟨hcz _ (q1d hbw3 _ _ (Nat.le_refl _)),hset.cell (by rw[List.getElem?_set_ne (by omega)];exact hnx)⟩,hrow.cell (List.getElem?_eq_getElem hil),hrow.fz i,_,hset,by simp[HB.out.len],fun j h1 h2=>?_,q1d (qe hbw ((Below.refl _ _).drew.trans (hb3.mono (Nat.le_refl _)))) _ _ (Nat.le_refl _)⟩
    by_cases e2:j=i
    ·subst e2
     rw[List.getElem?_set_self hil,hdk]
     rfl
    ·rw[List.getElem?_set_ne (fun h=>e2 h.symm)]
     exact HB.out.all j (by omega) h2
   have hk00:wr.cell? (adOf b i)=some (.int .u8 (x:Int))∧wr.cell? ⟨w.heap.size,i+1,none⟩=some (.int .u64 (((backL M (t.drop (i+1))).headD 0:Nat):Int)):=⟨hce,c1⟩
   have hk0:wr.drew.cell? (adOf b i)=some (.int .u8 (x:Int))∧wr.drew.cell? ⟨w.heap.size,i+1,none⟩=some (.int .u64 (((backL M (t.drop (i+1))).headD 0:Nat):Int)):=⟨hce,c1⟩
   clear ja0 sd scl hS hok hgd hx hTX hdk hnx h64 hbw HB hil
   generalize (backL M (t.drop (i+1))).headD 0=hnxt at *
   generalize adOf b i=ad at *
   obtain ⟨ga,oa,sa⟩:=ad
   have hwr:IntKind.i64.wrap ((i:Int)+1)=(i:Int)+1:=by rw[IntKind.wrap_i64];omega
   go_upto_region 20 with fail
   go_region_held2 (fun w'=>w'.cell? ⟨ga,oa,sa⟩=some (.int .u8 (x:Int))∧w'.cell? ⟨w.heap.size,i+1,none⟩=some (.int .u64 (hnxt:Int))) (first | exact hk0 | exact hk00 | assumption | fail) (first
    | (revert ja;intro ja;go_at_call 90;(with_reducible refine ja.mono ?_);rintro e w3 ⟨z,y,rfl,hk1,hk2,cy,zy,HN⟩)
    | fail)
   all_goals
    clear ja c1 hce hixz hixi1 hk0 hk00 hk1 hk2 hwr
    obtain ⟨hs2,hN⟩:=HN.out
    have HN2:Hid _:=hN
    clear hN HN
    go_wp2
    go_roundw
    case rel=>exact ⟨i,hs2,by omega,by go_num,by first | exact HN2 | exact HN2.out.draw⟩
    case measure=>simp[intOf] <;> omega
  ·obtain rfl:k=0:=by omega
   have e:=HB.out.fin
   subst e
   go_wp2
   go_ret
   exact ⟨rfl,HB.out.row,HB.out.bel⟩
def RowK (w:World) (g:Nat) (cur:List Tk):Prop:=w.heap[g]? = some (.cells (encT cur).toArray 61 (0,0))
theorem RowK.c0{w:World}{g:Nat}{cur:List Tk}(h:RowK w g cur){i:Nat}(hi:i<cur.length):w.cell? ⟨g,2*i,none⟩=some (.int .u8 (cur[i].1:Int)):=by
 unfold RowK at h;simp only[World.cell?,h];simpa using (q2Y cur i hi).1
theorem RowK.c1{w:World}{g:Nat}{cur:List Tk}(h:RowK w g cur){i:Nat}(hi:i<cur.length):w.cell? ⟨g,2*i+1,none⟩=some (.int .u8 (cur[i].2:Int)):=by
 unfold RowK at h;simp only[World.cell?,h];simpa using (q2Y cur i hi).2
theorem RowK.frozen{w:World}{g:Nat}{cur:List Tk}(h:RowK w g cur)(i:Nat):w.frozen? ⟨g,i,none⟩=false:=frozen_of_row w g i _ _ h
theorem q8P:∀ (cur:List Tk) (i:Nat) (t:Tk),((encT cur).set (2*i) (.int .u8 (t.1:Int))).set (2*i+1) (.int .u8 (t.2:Int))=encT (cur.set i t)
 | [],i,t=>by simp[encT]
 | c::cur,0,t=>by simp[q2v]
 | c::cur,i+1,t=>by
  rw[List.set_cons_succ,q2v,q2v,← q8P cur i t,show 2*(i+1)=2*i+1+1 by omega]
  simp
theorem RowK.set{w:World}{g:Nat}{cur:List Tk}(h:RowK w g cur)(i:Nat)(t:Tk):RowK ((w.setCell ⟨g,2*i,none⟩ (.int .u8 (t.1:Int))).setCell ⟨g,2*i+1,none⟩ (.int .u8 (t.2:Int))) g (cur.set i t):=by
 have h1:=heap_setCell_same w g (2*i) _ _ (.int .u8 (t.1:Int)) h
 have h2:=heap_setCell_same _ g (2*i+1) _ _ (.int .u8 (t.2:Int)) h1
 unfold RowK;rw[h2];simp[← q8P]
theorem RowK.tk{w:World}{g:Nat}{cur:List Tk}(h:RowK w g cur)(hm:cur.length≤maxLen)(hok:∀ t∈cur,t.1<256∧t.2<256):TkSl w (some ⟨g,0,none⟩) cur.length cur.length cur:=by
 refine ⟨rfl,Nat.le_refl _,hm,fun hn=>(by cases hn),fun x hx k hk=>?_,fun x hx k hk=>?_,hok⟩
 ·injection hx with hx;subst hx
  rw[qj,Nat.zero_add,h.c0 hk]
 ·injection hx with hx;subst hx
  rw[qj,Nat.zero_add,h.c1 hk]
theorem madeQ(n:Nat):madeCells (Value.agg #[.int .u8 0,.int .u8 0]).cells (n*2)=(encT (List.replicate n (0,0))).toArray:=by
 apply Array.ext_getElem?
 intro i
 have e:(Value.agg #[.int .u8 0,.int .u8 0]).cells=#[.int .u8 0,.int .u8 0]:=rfl
 rw[e]
 by_cases h:i<n*2
 ·have hl:∀ i,i<n*2→(encT (List.replicate n (0,0)))[i]? = some (.int .u8 0):=by
   intro i h
   rcases Nat.mod_two_eq_zero_or_one i with h0 | h0
   ·obtain ⟨k,rfl⟩:∃ k,i=2*k:=⟨i / 2,by omega⟩
    rw[(q2Y _ k (by simp;omega)).1];simp
   ·obtain ⟨k,rfl⟩:∃ k,i=2*k+1:=⟨i / 2,by omega⟩
    rw[(q2Y _ k (by simp;omega)).2];simp
  have hr:(encT (List.replicate n (0,0))).toArray[i]? = some (.int .u8 0):=by simpa using hl i h
  rw[hr]
  rcases Nat.mod_two_eq_zero_or_one i with h0 | h0 <;> simp[madeCells,h,h0]
 ·have hr:(encT (List.replicate n ((0:Nat),(0:Nat)))).toArray[i]? = none:=by
   rw[Array.getElem?_eq_none];rw[List.size_toArray,q8Q];simp;omega
  rw[hr,Array.getElem?_eq_none]
  simp[madeCells];omega
theorem q7F:(Tryz.prog.info? 61).map (fun i=>(i.zero,i.size,i.bytes))=some (some (.agg #[.int .u8 0,.int .u8 0]),2,2):=by kernel_rfl
theorem q7L(l:Nat)(hb:l≤100000000)(w:World) :
  (Instr.makeSlice 22 (.int .i64 (l:Int)) (.int .i64 (l:Int))).run Tryz.prog w=.ok (.slice (some ⟨w.heap.size,0,none⟩) l l) (w.alloc (.cells (encT (List.replicate l (0,0))).toArray 61)):=by
 obtain ⟨i,hi,hz0,hz1,hz2⟩:=info_parts q7F
 have:=run_make (P:=Tryz.prog) w 22 61 i (.agg #[.int .u8 0,.int .u8 0]) Tryz.underlying22 hi hz0 .i64 .i64 (l:Int) (l:Int) (by omega) (by omega) (by rw[hz2];omega) (by omega)
 rw[this,hz1,← madeQ]
 simp only[Int.toNat_natCast]
theorem q7X:(Tryz.prog.info? 61).map (·.size)=some 2:=by kernel_rfl
theorem qaL(g n i:Nat)(hi:i<n)(w:World):(Instr.indexAt 22 (.slice (some ⟨g,0,none⟩) n n) (.int .i64 (i:Int))).run Tryz.prog w=.ok (.pointer (some ⟨g,2*i,none⟩)) w:=by
 simp[Instr.indexAt,run_underlying Tryz.underlying22,asIntOf,qu q7X,hi,Result.andThen,go_sem,qj,Nat.mul_comm]
theorem qae(f:List Tk)(i:Nat)(hi:i<f.length)(hs:f[i].1≤23∧f[i].2≤7)(w:World):(Instr.index 9 (.string (txOf f)) (.int .i64 (i:Int))).run Tryz.prog w=.ok (.int .u8 ((f[i].1*8+f[i].2:Nat):Int)) w:=by
 have hz:(txOf f).size=f.length:=by unfold txOf;simp[ByteArray.size]
 rw[run_index_string w 9 (txOf f) .i64 (i:Int) Tryz.underlying9,dif_pos ⟨by omega,by rw[hz];omega⟩]
 congr 2
 have:((txOf f)[((i:Int)).toNat]'(by rw[hz];omega)).toNat=f[i].1*8+f[i].2:=by
  show (((f.map fun k=>UInt8.ofNat (k.1*8+k.2)).toArray)[i]'(by simpa using hi)).toNat=_
  simp
  omega
 first | exact congrArg (fun n:Nat=>(n:Int)) this | (rw[this])
theorem qaq{op p:Nat}(ho:op≤23)(hp:p≤7):bits .and .u8 ((op*8+p:Nat):Int) 7=(p:Int)∧((op*8+p:Nat):Int) / 8=(op:Int):=by
 refine ⟨?_,by omega⟩
 rcases q44 ho with rfl | rfl | rfl | rfl | rfl | rfl | rfl | rfl | rfl | rfl | rfl | rfl | rfl | rfl | rfl | rfl | rfl | rfl | rfl | rfl | rfl | rfl | rfl | rfl <;>
 ·have:p=0∨p=1∨p=2∨p=3∨p=4∨p=5∨p=6∨p=7:=by omega
  rcases this with rfl | rfl | rfl | rfl | rfl | rfl | rfl | rfl <;> decide
theorem q5n(f:List Tk)(hs:SmT f)(hl:f.length≤20000000)(w:World) :
  Calls Tryz.prog 57 #[.string (txOf f)] w fun e w'=>e=.returned (.slice (some ⟨w.heap.size,0,none⟩) f.length f.length)∧RowK w' w.heap.size f∧Below w.heap.size w w':=by
 have hz:(txOf f).size=f.length:=by unfold txOf;simp[ByteArray.size]
 have hmk:=q7L f.length (by omega) w
 have HR0:Hid (RowK (w.alloc (.cells (encT (List.replicate f.length (0,0))).toArray 61)) w.heap.size (List.replicate f.length (0,0))):=(MapKept.heap_alloc w _).1
 have HB0:Hid _:=qd w (.cells (encT (List.replicate f.length (0,0))).toArray 61)
 have HS:Hid _:=hs
 have HBY:Hid (∀ (i:Nat) (t:Tk),f[i]? = some t→∀ w',(Instr.index 9 (.string (txOf f)) (.int .i64 (i:Int))).run Tryz.prog w'=.ok (.int .u8 ((t.1*8+t.2:Nat):Int)) w'):=fun i t h w'=>by
  obtain ⟨h1,rfl⟩:=List.getElem?_eq_some_iff.1 h
  exact qae f i h1 (hs _ (List.getElem_mem h1)) w'
 clear hs
 generalize txOf f=s at *
 generalize hL:f.length=L at *
 have HL:Hid (f.length=L):=hL
 clear hL
 go_enter Tryz.func57,Tryz.ntmps57
 go_wp2
 go_loopw [10] (fun i wr=>∃ (k:Nat) (cur:List Tk),k≤L∧i=.int .i64 (k:Int)∧Hid (RowK wr w.heap.size cur)∧Hid (cur.length=L)∧Hid (∀ j,j<k→cur[j]? = f[j]?)∧Hid (Below w.heap.size w wr)) (fun i _=>L - (intOf i).toNat)
 case atStart=>exact ⟨0,List.replicate L (0,0),Nat.zero_le _,rfl,HR0,by simp[Hid],fun j hj=>absurd hj (by omega),HB0⟩
 case round =>
  clear HR0 HB0 hmk
  obtain ⟨k,cur,hk,rfl,HR,HCL,HALL,HB⟩:=hrel
  by_cases hlt:k<L
  ·have hkf:k<f.length:=by have:=HL.out;omega
   have hkc:k<cur.length:=by have:=HCL.out;omega
   have hby:=HBY.out k f[k] (List.getElem?_eq_getElem hkf)
   have hsm:=HS.out f[k] (List.getElem_mem hkf)
   have hix:=fun w'=>qaL w.heap.size L k hlt w'
   obtain ⟨y0,c0⟩:∃ y:Int,wr.cell? ⟨w.heap.size,2*k,none⟩=some (.int .u8 y):=⟨_,HR.out.c0 hkc⟩
   obtain ⟨y1,c1⟩:∃ y:Int,wr.cell? ⟨w.heap.size,2*k+1,none⟩=some (.int .u8 y):=⟨_,HR.out.c1 hkc⟩
   have z0:=HR.out.frozen (2*k)
   have z1:=HR.out.frozen (2*k+1)
   have hbp:=qaq hsm.1 hsm.2
   have HRS:Hid _:=HR.out.set k f[k]
   have HCS:Hid ((cur.set k f[k]).length=L):=by show _=_;rw[List.length_set];exact HCL.out
   have HAS:Hid (∀ j,j<k+1→(cur.set k f[k])[j]? = f[j]?):=fun j hj=>by
    by_cases e:j=k
    ·subst e
     rw[List.getElem?_set_self hkc,List.getElem?_eq_getElem hkf]
    ·rw[List.getElem?_set_ne (fun h=>e h.symm)]
     exact HALL.out j (by omega)
   have HBS:Hid (Below w.heap.size w ((wr.setCell ⟨w.heap.size,2*k,none⟩ (.int .u8 (f[k].1:Int))).setCell ⟨w.heap.size,2*k+1,none⟩ (.int .u8 (f[k].2:Int)))):=(HB.out.setCell (Nat.le_refl _) _).setCell (Nat.le_refl _) _
   obtain ⟨t,ht⟩:∃ t,t=f[k]:=⟨_,rfl⟩
   rw[← ht]at hby hsm hbp HRS HCS HAS HBS
   obtain ⟨op,p⟩:=t
   dsimp only at *
   clear ht HR HALL HB hkf hkc hsm
   have HE1:Hid (((op:Int)*8+(p:Int)) / 8=(op:Int)):=by show _=_;have:=hbp.2;simpa using this
   have HE2:Hid (bits .and .u8 ((op:Int)*8+(p:Int)) 7=(p:Int)):=by show _=_;have:=hbp.1;simpa using this
   clear hbp
   go_upto_region 40 with fail
   go_region
   rw[HE1.out,HE2.out]
   go_wp2
   go_roundw
   case rel=>exact ⟨k+1,cur.set k (op,p),by omega,by go_num,HRS,HCS,HAS,HBS.out.drew⟩
   case measure=>simp[intOf] <;> omega
  ·obtain rfl:k=L:=by omega
   have e:cur=f:=List.ext_getElem? fun j=>by
    by_cases hj:j<k
    ·exact HALL.out j hj
    ·rw[List.getElem?_eq_none (by have:=HCL.out;omega),List.getElem?_eq_none (by have:=HL.out;omega)]
   subst e
   go_wp2
   go_ret
   exact ⟨rfl,HR.out,HB.out⟩
def SlAt (w:World) (g:Nat) (rs:List Pc):Prop:=w.heap[g]? = some (.cells (rs.map fun r=>Value.slice r.a r.len r.cap).toArray 22 (0,0))
theorem SlAt.lt{w:World}{g:Nat}{rs:List Pc}(h:SlAt w g rs):g<w.heap.size:=(Array.getElem?_eq_some_iff.1 h).1
theorem SlAt.cell{w:World}{g:Nat}{rs:List Pc}(h:SlAt w g rs){i:Nat}(hi:i<rs.length):w.cell? ⟨g,i,none⟩=some (.slice rs[i].a rs[i].len rs[i].cap):=by
 unfold SlAt at h
 rw[qb h i]
 simp[hi]
theorem SlAt.fz{w:World}{g:Nat}{rs:List Pc}(h:SlAt w g rs)(i:Nat):w.frozen? ⟨g,i,none⟩=false:=frozen_of_row w g i _ _ h
theorem SlAt.set{w:World}{g:Nat}{rs:List Pc}(h:SlAt w g rs)(i:Nat)(r:Pc):SlAt (w.setCell ⟨g,i,none⟩ (.slice r.a r.len r.cap)) g (rs.set i r):=by
 unfold SlAt at h ⊢
 rw[heap_setCell_same w g i _ _ _ h]
 congr 2
 simp
theorem q8B:(Tryz.prog.info? 22).map (·.size)=some 1:=by kernel_rfl
theorem qag(g n i:Nat)(hi:i<n)(w:World):(Instr.indexAt 50 (.slice (some ⟨g,0,none⟩) n n) (.int .i64 (i:Int))).run Tryz.prog w=.ok (.pointer (some ⟨g,i,none⟩)) w:=by
 simp[Instr.indexAt,run_underlying Tryz.underlying50,asIntOf,qu q8B,hi,Result.andThen,go_sem,qj]
theorem q8c:(Tryz.prog.info? 22).map (fun i=>(i.zero,i.size,i.bytes))=some (some (.slice none 0 0),1,24):=by kernel_rfl
theorem qcU(n:Nat):madeCells #[.slice none 0 0] n=Array.replicate n (Value.slice none 0 0):=by
 unfold madeCells
 apply Array.ext
 ·simp
 ·intro i h1 h2
  simp[Nat.mod_one]
theorem q8s(l:Nat)(hb:l≤100)(w:World) :
  (Instr.makeSlice 50 (.int .i64 (l:Int)) (.int .i64 (l:Int))).run Tryz.prog w=.ok (.slice (some ⟨w.heap.size,0,none⟩) l l) (w.alloc (.cells (Array.replicate l (Value.slice none 0 0)) 22)):=by
 obtain ⟨i,hi,hz0,hz1,hz2⟩:=info_parts q8c
 have:=run_make (P:=Tryz.prog) w 50 22 i (.slice none 0 0) Tryz.underlying50 hi hz0 .i64 .i64 (l:Int) (l:Int) (by omega) (by omega) (by rw[hz2];omega) (by omega)
 rw[this,hz1]
 simp only[Int.toNat_natCast,Nat.mul_one]
 have e:(Value.slice none 0 0).cells=#[.slice none 0 0]:=rfl
 rw[e,qcU]
structure AtL (wr:World) (gA m k:Nat) (rs:List Pc) (M:Mt):Prop where
 row:SlAt wr gA rs
 len:rs.length=m
 ts:∀ j:Nat,j<k→(rs[j]?).map (·.ts)=M[j]?
 tk:∀ r∈rs,TkSl wr r.a r.len r.cap r.ts∧∀ x,r.a=some x→gA<x.block
theorem AtL.fr{wr w':World}{gA m k:Nat}{rs:List Pc}{M:Mt}{F F':Nat→Prop}(h:AtL wr gA m k rs M)(fr:Fr wr w' F F')(hF:∀ k,F k→k<gA):AtL w' gA m k rs M :=
 ⟨(fr.keep gA h.row.lt (fun e=>Nat.lt_irrefl _ (hF _ e))).trans h.row,h.len,h.ts,fun r hr=>⟨fr.tks (h.tk r hr).1 (fun _ x hx e=>by have:=hF _ e;have:=(h.tk r hr).2 x hx;omega),(h.tk r hr).2⟩⟩
theorem AtL.set{wr:World}{gA m k:Nat}{rs:List Pc}{M:Mt}(h:AtL wr gA m k rs M){f:List Tk}{g:Nat}(hk:k<m)(hM:M[k]? = some f)(hR:TkSl wr (some ⟨g,0,none⟩) f.length f.length f)(hg:gA<g):AtL (wr.setCell ⟨gA,k,none⟩ (.slice (some ⟨g,0,none⟩) f.length f.length)) gA m (k+1) (rs.set k ⟨some ⟨g,0,none⟩,f.length,f.length,f⟩) M:=by
 have hkeep:∀ {a:Option Addr} {len cap:Nat} {ts:List Tk},TkSl wr a len cap ts→(∀ x,a=some x→gA<x.block)→TkSl (wr.setCell ⟨gA,k,none⟩ (.slice (some ⟨g,0,none⟩) f.length f.length)) a len cap ts:=fun {a len cap ts} hT hx=>by
  have fr:Fr wr (wr.setCell ⟨gA,k,none⟩ (.slice (some ⟨g,0,none⟩) f.length f.length)) (fun j=>j=gA) (fun j=>j=gA):=⟨rfl,rfl,rfl,by simp,fun j hj hF=>Below.heap_setCell _ _ _ _ hF,fun j hj=>Or.inl hj⟩
  exact fr.tks hT (fun _ x e e2=>by have:=hx x e;omega)
 refine ⟨h.row.set k ⟨some ⟨g,0,none⟩,f.length,f.length,f⟩,by simp[h.len],fun j hj=>?_,fun r hr=>?_⟩
 ·by_cases e:j=k
  ·subst e
   rw[List.getElem?_set_self (by rw[h.len];exact hk),hM];rfl
  ·rw[List.getElem?_set_ne (fun h=>e h.symm)]
   exact h.ts j (by omega)
 ·rcases List.mem_or_eq_of_mem_set hr with hr | rfl
  ·exact ⟨hkeep (h.tk r hr).1 (h.tk r hr).2,(h.tk r hr).2⟩
  ·refine ⟨hkeep hR fun x hx=>?_,fun x hx=>?_⟩ <;> (injection hx with hx;subst hx;exact hg)
theorem AtL.fin{wr:World}{gA m:Nat}{rs:List Pc}{M:Mt}(h:AtL wr gA m m rs M)(hm:m=M.length)(h100:m≤100):RwSl wr (some ⟨gA,0,none⟩) m m rs∧rs.map (·.ts)=M:=by
 refine ⟨⟨h.len,Nat.le_refl _,by unfold maxLen;omega,fun e=>(by cases e),fun x hx k hk=>?_,fun r hr=>(h.tk r hr).1⟩,List.ext_getElem? fun j=>?_⟩
 ·injection hx with hx
  subst hx
  rw[qj,Nat.zero_add]
  exact h.row.cell hk
 ·by_cases hj:j<m
  ·rw[List.getElem?_map];exact h.ts j hj
  ·rw[List.getElem?_eq_none (by simp[h.len];omega),List.getElem?_eq_none (by omega)]
theorem AtL.new(w:World)(m:Nat)(M:Mt):AtL (w.alloc (.cells (Array.replicate m (Value.slice none 0 0)) 22)) w.heap.size m 0 (List.replicate m ⟨none,0,0,[]⟩) M:=by
 refine ⟨?_,by simp,fun j hj=>absurd hj (by omega),fun r hr=>?_⟩
 ·unfold SlAt
  rw[(MapKept.heap_alloc w _).1]
  simp
 have:=List.eq_of_mem_replicate hr
 subst this
 exact ⟨⟨rfl,Nat.le_refl _,Nat.zero_le _,fun _=>rfl,fun x hx=>(by cases hx),fun x hx=>(by cases hx),fun t ht=>(by cases ht)⟩,fun x hx=>(by cases hx)⟩
structure AtG (T0:Tr) (w wr:World) (F G:Nat→Prop) (p mn:Nat) (vm vs:Value) (items:List It) (met:List Nat) (M:Mt) (m k:Nat) (rs:List Pc):Prop where
 r:PgR T0 wr G p mn vm vs items met M
 fr:Fr w wr F F
 l:AtL wr w.heap.size m k rs M
theorem q5W{T0:Tr}{p:Nat}{vs:Value}{w:World}{F:Nat→Prop}{items:List It}{M:Mt}(h:PgO T0 w F p vs items M) :
  Calls Tryz.prog 24 #[.pointer (some ⟨p,0,none⟩)] w fun e w'=>∃ rs,e=.returned (.slice (some ⟨w.heap.size,0,none⟩) M.length M.length)∧RwSl w' (some ⟨w.heap.size,0,none⟩) M.length M.length rs∧rs.map (·.ts)=M∧PgO T0 w' F p vs items M∧Fr w w' F F∧∀ r∈rs,∀ x,r.a=some x→w.heap.size<x.block:=by
 have jm:=q1n h
 obtain ⟨G,mn,vm,met,hr,hF⟩:=h.ex
 have hml:met.length=M.length:=hr.met.1
 have hfew:M.length≤64:=h.few
 obtain ⟨ma,mc,rfl⟩:=qt hr.row
 rw[hml]at hr hF
 have hlt:=h.lt
 have c5:=hr.c5
 have hmk:=q8s M.length (by omega) w
 have hb0:=qd w (.cells (Array.replicate M.length (Value.slice none 0 0)) 22)
 have hr0:=hr.far (w':=w.alloc (.cells (Array.replicate M.length (Value.slice none 0 0)) 22)) fun k hk=>hb0.block k (hr.lt k hk)
 have c5b:=hr0.c5
 have HG0:Hid (AtG T0 w _ F G p mn _ vs items met M M.length 0 _):=⟨hr0,Fr.ofBelow hb0,AtL.new w M.length M⟩
 have HH:Hid _:=h
 have HF:Hid _:=hF
 have HLT:Hid _:=hlt
 have HML:Hid _:=hml
 have HX:Hid (M.length=M.length):=rfl
 clear h hr hF hlt hml hb0 hr0
 obtain ⟨m,hm⟩:∃ m,m=M.length:=⟨_,rfl⟩
 rw[← hm]at HG0 HML HF c5 c5b hmk hfew ⊢
 have HM:Hid _:=hm
 clear hm HX
 go_enter Tryz.func24,Tryz.ntmps24
 go_wp2_with fail
 refine jm.mono ?_
 rintro e w1 ⟨rfl,hw1⟩
 obtain rfl:=hw1.symm
 clear jm
 go_wp2
 go_loopw [20] (fun i wr=>∃ (k:Nat) (rs:List Pc),k≤m∧i=.int .i64 (k:Int)∧Hid (AtG T0 w wr F G p mn (.slice ma m mc) vs items met M m k rs)) (fun i _=>m - (intOf i).toNat)
 case atStart=>exact ⟨0,_,Nat.zero_le _,rfl,HG0⟩
 case round =>
  clear HG0 c5 c5b hmk
  obtain ⟨k,rs,hk,rfl,HG⟩:=hrel
  by_cases hlt:k<m
  ·obtain ⟨g,o,j,S,hidx,hcj,hrep,kS,hMk⟩:=HG.out.r.metAt HH.out.of (Below.refl _ _) k hlt HML.out
   have hS:InC T0 S:=by
    obtain ⟨S2,h2,h3⟩:=HG.out.r.po.cov j hrep.lt
    have:=Rep.tree hrep h2
    subst this;exact h3
   have jt:=q2j HG.out.r.po j S hrep hS
   have hsm:SmT S.flat:=q68 HG.out.r.po.t0.kt hS
   have hsz:S.flat.length≤20000000:=by rw[q1Y];exact (q31 HG.out.r.po.t0.sz hS).1
   have HTX:Hid (txB S=txOf S.flat):=rfl
   have HSM:Hid _:=hsm
   have HSZ:Hid _:=hsz
   have HMK:Hid _:=hMk
   clear hrep kS hMk hS hsm hsz
   generalize S.flat=f at *
   go_wp2_with fail
   refine jt.mono ?_
   rintro e w2 ⟨rfl,hTx⟩
   have hp2:=HG.out.r.part hTx.1 (List.prefix_refl _) hTx.2
   rw[HTX.out]
   have jk:=q5n f HSM.out HSZ.out w2
   have fr2:Fr wr w2 F F:=hp2.2.alike (fun k hk=>(HF.out k).2 hk) (fun k hk=>(HF.out k).1 hk)
   have HL2:Hid _:=HG.out.l.fr fr2 HLT.out
   have HR2:Hid _:=hp2.1
   have HFR2:Hid _:=HG.out.fr.trans fr2
   clear jt hTx hp2 fr2 hcj hidx HTX
   generalize txOf f=tx at *
   generalize hfl:f.length=fl at *
   have HFL:Hid _:=hfl
   clear hfl
   go_wp2_with fail
   refine jk.mono ?_
   rintro e w3 ⟨rfl,hRow,hb3⟩
   have hl3:AtL w3 w.heap.size m k rs M:=HL2.out.fr (Fr.ofBelow (F:=F) hb3) HLT.out
   have hkr:k<rs.length:=by rw[hl3.len];exact hlt
   have cS:=hl3.row.cell hkr
   have zS:=hl3.row.fz k
   have hix:=fun w'=>qag w.heap.size m k hlt w'
   have hgt:w.heap.size<w2.heap.size:=HL2.out.row.lt
   have hTk:=hRow.tk (by have:=HSZ.out;have:=HFL.out;unfold maxLen;omega) (fun t ht=>by have:=HSM.out t ht;omega)
   have HNX:Hid _:=hl3.set hlt HMK.out hTk hgt
   have HRX:Hid (PgR T0 (w3.setCell ⟨w.heap.size,k,none⟩ (.slice (some ⟨w2.heap.size,0,none⟩) f.length f.length)) G p mn (.slice ma m mc) vs items met M):=HR2.out.far fun j hj=>by
    have h1:=HLT.out j ((HF.out j).2 hj)
    exact (Below.heap_setCell _ _ _ _ (by dsimp only;omega)).trans (hb3.block j (HR2.out.lt j hj))
   have HFX:Hid (Fr w (w3.setCell ⟨w.heap.size,k,none⟩ (.slice (some ⟨w2.heap.size,0,none⟩) f.length f.length)) F F):=by
    have h1:=HFR2.out.trans (Fr.ofBelow hb3)
    exact ⟨h1.os,h1.tape,h1.output,by simp;exact h1.size,fun j hj hn=>(Below.heap_setCell _ _ _ _ (by dsimp only;omega)).trans (h1.keep j hj hn),h1.foot⟩
   have HG3:Hid _:=AtG.mk HRX.out HFX.out HNX.out
   rw[HFL.out]at HG3
   obtain ⟨qa,ql,qc,hcs⟩:∃ qa ql qc,w3.cell? ⟨w.heap.size,k,none⟩=some (.slice qa ql qc):=⟨_,_,_,cS⟩
   clear jk hRow hb3 hl3 hkr cS hTk HNX HRX HFX HL2 HR2 HFR2 HG
   go_wp2
   go_roundw
   case rel=>exact ⟨k+1,_,by omega,by go_num,HG3⟩
   case measure=>simp[intOf] <;> omega
  ·obtain rfl:k=m:=by omega
   have hfin:=HG.out.l.fin HM.out (by omega)
   have HE:Hid (∃ rs,RwSl wr (some ⟨w.heap.size,0,none⟩) k k rs∧rs.map (·.ts)=M∧PgO T0 wr F p vs items M∧Fr w wr F F∧∀ r∈rs,∀ x,r.a=some x→w.heap.size<x.block) :=
    ⟨rs,hfin.1,hfin.2,⟨HH.out.few,HH.out.nd,HH.out.of,G,mn,_,met,HG.out.r,HF.out⟩,HG.out.fr,fun r hr=>(HG.out.l.tk r hr).2⟩
   clear hfin HG
   go_wp2
   go_ret
   obtain ⟨rs,h1,h2,h3,h4,h5⟩:=HE.out
   exact ⟨rs,rfl,h1,h2,h3,h4,h5⟩
def AErr (ts:List Tk) (zs:List Int) (X:List Nat→Mt→Prop) (E:Int):Prop:=E≠0∧((ahE ts zs≠0∧E=ahE ts zs)∨(ahE ts zs=0∧E=9∧∃ T,KT T∧ts=T.flat∧(closedR T (zN zs)=none∨∃ l0 M,closedR T (zN zs)=some (l0,M)∧X l0 M)))
structure AOk (ts:List Tk) (zs:List Int) (T:Tr) (l0:List Nat) (M:Mt):Prop where
 kt:KT T
 fl:ts=T.flat
 ah:ahE ts zs=0
 cl:closedR T (zN zs)=some (l0,M)
theorem AOk.k{ts:List Tk}{zs:List Int}{T:Tr}{l0:List Nat}{M:Mt}(h:AOk ts zs T l0 M):ClosedK T (zN zs) l0 M:=qas h.kt h.cl
theorem AOk.m{ts:List Tk}{zs:List Int}{T:Tr}{l0:List Nat}{M:Mt}(h:AOk ts zs T l0 M):zs.length≤1024:=by
 have h0:=(q8J h.ah).2
 unfold trE at h0
 by_cases h1:1024<zs.length
 ·rw[if_pos h1]at h0;omega
 ·omega
theorem AOk.bd{ts:List Tk}{zs:List Int}{T:Tr}{l0:List Nat}{M:Mt}(h:AOk ts zs T l0 M):BdL l0 M.length:=by
 obtain ⟨M0,hn,hp⟩:=h.k.ex
 exact (qK T q5v h.kt hn).1.bd.mono hp.length_le
theorem q1F(a:Option Addr)(len cap:Nat)(ts:List Tk)(b:Option Addr)(m c:Nat)(zs:List Int)(w:World)(hS:TkSl w a len cap ts)(hL:LtSl w b m c zs)(hT:Tab64 w) :
  Calls Tryz.prog 59 #[.slice a len cap,.slice b m c] w fun e w'=>(∃ E,(∀ X,AErr ts zs X E)∧(E != 0)=true∧e=.returned (.tuple #[.pointer none,.int .i64 E])∧Below w.heap.size w w') ∨
   ∃ T l0 M k p q d F vs Ls,AOk ts zs T l0 M∧e=.returned (.tuple #[.pointer (some ⟨k,0,none⟩),.int .i64 0])∧ClS T q d w w' F k p l0 M vs Ls∧∀ y,y<256→y∈zN zs→(Ls y).length=M.length:=by
 refine (q4v a len cap ts b m c zs w hS hL hT).mono ?_
 rintro e w' ⟨hb,⟨h1,rfl⟩ | ⟨h1,T,kT,hts,⟨h2,rfl⟩ | ⟨l0,M,k,p,q,d,F,vs,Ls,h2,rfl,h3,h4⟩⟩⟩
 ·exact Or.inl ⟨_,fun X=>⟨h1,Or.inl ⟨h1,rfl⟩⟩,by simpa using h1,rfl,hb⟩
 ·exact Or.inl ⟨9,fun X=>⟨by decide,Or.inr ⟨h1,rfl,T,kT,hts,Or.inl h2⟩⟩,rfl,rfl,hb⟩
 ·exact Or.inr ⟨T,l0,M,k,p,q,d,F,vs,Ls,⟨kT,hts,h1,h2⟩,rfl,h3,h4⟩
def FoR (ts:List Tk) (zs:List Int) (w:World) (e:Ending) (w':World):Prop:=Below w.heap.size w w' ∧
 ((∃ E,AErr ts zs (fun l0 M=>fwdM M l0 (zN zs)=none) E∧e=.returned (.tuple #[.slice none 0 0,.int .i64 E])) ∨
  ∃ T l0 M g rs,AOk ts zs T l0 M∧fwdM M l0 (zN zs)=some (rs.map (·.ts))∧e=.returned (.tuple #[.slice (some ⟨g,0,none⟩) (zs.length+1) (zs.length+1),.int .i64 0])∧RwU w' g rs∧rs.length=zs.length+1∧∀ r∈rs,USl w' r.a r.len r.cap r.ts∧Sm r.ts)
theorem qb3{M:Mt}(hM:GoodM M){xs:List Nat}(hC:Closed fuelN xs M):∀ {t l:List Nat} {ls:List (List Nat)},(∀ x∈t,x∈xs)→BdL l M.length→fwdM M l t=some ls→∀ l2∈ls,BdL l2 M.length
 | [],l,ls,_,hl,h,l2,h2=>by
  unfold fwdM at h
  injection h with h
  subst h
  have:l2=l:=by simpa using h2
  subst this;exact hl
 | x::t,l,ls,hx,hl,h,l2,h2=>by
  unfold fwdM at h
  split at h
  ·cases h
  ·rename_i L M1 hs
   have e:=hC.step (hx x (by simp)) l [] hl hs
   subst e
   cases hf:fwdM M1 L t with
   | none=>rw[hf]at h;cases h
   | some ls1 =>
    rw[hf]at h
    injection h with h
    subst h
    rcases List.mem_cons.1 h2 with rfl | h3
    ·exact hl
    ·exact qb3 hM hC (fun y hy=>hx y (by simp[hy])) (q50 hM hl hs).1.bd hf l2 h3
theorem AOk.sm{ts:List Tk}{zs:List Int}{T:Tr}{l0:List Nat}{M:Mt}(h:AOk ts zs T l0 M)(h8:∀ x∈zN zs,x<256){ls:List (List Nat)}(hf:fwdM M l0 (zN zs)=some ls):∀ l∈ls,Sm l:=fun l hl =>
 qG (qb3 h.k.cl.good h.k.cl (fun x hx=>q4N.2 ⟨h8 x hx,hx⟩) h.bd hf l hl) h.k.cl.good.few
theorem q5g(a:Option Addr)(len cap:Nat)(ts:List Tk)(b:Option Addr)(m c:Nat)(zs:List Int)(w:World)(hS:TkSl w a len cap ts)(hL:LtSl w b m c zs)(hT:Tab64 w) :
  Calls Tryz.prog 31 #[.slice a len cap,.slice b m c] w (FoR ts zs w):=by
 have jc:=q1F a len cap ts b m c zs w hS hL hT
 obtain ⟨Q,hQ⟩:∃ Q:Ending→World→Prop,Q=FoR ts zs w:=⟨_,rfl⟩
 have HQ:Hid (∀ e w',FoR ts zs w e w'→Q e w'):=fun e w' h=>by rw[hQ];exact h
 rw[← hQ]
 have HL:Hid _:=hL
 clear hS hL hT hQ
 go_enter Tryz.func31,Tryz.ntmps31
 go_wp2_with fail
 refine jc.mono ?_
 rintro e w1 (⟨E,hE,hne,rfl,hb⟩ | ⟨T,l0,M,k,p,q,d,F,vs,Ls,hA,rfl,hC,hf⟩)
 ·have HE:Hid (Q (.returned (.tuple #[.slice none 0 0,.int .i64 E])) w1):=HQ.out _ _ ⟨hb,Or.inl ⟨E,hE _,rfl⟩⟩
  clear jc hE hb
  go_wp2
  exact HE.out
 ·have hm:m=zs.length:=HL.out.sl.hlen.symm
  have jf:=q2T hC b m c zs HL.out (by rw[hm];exact hA.m) hA.k.cl hA.bd
  have HFI:Hid (∀ e w',FwQ T q d w k p l0 M vs Ls (zN zs) (fwdM M l0 (zN zs)) e w'→∃ v E,e=.returned (.tuple #[v,.int .i64 E])∧Q (.returned (.tuple #[v,.int .i64 E])) w'):=fun e w' hq=>by
   rcases hq with ⟨h1,rfl,hb⟩ | ⟨rs,g,F',h1,rfl,hF⟩
   ·exact ⟨_,_,rfl,HQ.out _ _ ⟨hb,Or.inl ⟨9,⟨by decide,Or.inr ⟨hA.ah,rfl,T,hA.kt,hA.fl,Or.inr ⟨l0,M,hA.cl,h1⟩⟩⟩,rfl⟩⟩⟩
   ·refine ⟨_,_,rfl,HQ.out _ _ ⟨hF.s.bel,Or.inr ⟨T,l0,M,g,rs,hA,h1,by rw[q2C],hF.row,by rw[hF.len,q2C],fun r hr=>?_⟩⟩⟩
    obtain ⟨j,hj,e⟩:=List.getElem_of_mem hr
    have hj2:j≤(zN zs).length:=by have:=hF.len;omega
    refine ⟨(hF.all j r hj2 (by rw[List.getElem?_eq_getElem hj,e])).us.sl,hA.sm (zN_lt HL.out.ok) h1 _ (List.mem_map.2 ⟨r,hr,rfl⟩)⟩
  clear jc hA hC hf hm
  go_wp2_with fail
  refine jf.mono ?_
  intro e w2 hq
  obtain ⟨v,E,rfl,h2⟩:=HFI.out e w2 hq
  have HE:Hid _:=h2
  clear jf hq h2 HFI
  go_wp2
  exact HE.out
def SaR (ts:List Tk) (zs:List Int) (w:World) (e:Ending) (w':World):Prop:=Below w.heap.size w w' ∧
 ((∃ E,AErr ts zs (fun l0 M=>fwdM M l0 (zN zs)=none) E∧e=.returned (.tuple #[.bool false,.int .i64 E])) ∨
  ∃ T l0 M ls v,AOk ts zs T l0 M∧fwdM M l0 (zN zs)=some ls∧e=.returned (.tuple #[.bool v,.int .i64 0])∧(v=true↔FinP M (ls.getD zs.length [])))
theorem q2S(a:Option Addr)(len cap:Nat)(ts:List Tk)(b:Option Addr)(m c:Nat)(zs:List Int)(w:World)(hS:TkSl w a len cap ts)(hL:LtSl w b m c zs)(hT:Tab64 w) :
  Calls Tryz.prog 29 #[.slice a len cap,.slice b m c] w (SaR ts zs w):=by
 have jc:=q1F a len cap ts b m c zs w hS hL hT
 obtain ⟨Q,hQ⟩:∃ Q:Ending→World→Prop,Q=SaR ts zs w:=⟨_,rfl⟩
 have HQ:Hid (∀ e w',SaR ts zs w e w'→Q e w'):=fun e w' h=>by rw[hQ];exact h
 rw[← hQ]
 have HL:Hid _:=hL
 clear hS hL hT hQ
 go_enter Tryz.func29,Tryz.ntmps29
 go_wp2_with fail
 refine jc.mono ?_
 rintro e w1 (⟨E,hE,hne,rfl,hb⟩ | ⟨T,l0,M,k,p,q,d,F,vs,Ls,hA,rfl,hC,hf⟩)
 ·have HE:Hid (Q (.returned (.tuple #[.bool false,.int .i64 E])) w1):=HQ.out _ _ ⟨hb,Or.inl ⟨E,hE _,rfl⟩⟩
  clear jc hE hb
  go_wp2
  exact HE.out
 ·have hm:m=zs.length:=HL.out.sl.hlen.symm
  have jf:=q2T hC b m c zs HL.out (by rw[hm];exact hA.m) hA.k.cl hA.bd
  have HZL:Hid ((zN zs).length=m):=by show _=_;rw[q2C,hm]
  have HA:Hid _:=hA
  have HM:Hid (m=zs.length):=hm
  clear jc hA hC hf hm
  go_wp2_with fail
  refine jf.mono ?_
  rintro e w2 (⟨h1,rfl,hb⟩ | ⟨rs,g,F',h1,rfl,hF⟩)
  ·have HE:Hid (Q (.returned (.tuple #[.bool false,.int .i64 9])) w2):=HQ.out _ _ ⟨hb,Or.inl ⟨9,⟨by decide,Or.inr ⟨HA.out.ah,rfl,T,HA.out.kt,HA.out.fl,Or.inr ⟨l0,M,HA.out.cl,h1⟩⟩⟩,rfl⟩⟩
   clear jf h1 hb
   go_wp2
   exact HE.out
  ·have hlen:=hF.len
   rw[HZL.out]at hlen hF ⊢
   have hml:m<rs.length:=by omega
   have hr:rs[m]? = some rs[m]:=List.getElem?_eq_getElem hml
   obtain ⟨r,hre⟩:∃ r,r=rs[m]:=⟨_,rfl⟩
   rw[← hre]at hr
   have hlu:=hF.all m r (Nat.le_refl _) hr
   have hrn:r.len=r.ts.length:=hlu.us.sl.len
   have hcg:w2.cell? ⟨g,m,none⟩=some (.slice r.a r.ts.length r.cap):=by rw[← hrn];exact hF.row.cell hr
   have hixm:=fun w'=>q1K g (m+1) m (by omega) w'
   have c0:w2.cell? ⟨k,0,none⟩=some (.pointer (some ⟨p,0,none⟩)):=hF.s.o.c0
   have hbd:Below w2.heap.size w2 w2.drew:=(Below.refl _ _).drew
   have sd:=hF.s.up hbd
   obtain ⟨items,hp⟩:=sd.o.prg
   have hsm:Sm r.ts:=HA.out.sm (zN_lt HL.out.ok) h1 _ (List.mem_map.2 ⟨r,List.mem_of_getElem? hr,rfl⟩)
   have hU:USl w2.drew r.a r.ts.length r.cap r.ts:=by have:=hlu.us.sl.up hbd;rw[hrn]at this;exact this
   have hls:(rs.map (·.ts)).getD zs.length []=r.ts:=by rw[← HM.out,List.getD_eq_getElem?_getD,List.getElem?_map,hr];rfl
   have jF:Calls Tryz.prog 18 #[.pointer (some ⟨p,0,none⟩),.slice r.a r.ts.length r.cap] w2.drew fun e w3=>∃ v,e=.returned (.bool v)∧Q (.returned (.tuple #[.bool v,.int .i64 0])) w3:=(q3b hp.o r.a r.cap r.ts hU hsm).mono fun e w3 ⟨⟨v,he,hv⟩,hb3⟩=>⟨v,he,HQ.out _ _ ⟨qe sd.bel hb3,Or.inr ⟨T,l0,M,_,v,HA.out,h1,rfl,by rw[hls];exact hv⟩⟩⟩
   clear jf h1 hF hlen hml hr hre hlu hrn hbd sd hp hsm hU hls
   generalize r.ts.length=RL at *
   go_upto_region 20 with fail
   go_region_with (first
    | (revert jF;intro jF;go_at_call 18;(with_reducible refine jF.mono ?_);rintro e w3 ⟨v,rfl,hq3⟩;have HE:Hid _:=hq3)
    | fail)
   all_goals
    clear jF
    go_wp2
    go_ret2
    exact HE.out
def AlR (ts:List Tk) (zs:List Int) (w:World) (e:Ending) (w':World):Prop:=Below w.heap.size w w' ∧
 ((∃ E,AErr ts zs (fun _ _=>False) E∧e=.returned (.tuple #[.slice none 0 0,.int .i64 E])) ∨
  ∃ T l0 M g bs,AOk ts zs T l0 M∧e=.returned (.tuple #[.slice (some ⟨g,0,none⟩) (zs.length+1) (zs.length+1),.int .i64 0])∧EbAt w' g bs∧bs=(backL M (zN zs)).map fun h=>hoB l0 h)
theorem q85(a:Option Addr)(len cap:Nat)(ts:List Tk)(b:Option Addr)(m c:Nat)(zs:List Int)(w:World)(hS:TkSl w a len cap ts)(hL:LtSl w b m c zs)(hT:Tab64 w) :
  Calls Tryz.prog 28 #[.slice a len cap,.slice b m c] w (AlR ts zs w):=by
 have jc:=q1F a len cap ts b m c zs w hS hL hT
 obtain ⟨Q,hQ⟩:∃ Q:Ending→World→Prop,Q=AlR ts zs w:=⟨_,rfl⟩
 have HQ:Hid (∀ e w',AlR ts zs w e w'→Q e w'):=fun e w' h=>by rw[hQ];exact h
 rw[← hQ]
 have HL:Hid _:=hL
 clear hS hL hT hQ
 go_enter Tryz.func28,Tryz.ntmps28
 go_wp2_with fail
 refine jc.mono ?_
 rintro e w1 (⟨E,hE,hne,rfl,hb⟩ | ⟨T,l0,M,k,p,q,d,F,vs,Ls,hA,rfl,hC,hf⟩)
 ·have HE:Hid (Q (.returned (.tuple #[.slice none 0 0,.int .i64 E])) w1):=HQ.out _ _ ⟨hb,Or.inl ⟨E,hE _,rfl⟩⟩
  clear jc hE hb
  go_wp2
  exact HE.out
 ·have hm:m=zs.length:=HL.out.sl.hlen.symm
  have hm4:m≤1024:=by rw[hm];exact hA.m
  obtain ⟨items,hp⟩:=hC.o.prg
  have c0:w1.cell? ⟨k,0,none⟩=some (.pointer (some ⟨p,0,none⟩)):=hC.o.c0
  have jst:=q3e hp.o hp.u hp.l.few
  have HCL:Hid (∀ e w',CloU l0 w1 e w'→∃ a0 k0,e=.returned (.slice a0 l0.length k0)∧Below w1.heap.size w1 w'∧USl w' a0 l0.length k0 l0):=fun e w' hc=>by
   obtain ⟨hbw,a0,k0,he,hU⟩:=qaT hp.o.lt hc
   exact ⟨a0,k0,he,hbw,hU.sl⟩
  have HSM:Hid (Sm l0):=hp.l.sm
  have HA:Hid _:=hA
  have HC:Hid _:=hC
  have HF:Hid _:=hf
  have HM:Hid (m=zs.length):=hm
  clear jc hA hC hf hm hp
  generalize hLL:l0.length=L0 at *
  have HLL:Hid _:=hLL
  clear hLL
  go_wp2_with fail
  refine jst.mono ?_
  intro e w2 hq
  obtain ⟨a0,k0,rfl,hb2,hU0⟩:=HCL.out e w2 hq
  have hmk:(Instr.makeSlice 27 (.int .i64 ((m:Int)+1)) (.int .i64 ((m:Int)+1))).run Tryz.prog w2=.ok (.slice (some ⟨w2.heap.size,0,none⟩) (m+1) (m+1)) (w2.alloc (.cells (Array.replicate (m+1) (Value.bool false)) 4)):=q5c (m+1) (by omega) w2
  have hb3:=qd w2 (.cells (Array.replicate (m+1) (Value.bool false)) 4)
  have jb:=q2G ((HC.out.up hb2).up hb3) b m c zs HL.out hm4 HF.out
  have hz3:(w2.alloc (.cells (Array.replicate (m+1) (Value.bool false)) 4)).heap.size=w2.heap.size+1:=by simp
  rw[hz3]at jb
  have HE0:Hid (EbAt (w2.alloc (.cells (Array.replicate (m+1) (Value.bool false)) 4)) w2.heap.size (List.replicate (m+1) false)):=EbAt.made w2 (m+1)
  have HU0:Hid _:=hU0
  have HB3:Hid _:=((HC.out.up hb2).up hb3).bel
  have HW1:Hid (w.heap.size≤w2.heap.size):=(HC.out.up hb2).bel.size
  have HB23:Hid _:=hb3
  clear jst hq hb2 hb3 hU0 HCL c0 hz3
  go_wp2_with fail
  refine jb.mono ?_
  rintro e w3 ⟨rfl,hH,hb4⟩
  have HH:Hid (HsAt w3 (w2.heap.size+1) (backL M (zN zs))):=hH
  have HE1:Hid (EbAt w3 w2.heap.size (List.replicate (m+1) false)):=EbAt.up HE0.out (hb4.mono (by simp))
  have HU1:Hid (USl w3 a0 L0 k0 l0):=HU0.out.up (qe HB23.out (hb4.mono (by simp)))
  have HB4:Hid (Below w.heap.size w w3):=qe HB3.out (hb4.mono (by simp))
  have HBL:Hid (∀ j,j<L0→(adOf a0 j).block<w2.heap.size):=fun j hj=>HU0.out.blk j hj
  clear jb hH hb4 HE0 HU0 HB3 HB23 hmk
  generalize hbk:backL M (zN zs)=hs at *
  have HBK:Hid (backL M (zN zs)=hs):=hbk
  have HHL:Hid (hs.length=m+1):=by show _=_;rw[← hbk,q3U,q2C,HM.out]
  have H64:Hid (∀ h∈hs,h<2 ^ 64):=fun h hm=>by
   obtain ⟨j,hj,e⟩:=List.getElem_of_mem hm
   have hg:=q5r M (zN zs) j (by rw[← hbk,q3U]at hj;omega)
   rw[hbk,List.getElem?_eq_getElem hj,e]at hg
   injection hg with hg
   rw[hg]
   exact q9X HA.out.k.cl.good.few _
  clear hbk
  go_wp2
  go_loopw [34] (fun i wr=>∃ (j:Nat) (bs:List Bool),j≤m+1∧i=.int .i64 (j:Int)∧Hid (EbAt wr w2.heap.size bs)∧Hid (bs.length=m+1)∧Hid (∀ x:Nat,x<j→bs[x]? = (hs[x]?).map fun h=>hoB l0 h)∧Hid (HsAt wr (w2.heap.size+1) hs)∧Hid (USl wr a0 L0 k0 l0)∧Hid (Below w.heap.size w wr)) (fun i _=>m+1 - (intOf i).toNat)
  case atStart=>exact ⟨0,_,by omega,rfl,HE1,by simp[Hid],fun x hx=>absurd hx (by omega),HH,HU1,HB4⟩
  case round =>
   clear HE1 HH HU1 HB4
   obtain ⟨j,bs,hj,rfl,HE,HBS,HALL,HHS,HU,HB⟩:=hrel
   by_cases hlt:j<m+1
   ·have hjh:j<hs.length:=by have:=HHL.out;omega
    have hjb:j<bs.length:=by have:=HBS.out;omega
    have ch:=HHS.out.cell (List.getElem?_eq_getElem hjh)
    have hixh:=fun w'=>q5P (w2.heap.size+1) (m+1) j hlt w'
    have hixb:=fun w'=>q26 w2.heap.size (m+1) j hlt w'
    have jh:=q1m a0 L0 k0 l0 hs[j] wr HU.out HSM.out (H64.out _ (List.getElem_mem hjh))
    have HV:Hid (hs[j]? = some hs[j]):=List.getElem?_eq_getElem hjh
    generalize hs[j]=hv at *
    obtain ⟨bv,hbv⟩:∃ bv,bv=hoB l0 hv:=⟨_,rfl⟩
    rw[← hbv]at jh
    have HBV:Hid _:=hbv
    clear hbv
    go_wp2_with fail
    refine jh.mono ?_
    rintro e w4 ⟨rfl,hb5⟩
    have hE4:=HE.out.up hb5
    have cb:=hE4.cell (List.getElem?_eq_getElem hjb)
    have zb:=hE4.fz j
    have HES:Hid _:=hE4.set j bv
    have HBS2:Hid ((bs.set j bv).length=m+1):=by show _=_;rw[List.length_set];exact HBS.out
    have HAL2:Hid (∀ x:Nat,x<j+1→(bs.set j bv)[x]? = (hs[x]?).map fun h=>hoB l0 h):=fun x hx=>by
     by_cases e:x=j
     ·subst e
      rw[List.getElem?_set_self hjb,HV.out,HBV.out];rfl
     ·rw[List.getElem?_set_ne (fun h=>e h.symm)]
      exact HALL.out x (by omega)
    have HH2:Hid (HsAt (w4.setCell ⟨w2.heap.size,j,none⟩ (.bool bv)) (w2.heap.size+1) hs):=(Below.heap_setCell _ _ _ _ (by dsimp only;omega)).trans (HHS.out.up hb5)
    have HU2:Hid (USl (w4.setCell ⟨w2.heap.size,j,none⟩ (.bool bv)) a0 L0 k0 l0):=by
     have hu:=HU.out.up hb5
     refine ⟨hu.hlen,hu.hcap,hu.bd,hu.idx,fun x hx=>?_,fun x hx=>by simp;exact hu.blk x hx,hu.nn⟩
     have:=hu.cell x hx
     unfold World.cell? at this ⊢
     rw[Below.heap_setCell _ _ _ _ (by have:=HBL.out x hx;dsimp only;omega)]
     exact this
    have HB2:Hid (Below w.heap.size w (w4.setCell ⟨w2.heap.size,j,none⟩ (.bool bv))):=q1d (qe HB.out hb5) _ _ HW1.out
    generalize bs[j]=ob at *
    clear jh hb5 hE4 ch hixh HE HBS HALL HHS HU HB HV
    go_wp2
    go_roundw
    case rel=>exact ⟨j+1,bs.set j bv,by omega,by go_num,HES,HBS2,HAL2,HH2,HU2,HB2⟩
    case measure=>simp[intOf] <;> omega
   ·obtain rfl:j=m+1:=by omega
    have hbs:bs=(backL M (zN zs)).map fun h=>hoB l0 h:=List.ext_getElem? fun x=>by
     rw[HBK.out,List.getElem?_map]
     by_cases hx:x<m+1
     ·exact HALL.out x hx
     ·rw[List.getElem?_eq_none (by rw[HBS.out];omega),List.getElem?_eq_none (by rw[HHL.out];omega)];rfl
    have HEN:Hid (Q (.returned (.tuple #[.slice (some ⟨w2.heap.size,0,none⟩) (m+1) (m+1),.int .i64 0])) wr):=HQ.out _ _ ⟨HB.out,Or.inr ⟨T,l0,M,_,bs,HA.out,by rw[HM.out],HE.out,hbs⟩⟩
    clear hbs HE HBS HALL HHS HU HB
    go_wp2
    exact HEN.out
def BaR (ts:List Tk) (zs:List Int) (w:World) (e:Ending) (w':World):Prop:=Below w.heap.size w w' ∧
 ((∃ E,AErr ts zs (fun _ _=>False) E∧e=.returned (.tuple #[.slice none 0 0,.slice none 0 0,.int .i64 E])) ∨
  ∃ T l0 M g h rs,AOk ts zs T l0 M∧e=.returned (.tuple #[.slice (some ⟨g,0,none⟩) (zs.length+1) (zs.length+1),.slice (some ⟨h,0,none⟩) M.length M.length,.int .i64 0])∧HsAt w' g (backL M (zN zs))∧RwSl w' (some ⟨h,0,none⟩) M.length M.length rs∧rs.map (·.ts)=M)
theorem q2F(a:Option Addr)(len cap:Nat)(ts:List Tk)(b:Option Addr)(m c:Nat)(zs:List Int)(w:World)(hS:TkSl w a len cap ts)(hL:LtSl w b m c zs)(hT:Tab64 w) :
  Calls Tryz.prog 30 #[.slice a len cap,.slice b m c] w (BaR ts zs w):=by
 have jc:=q1F a len cap ts b m c zs w hS hL hT
 obtain ⟨Q,hQ⟩:∃ Q:Ending→World→Prop,Q=BaR ts zs w:=⟨_,rfl⟩
 have HQ:Hid (∀ e w',BaR ts zs w e w'→Q e w'):=fun e w' h=>by rw[hQ];exact h
 rw[← hQ]
 have HL:Hid _:=hL
 clear hS hL hT hQ
 go_enter Tryz.func30,Tryz.ntmps30
 go_wp2_with fail
 refine jc.mono ?_
 rintro e w1 (⟨E,hE,hne,rfl,hb⟩ | ⟨T,l0,M,k,p,q,d,F,vs,Ls,hA,rfl,hC,hf⟩)
 ·have HE:Hid (Q (.returned (.tuple #[.slice none 0 0,.slice none 0 0,.int .i64 E])) w1):=HQ.out _ _ ⟨hb,Or.inl ⟨E,hE _,rfl⟩⟩
  clear jc hE hb
  go_wp2
  first | exact HE.out | (go_ret3;exact HE.out)
 ·have hm:m=zs.length:=HL.out.sl.hlen.symm
  have hm4:m≤1024:=by rw[hm];exact hA.m
  have hbd:Below w1.heap.size w1 w1.drew:=(Below.refl _ _).drew
  have sd:=hC.up hbd
  have hk00:w1.cell? ⟨k,0,none⟩=some (.pointer (some ⟨p,0,none⟩)):=hC.o.c0
  have hk0:w1.drew.cell? ⟨k,0,none⟩=some (.pointer (some ⟨p,0,none⟩)):=sd.o.c0
  have jb:Calls Tryz.prog 60 #[.pointer (some ⟨k,0,none⟩),.slice b m c] w1.drew fun e w'=>e=.returned (.slice (some ⟨w1.heap.size,0,none⟩) (m+1) (m+1))∧HsAt w' w1.heap.size (backL M (zN zs))∧Below w1.drew.heap.size w1.drew w':=q2G sd b m c zs HL.out hm4 hf
  have HSD:Hid _:=sd
  have HFL:Hid (∀ j,F j→j<w1.heap.size):=hC.flt
  have HA:Hid _:=hA
  have HM:Hid (m=zs.length):=hm
  have HFIN:Hid (∀ w2 w3 rs h,HsAt w2 w1.heap.size (backL M (zN zs))→Below w1.drew.heap.size w1.drew w2→RwSl w3 (some ⟨h,0,none⟩) M.length M.length rs→rs.map (·.ts)=M→Fr w2 w3 F F→Q (.returned (.tuple #[.slice (some ⟨w1.heap.size,0,none⟩) (m+1) (m+1),.slice (some ⟨h,0,none⟩) M.length M.length,.int .i64 0])) w3):=fun w2 w3 rs h hH hb2 hR hM fr=>by
   refine HQ.out _ _ ⟨(HSD.out.up hb2).bel.trans (fr.below HSD.out.ge (HSD.out.up hb2).bel.size),Or.inr ⟨T,l0,M,_,h,rs,hA,by rw[hm],?_,hR,hM⟩⟩
   exact (fr.keep _ hH.lt (fun e=>Nat.lt_irrefl _ (HFL.out _ e))).trans hH
  clear jc hA hC hf hm hbd sd
  go_upto_region 20 with fail
  go_region_held2 (fun w'=>w'.cell? ⟨k,0,none⟩=some (.pointer (some ⟨p,0,none⟩))) (first | exact hk0 | exact hk00 | assumption | fail) (first
   | (revert jb;intro jb;go_at_call 60;(with_reducible refine jb.mono ?_);rintro e w2 ⟨rfl,hH,hb2⟩;have s2:=HSD.out.up hb2;have hk1:w2.cell? ⟨k,0,none⟩=some (.pointer (some ⟨p,0,none⟩)):=s2.o.c0;obtain ⟨items,hp⟩:=s2.o.prg;have jA:=q5W hp.o)
   | (revert jA;intro jA;go_at_call 24;(with_reducible refine jA.mono ?_);rintro e w3 ⟨rs,rfl,hR,hM,hO,fr,hnw⟩;have hk2:w3.cell? ⟨k,0,none⟩=some (.pointer (some ⟨p,0,none⟩)):=(fr.cell hk1 (fun e=>((s2.o.nc _ e).1 rfl)));have HE:Hid _:=HFIN.out w2 w3 rs w2.heap.size hH hb2 hR hM fr)
   | fail)
  all_goals
   clear jb jA hk00 hk0 hk1 hk2
   go_wp2
   go_ret3
   exact HE.out
theorem AErr.not{ts:List Tk}{zs:List Int}{X:List Nat→Mt→Prop}{E:Int}{T:Tr}{l0:List Nat}{M:Mt}(h:AErr ts zs X E)(hA:AOk ts zs T l0 M)(hX:¬ X l0 M):False:=by
 rcases h.2 with ⟨h1,_⟩ | ⟨_,_,S,kS,hts,h2⟩
 ·exact h1 hA.ah
 ·have e:=q9p hA.kt kS (hA.fl.symm.trans hts)
  subst e
  rcases h2 with h2 | ⟨l1,M1,h2,h3⟩
  ·rw[hA.cl]at h2;cases h2
  ·rw[hA.cl]at h2
   injection h2 with h2
   injection h2 with h4 h5
   subst h4 h5
   exact hX h3
theorem AOk.same{ts:List Tk}{zs:List Int}{T S:Tr}{l0 l1:List Nat}{M M1:Mt}(h:AOk ts zs T l0 M)(k:AOk ts zs S l1 M1):T=S∧l0=l1∧M=M1:=by
 have e:=q9p h.kt k.kt (h.fl.symm.trans k.fl)
 subst e
 have h2:=k.cl
 rw[h.cl]at h2
 injection h2 with h2
 injection h2 with h4 h5
 exact ⟨rfl,h4,h5⟩
theorem SaR.known{ts:List Tk}{zs:List Int}{w w':World}{e:Ending}(h:SaR ts zs w e w'){T:Tr}{l0:List Nat}{M:Mt}{ls:List (List Nat)}(hA:AOk ts zs T l0 M)(hf:fwdM M l0 (zN zs)=some ls):∃ v,e=.returned (.tuple #[.bool v,.int .i64 0])∧(v=true↔FinP M (ls.getD zs.length [])):=by
 rcases h.2 with ⟨E,hE,_⟩ | ⟨S,l1,M1,ls1,v,hB,hf1,he,hv⟩
 ·exact (hE.not hA (by rw[hf];intro h;cases h)).elim
 ·obtain ⟨rfl,rfl,rfl⟩:=hA.same hB
  rw[hf]at hf1
  injection hf1 with hf1
  subst hf1
  exact ⟨v,he,hv⟩
theorem q6T{ts:List Tk}{zs:List Int}{T:Tr}(kT:KT T)(h:ts=T.flat)(hl:ts.length≤2048)(hz:zs.length≤1024):ahE ts zs=0:=by
 have hc:chkE ts=0:=q2X.2 ⟨hl,T,kT.wf,kT.np,kT.kr,h⟩
 unfold ahE trE
 rw[if_neg (by omega),if_neg (by omega)]
theorem q53(ts:List Tk)(w:World)(hl:ts.length≤100)(hok:∀ t∈ts,t.1<256∧t.2<256):TkSl (w.alloc (.cells (encT ts).toArray 61)) (some ⟨w.heap.size,0,none⟩) ts.length ts.length ts:=RowK.tk (MapKept.heap_alloc w _).1 (by unfold maxLen;omega) hok
theorem RwU.up{w w':World}{g:Nat}{rs:List PcU}(h:RwU w g rs)(hb:Below w.heap.size w w'):RwU w' g rs:=(hb.block g h.lt).trans h
theorem EbAt.row{w:World}{g:Nat}{bs:List Bool}(h:EbAt w g bs)(n:Nat)(hn:bs.length=n)(hb:n≤100000):BoSl w (some ⟨g,0,none⟩) n n bs:=by
 refine ⟨hn,Nat.le_refl _,by unfold maxLen;omega,fun h=>(by cases h),fun x hx k hk=>?_⟩
 injection hx with hx
 subst hx
 rw[qj,Nat.zero_add]
 exact h.cell (List.getElem?_eq_getElem hk)
theorem q60(a:Option Addr)(len cap:Nat)(xs:List Int)(a':Option Addr)(len' cap':Nat)(ys:List Int)(w:World)
  (hS:IntSl Tryz.prog 33 .u64 w a len cap xs) (hO:IntSl Tryz.prog 33 .u64 w a' len' cap' ys) :
  Calls Tryz.prog 63 #[.slice a len cap,.slice a' len' cap'] w fun e w'=>e=.returned (.bool (decide (xs=ys)))∧∃ n,w'=w.drewN n:=by
 have hb0:=hS.bd
 have hb1:=hS.hcap
 have hb2:=hO.bd
 have hb3:=hO.hcap
 unfold maxLen at hb0 hb2
 by_cases hll:len=len'
 ·subst hll
  have hidx:=fun (k:Nat) (w:World) (h:k<len)=>hS.idx len k w h (Nat.le_refl _)
  have hidx':=fun (k:Nat) (w:World) (h:k<len)=>hO.idx len k w h (Nat.le_refl _)
  go_enter Tryz.func63,Tryz.ntmps63
  go_wp2
  go_loopw [5] (fun i wr=>∃ k:Nat,k≤len∧i=.int .i64 k∧Hid (xs.take k=ys.take k)∧Hid (∃ n,wr=w.drewN n)) (fun i _=>len - (intOf i).toNat)
  case atStart=>exact ⟨0,Nat.zero_le _,rfl,by show _=_;simp,0,rfl⟩
  case round =>
   obtain ⟨k,hk,rfl,HU,hwr⟩:=hrel
   by_cases hlt:k<len
   ·have hS':IntSl Tryz.prog 33 .u64 wr a len cap xs:=by obtain ⟨n,hn⟩:=hwr.out;rw[hn];exact hS.drewN n
    have hO':IntSl Tryz.prog 33 .u64 wr a' len cap' ys:=by obtain ⟨n,hn⟩:=hwr.out;rw[hn];exact hO.drewN n
    have hck:=hS'.cell k hlt
    have hck':=hO'.cell k hlt
    have HN:Hid (xs.getD k 0=ys.getD k 0→xs.take (k+1)=ys.take (k+1)):=fun h=>q9m (by rw[hS.hlen];exact hlt) (by rw[hO.hlen];exact hlt) HU.out h
    have HM:Hid (xs.getD k 0≠ys.getD k 0→decide (xs=ys)=false):=fun h=>decide_eq_false (fun e=>h (by rw[e]))
    clear hS' hO'
    generalize xs.getD k 0=x at *
    generalize ys.getD k 0=y at *
    go_wp2
    go_quiet (fail)
    rcases Bool.eq_false_or_eq_true (x != y) with ht | ht
    ·go_wp2
     go_ret
     obtain ⟨n,hn⟩:=hwr.out
     exact ⟨by rw[HM.out (by simpa using ht)];rfl,n+nq,by rw[hn,World.drewN_drewN]⟩
    ·have HN2:Hid _:=HN.out (by simpa using ht)
     go_wp2
     go_roundw
     case rel =>
      obtain ⟨n,hn⟩:=hwr.out
      exact ⟨k+1,by omega,by go_num,HN2,n+nq,by rw[hn,World.drewN_drewN]⟩
     case measure=>simp[intOf];omega
   ·have hx:Hid (decide (xs=ys)=true):=by
     have:=HU.out
     rw[List.take_of_length_le (by rw[hS.hlen];omega),List.take_of_length_le (by rw[hO.hlen];omega)]at this
     exact decide_eq_true this
    go_wp2
    go_ret
    exact ⟨by rw[hx.out];rfl,hwr.out⟩
 ·have hx:Hid (decide (xs=ys)=false):=decide_eq_false (fun e=>hll (by rw[← hS.hlen,← hO.hlen,e]))
  have hll':((len:Int) != (len':Int))=true:=by simp;omega
  clear hll
  go_enter Tryz.func63,Tryz.ntmps63
  go_wp2
  go_ret
  exact ⟨by rw[hx.out];rfl,0,rfl⟩
theorem q6N(a:Option Addr)(n c:Nat)(l:List Nat)(b:Option Addr)(m d:Nat)(k:List Nat)(w:World)(h:USl w a n c l)(h':USl w b m d k):Calls Tryz.prog 63 #[.slice a n c,.slice b m d] w (BR (decide (l=k)) w) :=
 (q60 a n c _ b m d _ w h h').mono fun e w' ⟨h1,q,h2⟩=>⟨by rw[h1,qdi],by rw[h2];exact below_drewN (Below.refl _ _) q⟩
theorem q16(a:Option Addr)(n c:Nat)(l:List Nat)(b:Option Addr)(m d:Nat)(k:List Nat)(w:World)(h:USl w a n c l)(h':USl w b m d k):Calls Tryz.prog 33 #[.slice a n c,.slice b m d] w (BR (decide (l=k)) w):=by
 have js:=q6N a n c l b m d k w h h'
 generalize decide (l=k)=v at *
 clear h h'
 go_enter Tryz.func33,Tryz.ntmps33
 go_wp2_with fail
 refine js.mono ?_
 rintro e w1 ⟨rfl,hb⟩
 have HB:Hid _:=hb
 clear js hb
 go_wp2
 go_ret
 exact ⟨rfl,HB.out⟩
theorem FoR.known{ts:List Tk}{zs:List Int}{w w':World}{e:Ending}(h:FoR ts zs w e w'){T:Tr}{l0:List Nat}{M:Mt}{ls:List (List Nat)}(hA:AOk ts zs T l0 M)(hf:fwdM M l0 (zN zs)=some ls):Below w.heap.size w w'∧∃ g rs,e=.returned (.tuple #[.slice (some ⟨g,0,none⟩) (zs.length+1) (zs.length+1),.int .i64 0])∧RwU w' g rs∧rs.map (·.ts)=ls∧∀ r∈rs,USl w' r.a r.len r.cap r.ts:=by
 rcases h.2 with ⟨E,hE,_⟩ | ⟨S,l1,M1,g,rs,hB,hf1,he,h1,h2,h3⟩
 ·exact (hE.not hA (by rw[hf];intro h;cases h)).elim
 ·obtain ⟨rfl,rfl,rfl⟩:=hA.same hB
  rw[hf]at hf1
  injection hf1 with hf1
  exact ⟨h.1,g,rs,he,h1,hf1.symm,fun r hr=>(h3 r hr).1⟩
theorem BaR.known{ts:List Tk}{zs:List Int}{w w':World}{e:Ending}(h:BaR ts zs w e w'){T:Tr}{l0:List Nat}{M:Mt}(hA:AOk ts zs T l0 M):Below w.heap.size w w'∧∃ g k,e=.returned (.tuple #[.slice (some ⟨g,0,none⟩) (zs.length+1) (zs.length+1),.slice (some ⟨k,0,none⟩) M.length M.length,.int .i64 0])∧HsAt w' g (backL M (zN zs)):=by
 rcases h.2 with ⟨E,hE,_⟩ | ⟨S,l1,M1,g,k,rs,hB,he,h1,_,_⟩
 ·exact (hE.not hA (fun h=>h)).elim
 ·obtain ⟨rfl,rfl,rfl⟩:=hA.same hB
  exact ⟨h.1,g,k,he,h1⟩
theorem AlR.known{ts:List Tk}{zs:List Int}{w w':World}{e:Ending}(h:AlR ts zs w e w'){T:Tr}{l0:List Nat}{M:Mt}(hA:AOk ts zs T l0 M):Below w.heap.size w w'∧∃ g,e=.returned (.tuple #[.slice (some ⟨g,0,none⟩) (zs.length+1) (zs.length+1),.int .i64 0])∧EbAt w' g ((backL M (zN zs)).map fun h=>hoB l0 h):=by
 rcases h.2 with ⟨E,hE,_⟩ | ⟨S,l1,M1,g,bs,hB,he,h1,rfl⟩
 ·exact (hE.not hA (fun h=>h)).elim
 ·obtain ⟨rfl,rfl,rfl⟩:=hA.same hB
  exact ⟨h.1,g,he,h1⟩
theorem SaR.bad{ts:List Tk}{zs:List Int}{w w':World}{e:Ending}(h:SaR ts zs w e w')(h0:ahE ts zs≠0):e=.returned (.tuple #[.bool false,.int .i64 (ahE ts zs)])∧Below w.heap.size w w':=by
 rcases h.2 with ⟨E,⟨_,⟨_,rfl⟩ | ⟨h1,_⟩⟩,he⟩ | ⟨S,l1,M1,ls1,v,hB,_⟩
 ·exact ⟨he,h.1⟩
 ·exact absurd h1 h0
 ·exact absurd hB.ah h0
theorem q43{l:List PcU}{p:List Nat}{q:List (List Nat)}(h:l.map (·.ts)=p::q):∃ r k,l=r::k∧r.ts=p∧k.map (·.ts)=q:=by
 cases l with
 | nil=>cases h
 | cons r k=>injection h with h1 h2;exact ⟨r,k,rfl,h1,h2⟩
theorem qd2{l:List PcU}(h:l.map (·.ts)=[]):l=[]:=List.map_eq_nil_iff.1 h
theorem qaQ{w:World}:LtSl w none 0 0 []:=⟨q7j,fun z hz=>by simp at hz⟩
theorem qaP:ahE [(2,0),(9,0)] []=7:=by
 unfold ahE
 rw[qcy,if_pos (by decide)];rfl
theorem hob1:([3,7,6,0].map fun h=>hoB [1] h)=[true,true,false,false]:=by decide
theorem q5M(w:World)(hT:Tab64 w):Calls Tryz.prog 8 #[] w (BR true w):=by
 obtain ⟨w1,hw1⟩:∃ w1,w1=w.alloc (.cells #[.int .u8 1,.int .u8 2,.int .u8 3] 37):=⟨_,rfl⟩
 obtain ⟨w2,hw2⟩:∃ w2,w2=w1.alloc (.cells #[.int .u8 2,.int .u8 0,.int .u8 2,.int .u8 1,.int .u8 15,.int .u8 0] 61):=⟨_,rfl⟩
 obtain ⟨w3,hw3⟩:∃ w3,w3=w2.alloc (.cells #[.int .u8 2,.int .u8 1,.int .u8 7,.int .u8 0] 61):=⟨_,rfl⟩
 have b1:Below w.heap.size w w1:=by rw[hw1];exact qd _ _
 have b2:Below w1.heap.size w1 w2:=by rw[hw2];exact qd _ _
 have b3:Below w2.heap.size w2 w3:=by rw[hw3];exact qd _ _
 have z1:w1.heap.size=w.heap.size+1:=by rw[hw1];simp
 have z2:w2.heap.size=w.heap.size+1+1:=by rw[hw2];simp[z1]
 have l1:LtSl w1 (some ⟨w.heap.size,0,none⟩) 3 3 [1,2,3]:=by rw[hw1];exact q9H [1,2,3] w (by decide) (by decide)
 have t2:TkSl w2 (some ⟨w.heap.size+1,0,none⟩) 3 3 [(2,0),(2,1),(15,0)]:=by rw[← z1,hw2];exact q53 [(2,0),(2,1),(15,0)] w1 (by decide) (by decide)
 have t3:TkSl w3 (some ⟨w.heap.size+1+1,0,none⟩) 2 2 [(2,1),(7,0)]:=by rw[← z2,hw3];exact q53 [(2,1),(7,0)] w2 (by decide) (by decide)
 have HL:Hid (LtSl w3 (some ⟨w.heap.size,0,none⟩) 3 3 [1,2,3]):=(l1.up b2).up b3
 have HU:Hid (TkSl w3 (some ⟨w.heap.size+1,0,none⟩) 3 3 [(2,0),(2,1),(15,0)]):=t2.up b3
 have HN:Hid (TkSl w3 (some ⟨w.heap.size+1+1,0,none⟩) 2 2 [(2,1),(7,0)]):=t3
 have HT:Hid (Tab64 w3):=((hT.up b1).up b2).up b3
 have HB3:Hid (Below w.heap.size w w3):=qe (qe b1 b2) b3
 have HA1:Hid (AOk [(2,0),(2,1),(15,0)] [1,2,3] untT [1] [[(2,0),(2,1),(15,0)]]):=⟨qba,rfl,q6T qba rfl (by decide) (by decide),ak1⟩
 have HA2:Hid (AOk [(2,1),(7,0)] [1,2,3] nexT [1] [[(2,1),(7,0)],[(4,0)],[(2,1)]]):=⟨qb9,rfl,q6T qb9 rfl (by decide) (by decide),ak6⟩
 have HA3:Hid (AOk [(2,0),(8,0)] [] weaT [1] [[(2,0),(8,0)]]):=⟨q93,rfl,q6T q93 rfl (by decide) (by decide),ak9⟩
 have HW1:Hid _:=hw1
 have HW2:Hid _:=hw2
 have HW3:Hid _:=hw3
 have j1:=q5g _ _ _ _ _ _ _ _ w3 HU.out HL.out HT.out
 clear hT hw1 hw2 hw3 b1 b2 b3 z1 z2 l1 t2 t3
 go_enter Tryz.func8,Tryz.ntmps8
 go_wp2_with fail
 rw[← HW1.out,← HW2.out,← HW3.out]
 refine j1.mono ?_
 intro e w4 hq
 obtain ⟨hb,g1,rs,rfl,hR,hrs,hUS⟩:=hq.known HA1.out ak2
 have HB4:Hid (Below w3.heap.size w3 w4):=hb
 have HR:Hid (RwU w4 g1 rs):=hR
 have HRS:Hid (rs.map (·.ts)=[[1],[1],[0],[0]]):=hrs
 have HUS:Hid (∀ r∈rs,USl w4 r.a r.len r.cap r.ts):=hUS
 clear j1 hq hb hR hrs hUS HW1 HW2 HW3
 dsimp only[List.length_cons,List.length_nil,Nat.zero_add,Nat.reduceAdd]
 have j2:=q2F _ _ _ _ _ _ _ _ w4 (HU.out.up HB4.out) (HL.out.up HB4.out) (HT.out.up HB4.out)
 go_wp2_with fail
 refine j2.mono ?_
 intro e w5 hq
 obtain ⟨hb,g2,k2,rfl,hH⟩:=hq.known HA1.out
 have HB45:Hid (Below w4.heap.size w4 w5):=hb
 have HB5:Hid (Below w3.heap.size w3 w5):=qe HB4.out hb
 have HH2:Hid (HsAt w5 g2 [1,1,1,0]):=by show HsAt _ _ _;rw[← ak5];exact hH
 clear j2 hq hb hH HA1 HU HB4
 dsimp only[List.length_cons,List.length_nil,Nat.zero_add,Nat.reduceAdd]
 have j3:=q2F _ _ _ _ _ _ _ _ w5 (HN.out.up HB5.out) (HL.out.up HB5.out) (HT.out.up HB5.out)
 go_wp2_with fail
 refine j3.mono ?_
 intro e w6 hq
 obtain ⟨hb,g3,k3,rfl,hH⟩:=hq.known HA2.out
 have HB46:Hid (Below w4.heap.size w4 w6):=qe HB45.out hb
 have HB6:Hid (Below w3.heap.size w3 w6):=qe HB5.out hb
 have HH3:Hid (HsAt w6 g3 [3,7,6,0]):=by show HsAt _ _ _;rw[← ak8];exact hH
 have HH2b:Hid (HsAt w6 g2 [1,1,1,0]):=HH2.out.up hb
 clear j3 hq hb hH HB5 HB45 HH2
 dsimp only[List.length_cons,List.length_nil,Nat.zero_add,Nat.reduceAdd]
 have j4:=q85 _ _ _ _ _ _ _ _ w6 (HN.out.up HB6.out) (HL.out.up HB6.out) (HT.out.up HB6.out)
 go_wp2_with fail
 refine j4.mono ?_
 intro e w7 hq
 obtain ⟨hb,g4,rfl,hE⟩:=hq.known HA2.out
 have HB67:Hid (Below w6.heap.size w6 w7):=hb
 have HB7:Hid (Below w3.heap.size w3 w7):=qe HB6.out hb
 have HE4:Hid (EbAt w7 g4 [true,true,false,false]):=by
  show EbAt _ _ _
  rw[show zN [1,2,3]=[1,2,3] from rfl,ak8,hob1]at hE
  exact hE
 clear j4 hq hb hE HB6
 dsimp only[List.length_cons,List.length_nil,Nat.zero_add,Nat.reduceAdd]
 have j5:=q2S _ _ _ _ _ _ _ _ w7 (HN.out.up HB7.out) (HL.out.up HB7.out) (HT.out.up HB7.out)
 go_wp2_with fail
 refine j5.mono ?_
 intro e w8 hq
 obtain ⟨v5,rfl,hv⟩:=hq.known HA2.out ak7
 obtain rfl:v5=true:=hv.2 (qb0 _)
 have HB78:Hid (Below w7.heap.size w7 w8):=hq.1
 have HB8:Hid (Below w3.heap.size w3 w8):=qe HB7.out hq.1
 clear j5 hq hv HB7 HA2 HN HL
 obtain ⟨w9,hw9⟩:∃ w9,w9=w8.alloc (.cells #[.int .u8 2,.int .u8 0,.int .u8 8,.int .u8 0] 61):=⟨_,rfl⟩
 have b9:Below w8.heap.size w8 w9:=by rw[hw9];exact qd _ _
 have t9:TkSl w9 (some ⟨w8.heap.size,0,none⟩) 2 2 [(2,0),(8,0)]:=by rw[hw9];exact q53 [(2,0),(8,0)] w8 (by decide) (by decide)
 have j6:=q2S _ _ _ _ none 0 0 [] w9 t9 qaQ ((HT.out.up HB8.out).up b9)
 have HW9:Hid _:=hw9
 have HB79:Hid (Below w7.heap.size w7 w9):=qe HB78.out b9
 have HB9:Hid (Below w3.heap.size w3 w9):=qe HB8.out b9
 clear hw9 b9 t9
 go_wp2_with fail
 rw[← HW9.out]
 refine j6.mono ?_
 intro e w10 hq
 obtain ⟨v6,rfl,hv⟩:=hq.known HA3.out akA
 obtain rfl:v6=true:=hv.2 qdf
 have HB710:Hid (Below w7.heap.size w7 w10):=qe HB79.out hq.1
 have HB10:Hid (Below w3.heap.size w3 w10):=qe HB9.out hq.1
 clear j6 hq hv HB8 HB78 HB79 HB9 HW9 HA3
 obtain ⟨w11,hw11⟩:∃ w11,w11=w10.alloc (.cells #[.int .u8 2,.int .u8 0,.int .u8 9,.int .u8 0] 61):=⟨_,rfl⟩
 have b11:Below w10.heap.size w10 w11:=by rw[hw11];exact qd _ _
 have t11:TkSl w11 (some ⟨w10.heap.size,0,none⟩) 2 2 [(2,0),(9,0)]:=by rw[hw11];exact q53 [(2,0),(9,0)] w10 (by decide) (by decide)
 have j7:=q2S _ _ _ _ none 0 0 [] w11 t11 qaQ ((HT.out.up HB10.out).up b11)
 have HW11:Hid _:=hw11
 have HB711:Hid (Below w7.heap.size w7 w11):=qe HB710.out b11
 have HB11:Hid (Below w3.heap.size w3 w11):=qe HB10.out b11
 clear hw11 b11 t11
 go_wp2_with fail
 rw[← HW11.out]
 refine j7.mono ?_
 intro e w12 hq
 obtain ⟨he,hb⟩:=hq.bad (by rw[qaP];decide)
 rw[qaP]at he
 subst he
 have HB712:Hid (Below w7.heap.size w7 w12):=qe HB711.out hb
 have HB12:Hid (Below w3.heap.size w3 w12):=qe HB11.out hb
 clear j7 hq hb HB710 HB10 HB711 HB11 HW11 HT
 have HB:Hid (Below w.heap.size w w12):=qe HB3.out HB12.out
 have HX:Hid (Below w4.heap.size w4 w12):=qe (qe HB46.out HB67.out) HB712.out
 have HY:Hid (Below w6.heap.size w6 w12):=qe HB67.out HB712.out
 obtain ⟨r0,q0,rfl,e0,h0⟩:=q43 HRS.out
 obtain ⟨r1,q1,rfl,e1,h1⟩:=q43 h0
 obtain ⟨r2,q2,rfl,e2,h2⟩:=q43 h1
 obtain ⟨r3,q3,rfl,e3,h3⟩:=q43 h2
 obtain rfl:=qd2 h3
 have u0:USl w12 r0.a r0.len r0.cap r0.ts:=(HUS.out r0 (by simp)).up HX.out
 have u1:USl w12 r1.a r1.len r1.cap r1.ts:=(HUS.out r1 (by simp)).up HX.out
 have u2:USl w12 r2.a r2.len r2.cap r2.ts:=(HUS.out r2 (by simp)).up HX.out
 have u3:USl w12 r3.a r3.len r3.cap r3.ts:=(HUS.out r3 (by simp)).up HX.out
 have RW:=HR.out.up HX.out
 have c0:=RW.cell (i:=0) rfl
 have c1:=RW.cell (i:=1) rfl
 have c2:=RW.cell (i:=2) rfl
 have c3:=RW.cell (i:=3) rfl
 have n0:=u0.len
 have n1:=u1.len
 have n2:=u2.len
 have n3:=u3.len
 rw[e0]at u0 n0
 rw[e1]at u1 n1
 rw[e2]at u2 n2
 rw[e3]at u3 n3
 rw[n0]at u0 c0
 rw[n1]at u1 c1
 rw[n2]at u2 c2
 rw[n3]at u3 c3
 dsimp only[List.length_cons,List.length_nil,Nat.zero_add]at u0 u1 u2 u3 c0 c1 c2 c3
 generalize r0.a=a0 at *
 generalize r1.a=a1 at *
 generalize r2.a=a2 at *
 generalize r3.a=a3 at *
 generalize r0.cap=d0 at *
 generalize r1.cap=d1 at *
 generalize r2.cap=d2 at *
 generalize r3.cap=d3 at *
 have HC0:Hid _:=c0
 have HC1:Hid _:=c1
 have HC2:Hid _:=c2
 have HC3:Hid _:=c3
 have U0:Hid (USl w12 a0 1 d0 [1]):=u0
 have U1:Hid (USl w12 a1 1 d1 [1]):=u1
 have U2:Hid (USl w12 a2 1 d2 [0]):=u2
 have U3:Hid (USl w12 a3 1 d3 [0]):=u3
 have S2:Hid (USl w12 (some ⟨g2,0,none⟩) 4 4 [1,1,1,0]):=(HH2b.out.up HY.out).usl (by decide)
 have S3:Hid (USl w12 (some ⟨g3,0,none⟩) 4 4 [3,7,6,0]):=(HH3.out.up HY.out).usl (by decide)
 have S4:Hid (BoSl w12 (some ⟨g4,0,none⟩) 4 4 [true,true,false,false]):=(EbAt.up HE4.out HB712.out).row 4 rfl (by decide)
 have hx0:∀ w',(Instr.indexAt 56 (.slice (some ⟨g1,0,none⟩) 4 4) (.int .i64 0)).run Tryz.prog w'=.ok (.pointer (some ⟨g1,0,none⟩)) w':=fun w'=>q1K g1 4 0 (by decide) w'
 have hx1:∀ w',(Instr.indexAt 56 (.slice (some ⟨g1,0,none⟩) 4 4) (.int .i64 1)).run Tryz.prog w'=.ok (.pointer (some ⟨g1,1,none⟩)) w':=fun w'=>q1K g1 4 1 (by decide) w'
 have hx2:∀ w',(Instr.indexAt 56 (.slice (some ⟨g1,0,none⟩) 4 4) (.int .i64 2)).run Tryz.prog w'=.ok (.pointer (some ⟨g1,2,none⟩)) w':=fun w'=>q1K g1 4 2 (by decide) w'
 have hx3:∀ w',(Instr.indexAt 56 (.slice (some ⟨g1,0,none⟩) 4 4) (.int .i64 3)).run Tryz.prog w'=.ok (.pointer (some ⟨g1,3,none⟩)) w':=fun w'=>q1K g1 4 3 (by decide) w'
 clear HRS HUS HR HH2b HH3 HE4 HX HY HB712 HB67 HB46 HB12 HB3 e0 e1 e2 e3 h0 h1 h2 h3 n0 n1 n2 n3 u0 u1 u2 u3 c0 c1 c2 c3 RW
 have B0:Hid (Below w12.heap.size w12 w12):=Below.refl _ _
 have cc:w12.cell? _=_:=qA HC0.out B0.out
 have bn0:=qd w12 (.cells #[.int .u64 1] 52)
 have lt0:USl (w12.alloc (.cells #[.int .u64 1] 52)) (some ⟨w12.heap.size,0,none⟩) 1 1 [1]:=qL [1] w12 (by decide)
 have js:=q16 _ _ _ _ _ _ _ _ _ ((U0.out.up B0.out).up bn0) lt0
 rw[decide_eq_true rfl]at js
 have HX0:Hid _:=qe B0.out bn0
 clear lt0 bn0
 go_wp2_with fail
 refine js.mono ?_
 rintro e v0 ⟨rfl,hb⟩
 have B1:Hid (Below w12.heap.size w12 v0):=qe HX0.out hb
 clear js hb HX0 U0 cc
 have cc:v0.cell? _=_:=qA HC1.out B1.out
 have bn1:=qd v0 (.cells #[.int .u64 1] 52)
 have lt1:USl (v0.alloc (.cells #[.int .u64 1] 52)) (some ⟨v0.heap.size,0,none⟩) 1 1 [1]:=qL [1] v0 (by decide)
 have js:=q16 _ _ _ _ _ _ _ _ _ ((U1.out.up B1.out).up bn1) lt1
 rw[decide_eq_true rfl]at js
 have HX1:Hid _:=qe B1.out bn1
 clear lt1 bn1
 go_wp2_with fail
 refine js.mono ?_
 rintro e v1 ⟨rfl,hb⟩
 have B2:Hid (Below w12.heap.size w12 v1):=qe HX1.out hb
 clear js hb HX1 U1 cc
 have cc:v1.cell? _=_:=qA HC2.out B2.out
 have bn2:=qd v1 (.cells #[.int .u64 0] 52)
 have lt2:USl (v1.alloc (.cells #[.int .u64 0] 52)) (some ⟨v1.heap.size,0,none⟩) 1 1 [0]:=qL [0] v1 (by decide)
 have js:=q16 _ _ _ _ _ _ _ _ _ ((U2.out.up B2.out).up bn2) lt2
 rw[decide_eq_true rfl]at js
 have HX2:Hid _:=qe B2.out bn2
 clear lt2 bn2
 go_wp2_with fail
 refine js.mono ?_
 rintro e v2 ⟨rfl,hb⟩
 have B3:Hid (Below w12.heap.size w12 v2):=qe HX2.out hb
 clear js hb HX2 U2 cc
 have cc:v2.cell? _=_:=qA HC3.out B3.out
 have bn3:=qd v2 (.cells #[.int .u64 0] 52)
 have lt3:USl (v2.alloc (.cells #[.int .u64 0] 52)) (some ⟨v2.heap.size,0,none⟩) 1 1 [0]:=qL [0] v2 (by decide)
 have js:=q16 _ _ _ _ _ _ _ _ _ ((U3.out.up B3.out).up bn3) lt3
 rw[decide_eq_true rfl]at js
 have HX3:Hid _:=qe B3.out bn3
 clear lt3 bn3
 go_wp2_with fail
 refine js.mono ?_
 rintro e v3 ⟨rfl,hb⟩
 have B4:Hid (Below w12.heap.size w12 v3):=qe HX3.out hb
 clear js hb HX3 U3 cc
 have bn4:=qd v3 (.cells #[.int .u64 1,.int .u64 1,.int .u64 1,.int .u64 0] 52)
 have lt4:USl (v3.alloc (.cells #[.int .u64 1,.int .u64 1,.int .u64 1,.int .u64 0] 52)) (some ⟨v3.heap.size,0,none⟩) 4 4 [1,1,1,0]:=qL [1,1,1,0] v3 (by decide)
 have js:=q16 _ _ _ _ _ _ _ _ _ ((S2.out.up B4.out).up bn4) lt4
 rw[decide_eq_true rfl]at js
 have HX4:Hid _:=qe B4.out bn4
 clear lt4 bn4
 go_wp2_with fail
 refine js.mono ?_
 rintro e v4 ⟨rfl,hb⟩
 have B5:Hid (Below w12.heap.size w12 v4):=qe HX4.out hb
 clear js hb HX4 S2
 have bn5:=qd v4 (.cells #[.int .u64 3,.int .u64 7,.int .u64 6,.int .u64 0] 52)
 have lt5:USl (v4.alloc (.cells #[.int .u64 3,.int .u64 7,.int .u64 6,.int .u64 0] 52)) (some ⟨v4.heap.size,0,none⟩) 4 4 [3,7,6,0]:=qL [3,7,6,0] v4 (by decide)
 have js:=q16 _ _ _ _ _ _ _ _ _ ((S3.out.up B5.out).up bn5) lt5
 rw[decide_eq_true rfl]at js
 have HX5:Hid _:=qe B5.out bn5
 clear lt5 bn5
 go_wp2_with fail
 refine js.mono ?_
 rintro e v5 ⟨rfl,hb⟩
 have B6:Hid (Below w12.heap.size w12 v5):=qe HX5.out hb
 clear js hb HX5 S3
 have bn6:=qd v5 (.cells #[.bool true,.bool true,.bool false,.bool false] 4)
 have lt6:BoSl (v5.alloc (.cells #[.bool true,.bool true,.bool false,.bool false] 4)) (some ⟨v5.heap.size,0,none⟩) 4 4 [true,true,false,false]:=EbAt.row (show EbAt _ _ [true,true,false,false] from (MapKept.heap_alloc _ _).1) 4 rfl (by decide)
 have js:=q6M _ _ _ _ _ _ _ _ _ ((S4.out.up B6.out).up bn6) lt6
 rw[decide_eq_true rfl]at js
 have HX6:Hid _:=qe B6.out bn6
 clear lt6 bn6
 go_wp2_with fail
 refine js.mono ?_
 rintro e v6 ⟨rfl,hb⟩
 have B7:Hid (Below w12.heap.size w12 v6):=qe HX6.out hb
 clear js hb HX6 S4
 have HEN:Hid _:=qe HB.out B7.out
 go_wp2
 go_ret
 exact ⟨rfl,HEN.out⟩
end Go.Proofs.YtejekdenpefoiaaGreatDoor
