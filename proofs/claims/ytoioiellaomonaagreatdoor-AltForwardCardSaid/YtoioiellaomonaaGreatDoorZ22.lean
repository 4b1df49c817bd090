import Derived.Deep.AppendLies
import Derived.Test.YtoioiellaomonaaGreatDoorZ11
import Derived.Test.YtoioiellaomonaaGreatDoorZ16
set_option maxRecDepth 100000
set_option maxHeartbeats 16000000
namespace Go.Proofs.YtoioiellaomonaaGreatDoor
open Go.RowKit Go.Maps Proofs.Tryz
variable {k p er o g:Nat}{w w':World}{F:Nat->Prop}{M:Mt}{vb vm u:Value}{rows:List Value}{f:List Tk}{e:Ending}
theorem ZW(hk:k<64):IntKind.u64.wrap (2 ^ k)=((2 ^ k:Nat):Int):=by
 have h:(2 ^ k:Nat)<2 ^ 64:=Nat.pow_lt_pow_right (by decide) hk
 rw[IntKind.wrap_u64,show ((2:Int) ^ k)=((2 ^ k:Nat):Int) by simp]
 generalize 2 ^ k=z at *
 omega
theorem uW:(prog.info? 22).map (·.size)=some 1:=by kernel_rfl
theorem qdo:(prog.info? 22).map (fun i=>(i.zero,i.size,i.bytes))=some (some (.slice none 0 0),1,24):=by kernel_rfl
theorem ZX(g n cap k:Nat)(w:World)(hn:k<n):(Instr.indexAt 67 (.slice (some ⟨g,0,none⟩) n cap) (.int .i64 k)).run prog w=.ok (.pointer (some ⟨g,k,none⟩)) w:=by
 simp[Instr.indexAt,run_underlying underlying67,asIntOf,qZ uW,hn,Result.andThen,go_sem,qi]
theorem xk.at(h:xk w F p M er vb vm rows){i:Nat}(hi:i<M.length):
  ∃g cap a n c,vm=.slice (some ⟨g,0,none⟩) M.length cap/\w.cell? ⟨g,i,none⟩=some (.slice a n c)/\bG w a n c M[i]/\F g:=by
 obtain⟨a,n,c,h1,h2,h3⟩:=h.met i _ (kU hi);obtain⟨hl,h4⟩:=h.row;rcases h4 with⟨_,e⟩|⟨g,cap,cur,rfl,hg,hcell,h5,h6,h7,h8⟩
 ·omega
 ·refine⟨g,cap,a,n,c,rfl,?_,h2,(h.foot g).2 (.inr rfl)⟩
  rw[qc hcell];rw[<-h8]at h1;rw[List.getElem?_take_of_lt (by omega)]at h1
  simpa using h1
theorem q8V{w:World}{ops:Array Oper}{rest:List Oper}{o:Oper}{a:Act}{Q:Exit->Act->World->Prop}(hgd:o.guard=none)(s x:Operand)
  (ho:o.op=.call { callee:=.builtin .append,args:=#[s,x],argTypes:=#[67,67] }) (base:Nat)
  (v:Value) (n:Nat) (rows:List Value) (hs:a.eval s=v) (hown:w.ownsRow base 22 1 v n rows) (g':Nat) (b:Option Addr) (m c:Nat) (hx:a.eval x=.slice (some ⟨g',0,none⟩) 1 1) (hc:w.cell? ⟨g',0,none⟩=some (.slice b m c))
  (hn:n+1<=2000000) (hbase:base<=w.heap.size)
  (h:∀g cap w',w'.ownsRow base 22 1 (.slice (some ⟨g,0,none⟩) (n+1) cap) (n+1) (rows++[.slice b m c])->w.grownBy w' v.ownBlock->(v.ownBlock=some g\/g=w.heap.size)->wpList prog ops Q rest (a.put o.dst (.slice (some ⟨g,0,none⟩) (n+1) cap)) w'):wpList prog ops Q (o::rest) a w:=by
 obtain⟨i,hi,hz0,hz1,hz2⟩:=info_parts qdo;refine wpList_append_lies w hgd s x 67 ho base 22 i _ 1 24 underlying67 hi hz0 hz1 hz2 rfl (by decide) v n _ hs hown ⟨g',0,none⟩ 1 1 [.slice b m c] hx rfl ?_ (fun u hu=>by simp at hu;subst hu;rfl) (by decide) (by unfold maxLen;omega) (by omega) hbase _ rfl ?_
 ·intro j u hj
  match j with
  | 0=>simp at hj;rw[<-hj,qi];exact hc
  |j+1=>simp at hj
 ·intro g cap w' h1 h2 h3 _
  exact h g cap w' h1 h2 h3
theorem qhR{w5:World}{a:Option Addr}{cap:Nat}(h:xk w F p M er vb (.slice a M.length cap) rows){b:Option Addr}{m c:Nat}(ht:bG w b m c f)(hoff:0<m->∀x,b=some x->¬F x.block)(h64:M.length<64)
  {g5 c5:Nat} (hg:(w.alloc (.cells #[.slice b m c] 22)).grownBy w5 (Value.slice a M.length cap).ownBlock) (ho:w5.ownsRow (p+1) 22 1 (.slice (some ⟨g5,0,none⟩) (M.length+1) c5) (M.length+1) (rows++[.slice b m c]))
  (hl:(Value.slice a M.length cap).ownBlock=some g5\/g5=(w.alloc (.cells #[.slice b m c] 22)).heap.size):
  w5.heap[p]? =some (.cells #[.slice a M.length cap,vb,.int .i64 er] 69 (0,0)) /\
   xk (w5.setCell ⟨p,0,none⟩ (.slice (some ⟨g5,0,none⟩) (M.length+1) c5)) (fun k=>k=p\/k=g5) p (M++[f]) er vb (.slice (some ⟨g5,0,none⟩) (M.length+1) c5) (rows++[.slice b m c]) /\
   Fr w (w5.setCell ⟨p,0,none⟩ (.slice (some ⟨g5,0,none⟩) (M.length+1) c5)) F (fun k=>k=p\/k=g5):=by
 have hb1:=qd w (.cells #[.slice b m c] 22);have hpl:=(lC h.blk).1
 have hlb:=h.row.lt;have hne:(Value.slice a M.length cap).ownBlock≠some p:=fun e=>by have:=(hlb p e).1;omega
 have hz:(w.alloc (.cells #[.slice b m c] 22)).heap.size=w.heap.size+1:=by simp
 have st:∀k,k<w.heap.size->(Value.slice a M.length cap).ownBlock≠some k->w5.heap[k]? =w.heap[k]? := fun k hk hn=>(hg.block k (by omega) (fun e=>hn e.symm)).trans (hb1.block k hk)
 have h5:=(st p hpl hne).trans h.blk;have hs5:=hg.size
 have hg5:g5≠p:=fun e=>by
  rcases hl with e2|e2
  ·rw[e]at e2;exact hne e2
  ·omega
 have hfr:Fr w (w5.setCell ⟨p,0,none⟩ (.slice (some ⟨g5,0,none⟩) (M.length+1) c5)) F (fun k=>k=p\/k=g5):=by
  refine⟨hg.os,hg.tape,hg.output,?_,fun k hk hf=>?_,fun k hk=>?_⟩
  ·simp;omega
  ·have h1:k≠p:=fun e=>hf ((h.foot k).2 (.inl e))
   have h2:(Value.slice a M.length cap).ownBlock≠some k:=fun e=>hf ((h.foot k).2 (.inr e))
   exact(Below.heap_setCell _ _ _ _ h1).trans (st k hk h2)
  ·rcases hk with rfl|rfl
   ·exact .inl ((h.foot _).2 (.inl rfl))
   ·rcases hl with e|e
    ·exact .inl ((h.foot _).2 (.inr e))
    ·exact .inr (by omega)
 have hkp:∀{b:Option Addr}{m c:Nat}{f:List Tk},bG w b m c f->(0<m->∀x,b=some x->¬F x.block)->bG (w5.setCell ⟨p,0,none⟩ (.slice (some ⟨g5,0,none⟩) (M.length+1) c5)) b m c f/\(0<m->∀x,b=some x->¬(x.block=p\/x.block=g5)):=fun t1 t2=>⟨hfr.tks t1 t2,fun hm x hx=>by
  subst hx;exact hfr.out (t2 hm x rfl) (t1.lt hm)⟩
 refine⟨h5,⟨?_,?_,fun k=>?_,fun i f' hf'=>?_,by simp;omega⟩,hfr⟩
 ·rw[heap_setCell_same w5 p 0 _ _ _ h5];rfl
 ·rw[List.length_append]
  exact WI ho (by dsimp only;omega) _
 ·simp[Value.ownBlock,eq_comm]
 ·have hrl:rows.length=M.length:=by have:=h.row.1;omega
  by_cases hi:i<M.length
  ·rw[List.getElem?_append_left hi]at hf'
   obtain⟨a',n',c',h1,h2,h3⟩:=h.met i f' hf';obtain⟨h4,h6⟩:=hkp h2 h3;exact⟨a',n',c',by rw[List.getElem?_append_left (by omega)];exact h1,h4,h6⟩
  ·have hie:i=M.length:=by have:=(List.getElem?_eq_some_iff.1 hf').1;simp at this;omega
   subst hie;rw[List.getElem?_append_right (Nat.le_refl _)]at hf';have:f=f':=by simpa using hf'
   subst this;obtain⟨h4,h6⟩:=hkp ht hoff;exact⟨b,m,c,by rw[List.getElem?_append_right (by omega)];simp[hrl],h4,h6⟩
theorem ZY(hF:∀k,F k->k<w.heap.size)(hk:k<64):eP (w.alloc (.cells #[.int .u64 (2 ^ k:Nat)] 37)) F (some ⟨w.heap.size,0,none⟩) 1 [2 ^ k] :=
 ⟨OB [2 ^ k] w (by simp),fun j hj e=>by
  have:=hF _ e
  simp[aG,G6]at this,fun x hx=>by
  have:x=2 ^ k:=by simpa using hx
  subst this;exact Nat.pow_lt_pow_right (by decide) hk,by simp⟩
theorem xk.flt(h:xk w F p M er vb vm rows):∀k,F k->k<w.heap.size:=fun q hq=>by
 rcases (h.foot q).1 hq with rfl|e
 ·exact(lC h.blk).1
 ·exact(h.row.lt q e).2
theorem qgy(hk:k<M.length)(hl:∀j (h:j<k),M[j]'(by omega)≠f)(he:M[k]=f):dQ f M=some ([2 ^ k],M):=by
 have:M.findIdx? (· == f)=some k:=by
  rw[List.findIdx?_eq_some_iff_getElem];exact⟨hk,by simp[he],fun j hj=>by simpa using hl j hj⟩
 unfold dQ;rw[this]
theorem qfF(hl:∀j (h:j<M.length),M[j]≠f):dQ f M=if M.length<64 then some ([2 ^ M.length],M++[f]) else none:=by
 have:M.findIdx? (· == f)=none:=by
  rw[List.findIdx?_eq_none_iff];intro x hx;obtain⟨j,hj,rfl⟩:=List.getElem_of_mem hx;simpa using hl j hj
 unfold dQ;rw[this]
theorem q8l(p:Nat)(vb:Value)(F:Nat->Prop)(M:Mt)(er:Nat)(T:Tr)(u:Value)(w:World)(hP:RP w F p M er vb)(he:er=0\/er=9)(hT:eG w T u)(hC:Ir T):
  Calls prog 85 #[dY p,aK (ak T) u] w (fG (dX er (dQ T.flat M)) p vb F M w):=by
 obtain⟨vm,rows,hR⟩:=hP;obtain⟨ua,un,uc,rfl⟩:=hT.sl;have hp:F p:=(hR.foot p).2 (.inl rfl);have hm:=hR.few;obtain⟨Q,hQ⟩:∃Q:Ending->World->Prop,Q=fG (dX er (dQ T.flat M)) p vb F M w:=⟨_,rfl⟩
 rw[<-hQ];unfold aK;obtain⟨ro,rp,hrk⟩:∃ro rp,ak T=(ro,rp):=⟨_,_,rfl⟩
 rw[hrk];dsimp only
 have hb0:=qd w (tQ ro rp ua un uc);have hr:=(dO w (tQ ro rp ua un uc)).1;have hR0:=hR.up hb0;obtain⟨k0,k1,k2,k3⟩:=hR0.kP;have b0:(w.alloc (tQ ro rp ua un uc)).cell? ⟨w.heap.size,0,none⟩=some (.int .u8 ro):=qc hr 0;have b1:(w.alloc (tQ ro rp ua un uc)).cell? ⟨w.heap.size,1,none⟩=some (.int .u8 rp):=qc hr 1;have b2:(w.alloc (tQ ro rp ua un uc)).cell? ⟨w.heap.size,2,none⟩=some (.slice ua un uc):=qc hr 2;unfold dY;rcases he with rfl|rfl
 ·have hz:(w.alloc (tQ ro rp ua un uc)).cell? ⟨p,2,none⟩=some (.int .i64 0):=k0
  have jt:=hC _ _ (hT.up hb0);rw[hrk]at jt;unfold aK Ba at jt;dsimp only at jt
  have HB0:Hid _:=hb0;have HR0:Hid _:=hR0;have HQ:Hid _:=hQ;have HM:=aX hm;clear hb0 hr hR hR0 hQ hT hC hrk k0;(unfold tQ at *);go_enter func85,ntmps85
  go_wp2_with fail
  refine jt.mono ?_
  rintro e w1 ⟨a1,c1,rfl,t1,n1,m1⟩
  have HT1:Hid _:=t1;have HN1:Hid _:=n1;have Iu:Hid _:=m1;clear t1 n1 m1 jt b0 b1 b2 hz k1 k2 k3;generalize w.alloc (.cells #[.int .u8 ro,.int .u8 rp,.slice ua un uc] 77)=w0 at *;go_wp2
  go_loopw [6] (fun i wr=>∃k:Nat,k<=M.length/\i=.int .i64 k/\Hid (∀j (h:j<M.length),j<k->M[j]≠T.flat)/\Hid (Below w1.heap.size w1 wr)) (fun i _=>M.length-(intOf i).toNat)
  case atStart=>exact⟨0,Nat.zero_le _,rfl,fun j h hj=>absurd hj (by omega),Below.refl _ _⟩
  case round=>
   obtain⟨k,hk,rfl,HU,HW⟩:=hrel;have hm:=HM.out;have hBw:Below w0.heap.size w0 wr:=qe HN1.out HW.out;have hRr:=HR0.out.up hBw;obtain⟨e0,e1,e2,e3⟩:=hRr.kP;by_cases hlt:k<M.length
   ·obtain⟨g,cap,am,nm,cm,rfl,hcm,tm,hFg⟩:=hRr.at hlt
    have hidx:=fun w'=>ZX g M.length cap k w' hlt
    have js:=q9B am nm cm M[k] a1 T.flat.length c1 T.flat wr tm (HT1.out.up HW.out)
    have Z5:Hid (M[k]=T.flat->∀w',Below wr.heap.size wr w'->Q (.returned (.slice (some ⟨w'.heap.size,0,none⟩) 1 1)) (w'.alloc (.cells #[.int .u64 (2 ^ k:Nat)] 37))):=fun hh w' hb'=>by
     have hR':=HR0.out.up (qe hBw hb');have hbn:=qd w' (.cells #[.int .u64 (2 ^ k:Nat)] 37);rw[HQ.out]
     exact⟨F,M,0,[2 ^ k],_,_,rfl,Fr.au (qe (qe (qe HB0.out hBw) hb') hbn),⟨_,rows,hR'.up hbn⟩,⟨ZY hR'.flt (by omega),fun q _=>by
       rw[show (aG (some ⟨w'.heap.size,0,none⟩) q).block=w'.heap.size from G6 _ _];exact(qe (qe HB0.out hBw) hb').size⟩,List.prefix_refl _,.inl ⟨rfl,qgy hlt (fun j hj=>HU.out j (by omega) hj) hh⟩⟩
    have SQ:Hid (M[k]≠T.flat->∀j (h:j<M.length),j<k+1->M[j]≠T.flat):=fun hh j h hj=>by
     by_cases e:j=k
     ·subst e;exact hh
     ·exact HU.out j h (by omega)
    have hpw:=ZW (k:=k) (by omega)
    have HD:Hid (∀b,decide (M[k]=T.flat)=b->(b=true->M[k]=T.flat)/\(b=false->M[k]≠T.flat)):=fun b hb=>by subst hb;exact⟨of_decide_eq_true,of_decide_eq_false⟩
    generalize hq:decide (M[k]=T.flat)=q at js
    clear tm
    go_wp2_with fail
    refine js.mono ?_
    rintro e w2 ⟨rfl,h2⟩
    cases q with
    |true=>
     have HH:Hid _:=Z5.out ((HD.out true hq).1 rfl) w2 h2;go_wp2
     first|exact HH.out|(go_ret;exact HH.out)
    |false=>
     have HX:Hid _:=SQ.out ((HD.out false hq).2 rfl);have HW2:Hid (Below w1.heap.size w1 w2):=qe HW.out h2;go_wp2
     go_roundw
     case rel=>exact⟨k+1,by omega,by go_num,HX,HW2⟩
     case measure=>simp[intOf];omega
   ·obtain rfl:k=M.length:=by omega
    have hmiss:=qfF (fun j h=>HU.out j h h)
    obtain⟨va,vc,rfl,_⟩:=qO hRr.row bZ;by_cases h64:M.length<64
    ·rw[if_pos h64]at hmiss
     have hbn:=qd wr (.cells #[.slice a1 T.flat.length c1] 22);have HOW:Hid _:=(hRr.up hbn).row;have dL:Hid ((wr.alloc (.cells #[.slice a1 T.flat.length c1] 22)).cell? ⟨wr.heap.size,0,none⟩=some (.slice a1 T.flat.length c1)):=qc (MapKept.heap_alloc wr (.cells #[.slice a1 T.flat.length c1] 22)).1 0;have hpl:p+1<=(wr.alloc (.cells #[.slice a1 T.flat.length c1] 22)).heap.size:=by have:=hRr.flt p hp;simp;omega
     have HP:Hid (∀g5 c5 w5,w5.ownsRow (p+1) 22 1 (.slice (some ⟨g5,0,none⟩) (M.length+1) c5) (M.length+1) (rows++[.slice a1 T.flat.length c1])->(wr.alloc (.cells #[.slice a1 T.flat.length c1] 22)).grownBy w5 (Value.slice va M.length vc).ownBlock->((Value.slice va M.length vc).ownBlock=some g5\/g5=(wr.alloc (.cells #[.slice a1 T.flat.length c1] 22)).heap.size) ->
       w5.cell? ⟨p,0,none⟩=some (.slice va M.length vc)/\w5.frozen? ⟨p,0,none⟩=false/\(w5.setCell ⟨p,0,none⟩ (.slice (some ⟨g5,0,none⟩) (M.length+1) c5)).cell? ⟨p,0,none⟩=some (.slice (some ⟨g5,0,none⟩) (M.length+1) c5)/\∀g6,g6=(w5.setCell ⟨p,0,none⟩ (.slice (some ⟨g5,0,none⟩) (M.length+1) c5)).heap.size->Q (.returned (.slice (some ⟨g6,0,none⟩) 1 1)) ((w5.setCell ⟨p,0,none⟩ (.slice (some ⟨g5,0,none⟩) (M.length+1) c5)).alloc (.cells #[.int .u64 (2 ^ M.length:Nat)] 37))):=fun g5 c5 w5 JW hg5 hl5=>by
      obtain⟨h5,MW,hf5⟩:=qhR hRr (HT1.out.up HW.out) (fun _ x hx hf=>by
       have h1:=Iu.out x hx;have h2:=HR0.out.flt _ hf
       omega) h64 hg5 JW hl5
      refine⟨qc h5 0,frozen_of_row w5 p 0 _ _ h5,qc MW.blk 0,fun g6 BK=>?_⟩
      subst BK;rw[HQ.out];have SS:=qd (w5.setCell ⟨p,0,none⟩ (.slice (some ⟨g5,0,none⟩) (M.length+1) c5)) (.cells #[.int .u64 (2 ^ M.length:Nat)] 37)
      exact⟨_,M++[T.flat],0,[2 ^ M.length],_,_,rfl,((Fr.au (qe HB0.out hBw)).trans hf5).trans (Fr.au SS),⟨_,_,MW.up SS⟩,⟨ZY MW.flt h64,fun q _=>by
       rw[show (aG (some ⟨(w5.setCell ⟨p,0,none⟩ (.slice (some ⟨g5,0,none⟩) (M.length+1) c5)).heap.size,0,none⟩) q).block=(w5.setCell ⟨p,0,none⟩ (.slice (some ⟨g5,0,none⟩) (M.length+1) c5)).heap.size from G6 _ _];exact((Fr.au (F:=F) (qe HB0.out hBw)).trans hf5).size⟩,List.prefix_append _ _,.inl ⟨rfl,hmiss⟩⟩
     have hpw:=ZW h64;have hsub:IntKind.i64.wrap (((M.length+1:Nat):Int)-1)=(M.length:Int):=by rw[IntKind.wrap_i64];omega
     clear hbn hmiss hRr
     go_wp2_with (at_builtin;refine q8V rfl _ _ rfl (p+1) _ M.length rows rfl HOW.out wr.heap.size a1 T.flat.length c1 rfl dL.out (by omega) hpl ?_)
     intro g5 c5 w5 JW hg5 hl5;obtain⟨f0,f1,f2,f3⟩:=HP.out g5 c5 w5 JW hg5 (by simpa using hl5)
     have HE:Hid _:=f3;clear f3 JW hg5 hl5 HP HOW dL;go_wp2
     first|exact HE.out _ (by simp)|(go_ret;exact HE.out _ (by simp))
    ·rw[if_neg h64]at hmiss
     have HE:Hid (Q (.returned (.slice none 0 0)) (wr.setCell ⟨p,2,none⟩ (.int .i64 9))):=by
      show Q _ _
      rw[HQ.out];exact⟨F,M,9,[],none,0,rfl,(Fr.au (qe HB0.out hBw)).oh _ (.inl hp),⟨_,rows,hRr.Bd 9⟩,lN.nil,List.prefix_refl _,.inr ⟨rfl,hmiss⟩⟩
     clear hRr;go_wp2
     first|exact HE.out|(go_ret;exact HE.out)
 ·have hz:(w.alloc (.cells #[.int .u8 ro,.int .u8 rp,.slice ua un uc] 77)).cell? ⟨p,2,none⟩=some (.int .i64 9):=k0
  have HE:Hid (Q (.returned (.slice none 0 0)) (w.alloc (.cells #[.int .u8 ro,.int .u8 rp,.slice ua un uc] 77))):=by
   show Q _ _
   rw[hQ];exact⟨F,M,9,[],none,0,rfl,Fr.au hb0,⟨vm,rows,hR0⟩,lN.nil,List.prefix_refl _,.inr ⟨rfl,rfl⟩⟩
  clear hQ hR hR0 hT hC hb0 hr k0 hrk;(unfold tQ at *);go_enter func85,ntmps85
  go_wp2
  first|exact HE.out|(go_ret;exact HE.out)
def rY(w:World)(F:Nat->Prop):Tr->Value->Prop
 | .leaf _,v=>∃a c,v=.slice a 0 c
 | .un _ c,v=>∃g cap u,v=.slice (some ⟨g,0,none⟩) 1 cap/\¬F g/\bJ w g 0 (ak c) u/\rY w F c u
 | .bin _ c d,v=>∃g cap u u',v=.slice (some ⟨g,0,none⟩) 2 cap/\¬F g/\bJ w g 0 (ak c) u/\bJ w g 3 (ak d) u'/\rY w F c u/\rY w F d u'
theorem rY.at{w:World}{F:Nat->Prop}:∀{T:Tr}{v:Value},rY w F T v->eG w T v
 | .leaf _,_,h=>h
 | .un _ _,_,⟨g,cap,u,e,_,h1,h2⟩=>⟨g,cap,u,e,h1,h2.at⟩
 | .bin _ _ _,_,⟨g,cap,u,u',e,_,h1,h2,h3,h4⟩=>⟨g,cap,u,u',e,h1,h2,h3.at,h4.at⟩
theorem bJ.lt{k:Tk}(h:bJ w g o k u):g<w.heap.size:=World.block_lt_of_cell? _ _ h.1
theorem bJ.fr{F':Nat->Prop}(f:Fr w w' F F'){k:Tk}(h:bJ w g o k u)(hg:¬F g):bJ w' g o k u:=⟨f.cell h.1 hg,f.cell h.2.1 hg,f.cell h.2.2 hg⟩
theorem rY.fr{w w':World}{F F':Nat->Prop}(f:Fr w w' F F'):∀{T:Tr}{v:Value},rY w F T v->rY w' F' T v
 | .leaf _,_,h=>h
 | .un _ _,_,⟨g,cap,u,e,hg,h1,h2⟩=>⟨g,cap,u,e,f.out hg h1.lt,h1.fr f hg,h2.fr f⟩
 | .bin _ _ _,_,⟨g,cap,u,u',e,hg,h1,h2,h3,h4⟩=>⟨g,cap,u,u',e,f.out hg h1.lt,h1.fr f hg,h2.fr f hg,h3.fr f,h4.fr f⟩
theorem rY.up{T:Tr}{v:Value}(h:rY w F T v)(hb:Below w.heap.size w w'):rY w' F T v:=h.fr (Fr.au hb)
theorem jO.off{w:World}{F:Nat->Prop}{B:Nat}(hF:∀k,F k->k<B):∀{T:Tr}{v:Value},jO w B T v->rY w F T v
 | .leaf _,_,h=>h
 | .un _ _,_,⟨g,cap,u,e,hg,h1,h2⟩=>⟨g,cap,u,e,fun hf=>by have:=hF g hf;omega,h1,h2.off hF⟩
 | .bin _ _ _,_,⟨g,cap,u,u',e,hg,h1,h2,h3,h4⟩=>⟨g,cap,u,u',e,fun hf=>by have:=hF g hf;omega,h1,h2,h3.off hF,h4.off hF⟩
theorem rY.sl{w:World}{F:Nat->Prop}{T:Tr}{v:Value}(h:rY w F T v):∃a n c,v=.slice a n c:=h.at.sl
theorem RP.flt(h:RP w F p M er vb):∀k,F k->k<w.heap.size:=by
 obtain⟨vm,rows,h⟩:=h;exact h.flt
theorem SV(w:World):Calls prog 32 #[] w (sJ [0] w):=by
 have h:=OB [0] w (by simp)
 have HS:=aX h;clear h;unfold sJ;go_enter func32,ntmps32
 go_wp2;go_ret
 exact⟨some ⟨w.heap.size,0,none⟩,1,rfl,HS.out,qd _ _,fun k hk=>by simp[aG,G6]⟩
theorem Z7{r:List Nat}(hF:∀k,F k->k<w.heap.size)(hs:Sm r)(hl:r.length<=1024)(h:sJ r w e w'):∃a c,e=.returned (.slice a r.length c)/\lN w w' F a c r/\Below w.heap.size w w':=by
 obtain⟨a,c,h1,h2,h3,h4⟩:=h;exact⟨a,c,h1,⟨⟨h2,fun k hk hf=>by have:=h4 k hk;have:=hF _ hf;omega,hs,hl⟩,h4⟩,h3⟩
def uK(T:Tr):Prop:=∀(p:Nat)(vb:Value)(F:Nat->Prop)(M:Mt)(er:Nat)(u:Value)(w:World),RP w F p M er vb->(er=0\/er=9)->rY w F T u->Calls prog 57 #[dY p,aK (ak T) u] w (fG (dX er (aH T M)) p vb F M w)
theorem Z8(T:Tr)(hC:Ir T)(hn:∀M,aH T M=dQ T.flat M)(h0:¬(((ak T).1:Int)=0))(h1:¬(((ak T).1:Int)=1))(h2:¬(((ak T).1:Int)=11))(h3:¬(((ak T).1:Int)=12)):uK T:=by
 intro p vb F M er u w hP he hT;rw[hn];obtain⟨ua,un,uc,rfl⟩:=hT.sl;have hb0:=qd w (tQ (ak T).1 (ak T).2 ua un uc);have hr:=(dO w (tQ (ak T).1 (ak T).2 ua un uc)).1;have jm:=q8l p vb F M er T _ _ (hP.up hb0) he (hT.at.up hb0) hC;have HJ:Hid (∀e w',fG (dX er (dQ T.flat M)) p vb F M (w.alloc (tQ (ak T).1 (ak T).2 ua un uc)) e w'->(∃a n c,e=.returned (.slice a n c))/\fG (dX er (dQ T.flat M)) p vb F M w e w'):=fun e w' h=>⟨by obtain⟨_,_,_,L,a,c,h1,_⟩:=h;exact⟨a,_,c,h1⟩,h.trans (Fr.au hb0) (List.prefix_refl _)⟩
 clear hb0 hn hP he hT hC;unfold aK dY at *;generalize ak T=rk at *;obtain⟨ro,rp⟩:=rk;dsimp only at *
 have b0:(w.alloc (tQ ro rp ua un uc)).cell? ⟨w.heap.size,0,none⟩=some (.int .u8 ro):=qc hr 0;have b1:(w.alloc (tQ ro rp ua un uc)).cell? ⟨w.heap.size,1,none⟩=some (.int .u8 rp):=qc hr 1;have b2:(w.alloc (tQ ro rp ua un uc)).cell? ⟨w.heap.size,2,none⟩=some (.slice ua un uc):=qc hr 2;clear hr;generalize fG (dX er (dQ T.flat M)) p vb F M w=Q at *;(unfold tQ at *);go_enter func57,ntmps57
 go_wp2_with fail
 refine jm.mono ?_
 intro e w1 h;obtain⟨⟨a,n,c,rfl⟩,h5⟩:=HJ.out e w1 h;have HE:Hid _:=h5;clear h h5 jm HJ;go_wp2
 first|exact HE.out|(go_ret;exact HE.out)
theorem qb2(rp:Nat):uK (.leaf (0,rp)):=by
 intro p vb F M er u w hP he hT;obtain⟨ua,un,uc,rfl⟩:=hT.sl;have hb0:=qd w (tQ 0 rp ua un uc);have hr:=(dO w (tQ 0 rp ua un uc)).1
 have HQ:Hid (∀a c w',lN (w.alloc (tQ 0 rp ua un uc)) w' F a c [0]->Below (w.alloc (tQ 0 rp ua un uc)).heap.size (w.alloc (tQ 0 rp ua un uc)) w'->fG (dX er (aH (.leaf (0,rp)) M)) p vb F M w (.returned (.slice a 1 c)) w'):=fun a c w' h1 h2=>by
  have h3:=qe hb0 h2;refine⟨F,M,er,[0],a,c,rfl,Fr.au h3,hP.up h3,⟨h1.toeP,fun k hk=>Nat.le_trans hb0.size (h1.nw k hk)⟩,List.prefix_refl _,?_⟩
  rcases he with rfl|rfl
  ·exact .inl ⟨rfl,rfl⟩
  ·exact .inr ⟨rfl,rfl⟩
 have hF:=(hP.up hb0).flt;clear hb0 hP he hT;unfold aK dY
 show Calls prog 57 #[.pointer (some ⟨p,0,none⟩),.agg #[.int .u8 0,.int .u8 rp,.slice ua un uc]] w _
 generalize fG (dX er (aH (.leaf (0,rp)) M)) p vb F M w=Q at *;have b0:(w.alloc (tQ 0 rp ua un uc)).cell? ⟨w.heap.size,0,none⟩=some (.int .u8 0):=qc hr 0;clear hr;have je:=SV (w.alloc (tQ 0 rp ua un uc));(unfold tQ at *);go_enter func57,ntmps57
 go_wp2_with fail
 refine je.mono ?_
 intro e w1 h;obtain⟨a,c,rfl,h1,h2⟩:=Z7 hF (fun x hx=>by simp at hx;subst hx;decide) (by simp) h
 have HE:Hid _:=HQ.out a c w1 h1 h2;clear h h1 h2 je HQ;go_wp2
 first|exact HE.out|(go_ret;exact HE.out)
theorem qb3(rp:Nat):uK (.leaf (1,rp)):=by
 intro p vb F M er u w hP he hT;obtain⟨ua,un,uc,rfl⟩:=hT.sl;have hb0:=qd w (tQ 1 rp ua un uc);have hr:=(dO w (tQ 1 rp ua un uc)).1
 have HQ:Hid (∀a c w',lN (w.alloc (tQ 1 rp ua un uc)) w' F a c []->Below (w.alloc (tQ 1 rp ua un uc)).heap.size (w.alloc (tQ 1 rp ua un uc)) w'->fG (dX er (aH (.leaf (1,rp)) M)) p vb F M w (.returned (.slice a 0 c)) w'):=fun a c w' h1 h2=>by
  have h3:=qe hb0 h2;refine⟨F,M,er,[],a,c,rfl,Fr.au h3,hP.up h3,⟨h1.toeP,fun k hk=>Nat.le_trans hb0.size (h1.nw k hk)⟩,List.prefix_refl _,?_⟩
  rcases he with rfl|rfl
  ·exact .inl ⟨rfl,rfl⟩
  ·exact .inr ⟨rfl,rfl⟩
 have hF:=(hP.up hb0).flt;clear hb0 hP he hT;unfold aK dY
 show Calls prog 57 #[.pointer (some ⟨p,0,none⟩),.agg #[.int .u8 1,.int .u8 rp,.slice ua un uc]] w _
 generalize fG (dX er (aH (.leaf (1,rp)) M)) p vb F M w=Q at *;have b0:(w.alloc (tQ 1 rp ua un uc)).cell? ⟨w.heap.size,0,none⟩=some (.int .u8 1):=qc hr 0;clear hr;clear hF;have HE:Hid _:=HQ.out none 0 (w.alloc (tQ 1 rp ua un uc)) lN.nil (Below.refl _ _);clear HQ;(unfold tQ at *);go_enter func57,ntmps57
 go_wp2
 first|exact HE.out|(go_ret;exact HE.out)
theorem q9y(rp:Nat)(c d:Tr)(hc:uK c)(hd:uK d):uK (.bin (11,rp) c d):=by
 intro p vb F M er v w hP he hT;obtain⟨g,cap,u,u',rfl,hg,hn,hn',hu,hu'⟩:=hT;obtain⟨ua,un,uc,rfl⟩:=hu.sl;obtain⟨va,vn,vc,rfl⟩:=hu'.sl;have hb0:=qd w (tO 11 rp g 2 cap);have hr:=(dO w (tO 11 rp g 2 cap)).1;have hF:=hP.flt;have hbx:¬F w.heap.size:=fun h=>by have:=hF _ h;omega
 have hP0:=hP.up hb0;have j1:=hc p vb F M er _ _ hP0 he (hu.up hb0)
 have kR:Hid (∀e w1,fG (dX er (aH c M)) p vb F M (w.alloc (tO 11 rp g 2 cap)) e w1->∃a1 n1 c1,e=.returned (.slice a1 n1 c1)/\w1.cell? ⟨w.heap.size,0,none⟩=some (.int .u8 11)/\w1.cell? ⟨w.heap.size,2,none⟩=some (.slice (some ⟨g,0,none⟩) 2 cap)/\bJ w1 g 3 (ak d) (.slice va vn vc)/\∃Q2:Ending->World->Prop,Calls prog 57 #[dY p,aK (ak d) (.slice va vn vc)] w1 Q2/\∀e w2,Q2 e w2->∃a2 n2 c2,e=.returned (.slice a2 n2 c2)/\w2.cell? ⟨w.heap.size,0,none⟩=some (.int .u8 11)/\∃Q3:Ending->World->Prop,Calls prog 34 #[dY p,.slice a1 n1 c1,.slice a2 n2 c2] w2 Q3/\∀e w3,Q3 e w3->(∃a3 n3 c3,e=.returned (.slice a3 n3 c3))/\fG (dX er (aH (.bin (11,rp) c d) M)) p vb F M w e w3):=by
  rintro e w1 ⟨F1,M1,jq,L1,a1,c1,rfl,f1,p1,u1,m1,r1⟩
  have hbs:w.heap.size<(w.alloc (tO 11 rp g 2 cap)).heap.size:=by simp
  have b0:(w.alloc (tO 11 rp g 2 cap)).cell? ⟨w.heap.size,0,none⟩=some (.int .u8 11):=qc hr 0;have b2:(w.alloc (tO 11 rp g 2 cap)).cell? ⟨w.heap.size,2,none⟩=some (.slice (some ⟨g,0,none⟩) 2 cap):=qc hr 2;have he1:jq=0\/jq=9:=r1.imp And.left And.left;refine⟨a1,_,c1,rfl,f1.cell b0 hbx,f1.cell b2 hbx,(hn'.up hb0).fr f1 hg,_,hd p vb F1 M1 jq _ w1 p1 he1 ((hu'.up hb0).fr f1),?_⟩
  rintro e w2 ⟨F2,M2,lG,L2,a2,c2,rfl,f2,p2,u2,m2,r2⟩
  have he2:lG=0\/lG=9:=r2.imp And.left And.left;refine⟨a2,_,c2,rfl,f2.cell (f1.cell b0 hbx) (f1.out hbx hbs),_,qV p vb F2 M2 lG a1 c1 L1 a2 c2 L2 w2 p2 he2 (u1.fr f2) u2,fun e w3 h=>⟨by obtain⟨_,_,_,L,a,c,h1,_⟩:=h;exact⟨a,_,c,h1⟩,?_⟩⟩
  have e1:dX er (aH (.bin (11,rp) c d) M)=dX lG (bF true L1 L2 M2):=by
   show dX er (bindM (aH c M) fun a M1=>bindM (aH d M1) fun b M2=>bF true a b M2)=_
   rw[qy r1,qy r2]
  rw[e1];exact h.trans ((Fr.au hb0).trans (f1.trans f2)) (m1.trans m2)
 obtain⟨n0,n1,n2⟩:=hn.up hb0;have b0:(w.alloc (tO 11 rp g 2 cap)).cell? ⟨w.heap.size,0,none⟩=some (.int .u8 11):=qc hr 0;have b2:(w.alloc (tO 11 rp g 2 cap)).cell? ⟨w.heap.size,2,none⟩=some (.slice (some ⟨g,0,none⟩) 2 cap):=qc hr 2;have hi0:=fun w'=>qm g 2 cap w' (by omega)
 have hi1:=fun w'=>qE g 2 cap w' (by omega)
 show Calls prog 57 #[.pointer (some ⟨p,0,none⟩),.agg #[.int .u8 11,.int .u8 rp,.slice (some ⟨g,0,none⟩) 2 cap]] w _
 generalize fG (dX er (aH (.bin (11,rp) c d) M)) p vb F M w=Q at *;clear hb0 hr hF hbx hP hP0 he hn hn' hu hu' hc hd hg;unfold aK dY at *;generalize ak c=rk at *;obtain⟨co,cp⟩:=rk;generalize ak d=rk at *;obtain⟨eo,ep⟩:=rk;dsimp only at *
 simp only[Nat.reduceAdd]at n1 n2
 (unfold tO at *);go_enter func57,ntmps57
 go_wp2_with fail
 refine j1.mono ?_
 intro e w1 h;obtain⟨a1,n1,c1,rfl,y0,y2,⟨z0,z1,z2⟩,Q2,j2,h2⟩:=kR.out e w1 h;have kG:Hid _:=h2;simp only[Nat.reduceAdd]at z1 z2
 dsimp only at z0 z1
 clear h h2 j1 kR b0 b2
 go_wp2_with fail
 refine j2.mono ?_
 intro e w2 h;obtain⟨a2,n2,c2,rfl,x0,Q3,j3,h3⟩:=kG.out e w2 h;have jW:Hid _:=h3;clear h h3 j2 kG y0 y2 z0 z1 z2
 go_wp2_with fail
 refine j3.mono ?_
 intro e w3 h;obtain⟨⟨a3,n3,c3,rfl⟩,h4⟩:=jW.out e w3 h;have HE:Hid _:=h4;clear h h4 j3 jW x0;go_wp2
 first|exact HE.out|(go_ret;exact HE.out)
theorem q9z(rp:Nat)(c d:Tr)(hc:uK c)(hd:uK d):uK (.bin (12,rp) c d):=by
 intro p vb F M er v w hP he hT;obtain⟨g,cap,u,u',rfl,hg,hn,hn',hu,hu'⟩:=hT;obtain⟨ua,un,uc,rfl⟩:=hu.sl;obtain⟨va,vn,vc,rfl⟩:=hu'.sl;have hb0:=qd w (tO 12 rp g 2 cap);have hr:=(dO w (tO 12 rp g 2 cap)).1;have hF:=hP.flt;have hbx:¬F w.heap.size:=fun h=>by have:=hF _ h;omega
 have hP0:=hP.up hb0;have j1:=hc p vb F M er _ _ hP0 he (hu.up hb0)
 have kR:Hid (∀e w1,fG (dX er (aH c M)) p vb F M (w.alloc (tO 12 rp g 2 cap)) e w1->∃a1 n1 c1,e=.returned (.slice a1 n1 c1)/\w1.cell? ⟨w.heap.size,0,none⟩=some (.int .u8 12)/\w1.cell? ⟨w.heap.size,2,none⟩=some (.slice (some ⟨g,0,none⟩) 2 cap)/\bJ w1 g 3 (ak d) (.slice va vn vc)/\∃Q2:Ending->World->Prop,Calls prog 57 #[dY p,aK (ak d) (.slice va vn vc)] w1 Q2/\∀e w2,Q2 e w2->∃a2 n2 c2,e=.returned (.slice a2 n2 c2)/\w2.cell? ⟨w.heap.size,0,none⟩=some (.int .u8 12)/\∃Q3:Ending->World->Prop,Calls prog 37 #[dY p,.slice a1 n1 c1,.slice a2 n2 c2] w2 Q3/\∀e w3,Q3 e w3->(∃a3 n3 c3,e=.returned (.slice a3 n3 c3))/\fG (dX er (aH (.bin (12,rp) c d) M)) p vb F M w e w3):=by
  rintro e w1 ⟨F1,M1,jq,L1,a1,c1,rfl,f1,p1,u1,m1,r1⟩
  have hbs:w.heap.size<(w.alloc (tO 12 rp g 2 cap)).heap.size:=by simp
  have b0:(w.alloc (tO 12 rp g 2 cap)).cell? ⟨w.heap.size,0,none⟩=some (.int .u8 12):=qc hr 0;have b2:(w.alloc (tO 12 rp g 2 cap)).cell? ⟨w.heap.size,2,none⟩=some (.slice (some ⟨g,0,none⟩) 2 cap):=qc hr 2;have he1:jq=0\/jq=9:=r1.imp And.left And.left;refine⟨a1,_,c1,rfl,f1.cell b0 hbx,f1.cell b2 hbx,(hn'.up hb0).fr f1 hg,_,hd p vb F1 M1 jq _ w1 p1 he1 ((hu'.up hb0).fr f1),?_⟩
  rintro e w2 ⟨F2,M2,lG,L2,a2,c2,rfl,f2,p2,u2,m2,r2⟩
  have he2:lG=0\/lG=9:=r2.imp And.left And.left;refine⟨a2,_,c2,rfl,f2.cell (f1.cell b0 hbx) (f1.out hbx hbs),_,q11 p vb F2 M2 lG a1 c1 L1 a2 c2 L2 w2 p2 he2 (u1.fr f2) u2,fun e w3 h=>⟨by obtain⟨_,_,_,L,a,c,h1,_⟩:=h;exact⟨a,_,c,h1⟩,?_⟩⟩
  have e1:dX er (aH (.bin (12,rp) c d) M)=dX lG (bF false L1 L2 M2):=by
   show dX er (bindM (aH c M) fun a M1=>bindM (aH d M1) fun b M2=>bF false a b M2)=_
   rw[qy r1,qy r2]
  rw[e1];exact h.trans ((Fr.au hb0).trans (f1.trans f2)) (m1.trans m2)
 obtain⟨n0,n1,n2⟩:=hn.up hb0;have b0:(w.alloc (tO 12 rp g 2 cap)).cell? ⟨w.heap.size,0,none⟩=some (.int .u8 12):=qc hr 0;have b2:(w.alloc (tO 12 rp g 2 cap)).cell? ⟨w.heap.size,2,none⟩=some (.slice (some ⟨g,0,none⟩) 2 cap):=qc hr 2;have hi0:=fun w'=>qm g 2 cap w' (by omega)
 have hi1:=fun w'=>qE g 2 cap w' (by omega)
 show Calls prog 57 #[.pointer (some ⟨p,0,none⟩),.agg #[.int .u8 12,.int .u8 rp,.slice (some ⟨g,0,none⟩) 2 cap]] w _
 generalize fG (dX er (aH (.bin (12,rp) c d) M)) p vb F M w=Q at *;clear hb0 hr hF hbx hP hP0 he hn hn' hu hu' hc hd hg;unfold aK dY at *;generalize ak c=rk at *;obtain⟨co,cp⟩:=rk;generalize ak d=rk at *;obtain⟨eo,ep⟩:=rk;dsimp only at *
 simp only[Nat.reduceAdd]at n1 n2
 (unfold tO at *);go_enter func57,ntmps57
 go_wp2_with fail
 refine j1.mono ?_
 intro e w1 h;obtain⟨a1,n1,c1,rfl,y0,y2,⟨z0,z1,z2⟩,Q2,j2,h2⟩:=kR.out e w1 h;have kG:Hid _:=h2;simp only[Nat.reduceAdd]at z1 z2
 dsimp only at z0 z1
 clear h h2 j1 kR b0 b2
 go_wp2_with fail
 refine j2.mono ?_
 intro e w2 h;obtain⟨a2,n2,c2,rfl,x0,Q3,j3,h3⟩:=kG.out e w2 h;have jW:Hid _:=h3;clear h h3 j2 kG y0 y2 z0 z1 z2
 go_wp2_with fail
 refine j3.mono ?_
 intro e w3 h;obtain⟨⟨a3,n3,c3,rfl⟩,h4⟩:=jW.out e w3 h;have HE:Hid _:=h4;clear h h4 j3 jW x0;go_wp2
 first|exact HE.out|(go_ret;exact HE.out)
theorem Nr:∀{T:Tr},T.WF->∀t∈T.flat,t.1<256/\t.2<256
 | .leaf (op,p),h,t,ht=>by
  have e:t=(op,p):=by simpa [Tr.flat] using ht
  subst e;have:=qG h
  dsimp only
  omega
 | .un (op,p) c,h,t,ht=>by
  obtain⟨h1,h2,_,h3⟩:=qw h;rcases List.mem_append.1 (show t∈c.flat++[(op,p)] from ht) with ht|ht
  ·exact Nr h2 t ht
  ·have e:t=(op,p):=by simpa using ht
   subst e;dsimp only
   omega
 | .bin (op,p) c d,h,t,ht=>by
  obtain⟨h1,h2,h4,_,h3⟩:=qt h;rcases List.mem_append.1 (show t∈c.flat++d.flat++[(op,p)] from ht) with ht|ht
  ·rcases List.mem_append.1 ht with ht|ht
   ·exact Nr h2 t ht
   ·exact Nr h4 t ht
  ·have e:t=(op,p):=by simpa using ht
   subst e;dsimp only
   omega
theorem Vm:∀T:Tr,T.WF->(∀t∈T.flat,t.1<256/\t.2<256)->T.flat.length<=100000->uK T
 | .leaf (op,q),hw,h1,h2=>by
  have hcs:=qG hw;by_cases e0:op=0
  ·subst e0;exact qb2 q
  ·by_cases e1:op=1
   ·subst e1;exact qb3 q
   ·exact Z8 _ (q12 _ h1 h2) (fun M=>by unfold aH;rw[if_neg e0,if_neg e1]) (by show ¬((op:Int)=0);omega) (by show ¬((op:Int)=1);omega) (by show ¬((op:Int)=11);omega) (by show ¬((op:Int)=12);omega)
 | .un (op,q) c,hw,h1,h2=>by
  obtain⟨_,_,_,hcs⟩:=qw hw;exact Z8 _ (q12 _ h1 h2) (fun M=>by unfold aH;rfl) (by show ¬((op:Int)=0);omega) (by show ¬((op:Int)=1);omega) (by show ¬((op:Int)=11);omega) (by show ¬((op:Int)=12);omega)
 | .bin (op,q) c d,hw,h1,h2=>by
  obtain⟨_,hcw,hdw,_,hcs⟩:=qt hw;have hc:=Vm c hcw (fun t ht=>h1 t (by simp[Tr.flat,ht])) (by simp[Tr.flat]at h2;omega)
  have hd:=Vm d hdw (fun t ht=>h1 t (by simp[Tr.flat,ht])) (by simp[Tr.flat]at h2;omega)
  by_cases e0:op=11
  ·subst e0;exact q9y q c d hc hd
  ·by_cases e1:op=12
   ·subst e1;exact q9z q c d hc hd
   ·exact Z8 _ (q12 _ h1 h2) (fun M=>by unfold aH;rw[if_neg (by show ¬(op=11\/op=12);omega)]) (by show ¬((op:Int)=0);omega) (by show ¬((op:Int)=1);omega) (by show ¬((op:Int)=11);omega) (by show ¬((op:Int)=12);omega)
def pq(T:Tr)(x:Nat):Prop:=∀(p:Nat)(vb:Value)(F:Nat->Prop)(M:Mt)(er:Nat)(u:Value)(w:World),RP w F p M er vb->(er=0\/er=9)->rY w F T u->Calls prog 35 #[dY p,aK (ak T) u,.int .u8 x] w (fG (dX er (bK T x M)) p vb F M w)
theorem Gy(b:Bool):Sm (bU b)/\(bU b).length<=1024:=by
 cases b
 ·exact⟨fun x hx=>by simp[bU]at hx,by simp[bU]⟩
 ·exact⟨fun x hx=>by simp[bU]at hx;subst hx;decide,by simp[bU]⟩
theorem SX(b:Bool)(w:World):Calls prog 59 #[.bool b] w (sJ (bU b) w):=by
 cases b
 ·have HE:Hid (sJ (bU false) w (.returned (.slice none 0 0)) w):=⟨none,0,rfl,Et,Below.refl _ _,fun k hk=>by simp[bU]at hk⟩
  generalize sJ (bU false) w=Q at *;go_enter func59,ntmps59
  go_wp2
  first|exact HE.out|(go_ret;exact HE.out)
 ·have j:=SV w
  have HE:Hid (∀e w',sJ [0] w e w'->(∃a n c,e=.returned (.slice a n c))/\sJ (bU true) w e w'):=fun e w' h=>⟨by obtain⟨a,c,h1,_⟩:=h;exact⟨a,_,c,h1⟩,h⟩
  generalize sJ (bU true) w=Q at *;go_enter func59,ntmps59
  go_wp2_with fail
  refine j.mono ?_
  intro e w1 h;obtain⟨⟨a,n,c,rfl⟩,h2⟩:=HE.out e w1 h;have HH:Hid _:=h2;clear h h2 j HE;go_wp2
  first|exact HH.out|(go_ret;exact HH.out)
theorem KY{w1:World}{l:List Nat}(hP:RP w F p M er vb)(he:er=0\/er=9)(hs:Sm l/\l.length<=1024)(hb:Below w.heap.size w w1)(h:sJ l w1 e w'):
  (∃a n c,e=.returned (.slice a n c))/\fG (dX er (some (l,M))) p vb F M w e w':=by
 obtain⟨a,c,rfl,h1,h2⟩:=Z7 (hP.up hb).flt hs.1 hs.2 h;refine⟨⟨a,_,c,rfl⟩,F,M,er,l,a,c,rfl,Fr.au (qe hb h2),hP.up (qe hb h2),⟨h1.toeP,fun k hk=>Nat.le_trans hb.size (h1.nw k hk)⟩,List.prefix_refl _,?_⟩
 rcases he with rfl|rfl
 ·exact .inl ⟨rfl,rfl⟩
 ·exact .inr ⟨rfl,rfl⟩
theorem qbY(q x:Nat):pq (.leaf (0,q)) x:=by
 intro p vb F M er u w hP he hT;obtain⟨ua,un,uc,rfl⟩:=hT.sl;have hb0:=qd w (tQ 0 q ua un uc);have hr:=(dO w (tQ 0 q ua un uc)).1;have HQ:Hid (∀e w',sJ (bU true) (w.alloc (tQ 0 q ua un uc)) e w'->(∃a n c,e=.returned (.slice a n c))/\fG (dX er (bK (.leaf (0,q)) x M)) p vb F M w e w'):=fun e w' h=>KY hP he (Gy true) hb0 h
 clear hb0 hP he hT;unfold aK dY
 show Calls prog 35 #[.pointer (some ⟨p,0,none⟩),.agg #[.int .u8 0,.int .u8 q,.slice ua un uc],.int .u8 x] w _
 generalize fG (dX er (bK (.leaf (0,q)) x M)) p vb F M w=Q at *;have b0:(w.alloc (tQ 0 q ua un uc)).cell? ⟨w.heap.size,0,none⟩=some (.int .u8 0):=qc hr 0;clear hr;have j:=SV (w.alloc (tQ 0 q ua un uc));(unfold tQ at *);go_enter func35,ntmps35
 go_wp2_with fail
 refine j.mono ?_
 intro e w1 h;obtain⟨⟨a,n,c,rfl⟩,h2⟩:=HQ.out e w1 h;have HH:Hid _:=h2;clear h h2 j HQ;go_wp2
 first|exact HH.out|(go_ret;exact HH.out)
theorem qc1(q x:Nat):pq (.leaf (4,q)) x:=by
 intro p vb F M er u w hP he hT;obtain⟨ua,un,uc,rfl⟩:=hT.sl;have hb0:=qd w (tQ 4 q ua un uc);have hr:=(dO w (tQ 4 q ua un uc)).1;have HQ:Hid (∀e w',sJ (bU true) (w.alloc (tQ 4 q ua un uc)) e w'->(∃a n c,e=.returned (.slice a n c))/\fG (dX er (bK (.leaf (4,q)) x M)) p vb F M w e w'):=fun e w' h=>KY hP he (Gy true) hb0 h
 clear hb0 hP he hT;unfold aK dY
 show Calls prog 35 #[.pointer (some ⟨p,0,none⟩),.agg #[.int .u8 4,.int .u8 q,.slice ua un uc],.int .u8 x] w _
 generalize fG (dX er (bK (.leaf (4,q)) x M)) p vb F M w=Q at *;have b0:(w.alloc (tQ 4 q ua un uc)).cell? ⟨w.heap.size,0,none⟩=some (.int .u8 4):=qc hr 0;clear hr;have j:=SV (w.alloc (tQ 4 q ua un uc));(unfold tQ at *);go_enter func35,ntmps35
 go_wp2_with fail
 refine j.mono ?_
 intro e w1 h;obtain⟨⟨a,n,c,rfl⟩,h2⟩:=HQ.out e w1 h;have HH:Hid _:=h2;clear h h2 j HQ;go_wp2
 first|exact HH.out|(go_ret;exact HH.out)
theorem qbZ(q x:Nat):pq (.leaf (1,q)) x:=by
 intro p vb F M er u w hP he hT;obtain⟨ua,un,uc,rfl⟩:=hT.sl;have hb0:=qd w (tQ 1 q ua un uc);have hr:=(dO w (tQ 1 q ua un uc)).1;have HQ:Hid (∀e w',sJ (bU false) (w.alloc (tQ 1 q ua un uc)) e w'->(∃a n c,e=.returned (.slice a n c))/\fG (dX er (bK (.leaf (1,q)) x M)) p vb F M w e w'):=fun e w' h=>KY hP he (Gy false) hb0 h
 clear hb0 hP he hT;unfold aK dY
 show Calls prog 35 #[.pointer (some ⟨p,0,none⟩),.agg #[.int .u8 1,.int .u8 q,.slice ua un uc],.int .u8 x] w _
 generalize fG (dX er (bK (.leaf (1,q)) x M)) p vb F M w=Q at *;have b0:(w.alloc (tQ 1 q ua un uc)).cell? ⟨w.heap.size,0,none⟩=some (.int .u8 1):=qc hr 0;clear hr;have HH:Hid _:=(HQ.out (.returned (.slice none 0 0)) (w.alloc (tQ 1 q ua un uc)) ⟨none,0,rfl,Et,Below.refl _ _,fun k hk=>by simp[bU]at hk⟩).2
 clear HQ;(unfold tQ at *);go_enter func35,ntmps35
 go_wp2
 first|exact HH.out|(go_ret;exact HH.out)
theorem qc2(q x:Nat):pq (.leaf (5,q)) x:=by
 intro p vb F M er u w hP he hT;obtain⟨ua,un,uc,rfl⟩:=hT.sl;have hb0:=qd w (tQ 5 q ua un uc);have hr:=(dO w (tQ 5 q ua un uc)).1;have HQ:Hid (∀e w',sJ (bU false) (w.alloc (tQ 5 q ua un uc)) e w'->(∃a n c,e=.returned (.slice a n c))/\fG (dX er (bK (.leaf (5,q)) x M)) p vb F M w e w'):=fun e w' h=>KY hP he (Gy false) hb0 h
 clear hb0 hP he hT;unfold aK dY
 show Calls prog 35 #[.pointer (some ⟨p,0,none⟩),.agg #[.int .u8 5,.int .u8 q,.slice ua un uc],.int .u8 x] w _
 generalize fG (dX er (bK (.leaf (5,q)) x M)) p vb F M w=Q at *;have b0:(w.alloc (tQ 5 q ua un uc)).cell? ⟨w.heap.size,0,none⟩=some (.int .u8 5):=qc hr 0;clear hr;have HH:Hid _:=(HQ.out (.returned (.slice none 0 0)) (w.alloc (tQ 5 q ua un uc)) ⟨none,0,rfl,Et,Below.refl _ _,fun k hk=>by simp[bU]at hk⟩).2
 clear HQ;(unfold tQ at *);go_enter func35,ntmps35
 go_wp2
 first|exact HH.out|(go_ret;exact HH.out)
theorem qbh(y:Nat)(hy:y<256):bits .and .u8 (y:Int) 1=((y % 2:Nat):Int):=by
 have:=u8_and_nat y 1 hy (by decide)
 rw[show ((1:Nat):Int)=1 from rfl]at this;rw[this,Nat.and_one_is_mod]
theorem u7(op:Nat)(w:World):Calls prog 60 #[.int .u8 op] w fun e w'=>e=.returned (.agg #[.int .u8 op,.int .u8 0,.slice none 0 0])/\Below w.heap.size w w':=by
 go_enter func60,ntmps60
 go_wp2;refine bodyPost_ret (v:=.agg #[.int .u8 op,.int .u8 0,.slice none 0 0]) (by simp[results,results60,go_sem]) rfl ⟨rfl,?_⟩
 first|exact qd _ _|exact Below.refl _ _
theorem u9{x:Nat}(hx:x<256)(k:Nat):(bits .and .u8 ((x:Int) / 2 ^ k) 1==1)=x.testBit k/\(bits .and .u8 ((x:Int) / 2 ^ k) 1==0)=!x.testBit k:=by
 have e0:((x:Int) / 2 ^ k)=((x / 2 ^ k:Nat):Int):=by simp
 have e1:bits .and .u8 ((x:Int) / 2 ^ k) 1=((x / 2 ^ k % 2:Nat):Int):=by
  rw[e0];have h:=qbh (x / 2 ^ k) (Nat.lt_of_le_of_lt (Nat.div_le_self _ _) hx);exact h
 rw[e1,Nat.testBit_eq_decide_div_mod_eq];rcases Nat.mod_two_eq_zero_or_one (x / 2 ^ k) with h|h<;>rw[h]<;>simp
theorem qc0(q x:Nat)(hq:q<=7)(hx:x<256):pq (.leaf (2,q)) x:=by
 intro p vb F M er u w hP he hT;obtain⟨ua,un,uc,rfl⟩:=hT.sl;have hb0:=qd w (tQ 2 q ua un uc);have hr:=(dO w (tQ 2 q ua un uc)).1
 have HQ:Hid (∀e w',sJ (bU (bits BinOp.and IntKind.u8 ((x:Int) / 2 ^ q) 1==1)) (w.alloc (tQ 2 q ua un uc)) e w'->(∃a n c,e=.returned (.slice a n c))/\fG (dX er (bK (.leaf (2,q)) x M)) p vb F M w e w'):=fun e w' h=>by
  rw[(u9 hx q).1]at h;exact KY hP he (Gy _) hb0 h
 clear hb0 hP he hT;unfold aK dY
 show Calls prog 35 #[.pointer (some ⟨p,0,none⟩),.agg #[.int .u8 2,.int .u8 q,.slice ua un uc],.int .u8 x] w _
 generalize fG (dX er (bK (.leaf (2,q)) x M)) p vb F M w=Q at *;have b0:(w.alloc (tQ 2 q ua un uc)).cell? ⟨w.heap.size,0,none⟩=some (.int .u8 2):=qc hr 0;have b1:(w.alloc (tQ 2 q ua un uc)).cell? ⟨w.heap.size,1,none⟩=some (.int .u8 q):=qc hr 1;clear hr;have j:=SX (bits BinOp.and IntKind.u8 ((x:Int) / 2 ^ q) 1==1) (w.alloc (tQ 2 q ua un uc));(unfold tQ at *);go_enter func35,ntmps35
 go_wp2_with fail
 refine j.mono ?_
 intro e w1 h;obtain⟨⟨a,n,c,rfl⟩,h2⟩:=HQ.out e w1 h;have HH:Hid _:=h2;clear h h2 j HQ;go_wp2
 first|exact HH.out|(go_ret;exact HH.out)
theorem qc3(q x:Nat)(hq:q<=7)(hx:x<256):pq (.un (6,0) (.leaf (2,q))) x:=by
 intro p vb F M er v w hP he hT;obtain⟨g,cap,u,rfl,hg,hn,hu⟩:=hT;obtain⟨ua,un,uc,rfl⟩:=hu.sl;have hb0:=qd w (tO 6 0 g 1 cap);have hr:=(MapKept.heap_alloc w (tO 6 0 g 1 cap)).1;obtain⟨n0,n1,n2⟩:=hn.up hb0;simp only[Nat.reduceAdd]at n1 n2
 have n3:(w.alloc (tO 6 0 g 1 cap)).cell? ⟨g,1,none⟩=some (.int .u8 q):=n1
 have HQ:Hid (∀e w',sJ (bU (bits BinOp.and IntKind.u8 ((x:Int) / 2 ^ q) 1==0)) (w.alloc (tO 6 0 g 1 cap)) e w'->(∃a n c,e=.returned (.slice a n c))/\fG (dX er (bK (.un (6,0) (.leaf (2,q))) x M)) p vb F M w e w'):=fun e w' h=>by
  rw[(u9 hx q).2]at h;exact KY hP he (Gy _) hb0 h
 clear hb0 hP he hn hu hg n0 n1 n2;have hi0:=fun w'=>qm g 1 cap w' (by omega)
 unfold aK dY
 show Calls prog 35 #[.pointer (some ⟨p,0,none⟩),.agg #[.int .u8 6,.int .u8 0,.slice (some ⟨g,0,none⟩) 1 cap],.int .u8 x] w _
 generalize fG (dX er (bK (.un (6,0) (.leaf (2,q))) x M)) p vb F M w=Q at *;have b0:(w.alloc (tO 6 0 g 1 cap)).cell? ⟨w.heap.size,0,none⟩=some (.int .u8 6):=qc hr 0;have b2:(w.alloc (tO 6 0 g 1 cap)).cell? ⟨w.heap.size,2,none⟩=some (.slice (some ⟨g,0,none⟩) 1 cap):=qc hr 2;clear hr;have j:=SX (bits BinOp.and IntKind.u8 ((x:Int) / 2 ^ q) 1==0) (w.alloc (tO 6 0 g 1 cap));(unfold tO at *);go_enter func35,ntmps35
 go_wp2_with fail
 refine j.mono ?_
 intro e w1 h;obtain⟨⟨a,n,c,rfl⟩,h2⟩:=HQ.out e w1 h;have HH:Hid _:=h2;clear h h2 j HQ;go_wp2
 first|exact HH.out|(go_ret;exact HH.out)
theorem qc4(x:Nat)(c:Tr)(hl:uK (.leaf (4,0)))(hc:uK c):pq (.un (7,0) c) x:=by
 intro p vb F M er v w hP he hT;obtain⟨g,cap,u,rfl,hg,hn,hu⟩:=hT;obtain⟨ua,un,uc,rfl⟩:=hu.sl;have hb0:=qd w (tO 7 0 g 1 cap);have hr:=(dO w (tO 7 0 g 1 cap)).1;have hF:=hP.flt;have hbx:¬F w.heap.size:=fun h=>by have:=hF _ h;omega
 have hP0:=hP.up hb0;have hbs:w.heap.size<(w.alloc (tO 7 0 g 1 cap)).heap.size:=by simp
 have Hf:Hid (∀(e:Ending)(w0:World),(e=.returned (.agg #[.int .u8 4,.int .u8 0,.slice none 0 0])/\Below (w.alloc (tO 7 0 g 1 cap)).heap.size (w.alloc (tO 7 0 g 1 cap)) w0)->∃Q1:Ending->World->Prop,Calls prog 57 #[dY p,.agg #[.int .u8 4,.int .u8 0,.slice none 0 0]] w0 Q1/\∀e w1,Q1 e w1->∃a1 n1 c1,e=.returned (.slice a1 n1 c1)/\w1.cell? ⟨w.heap.size,2,none⟩=some (.slice (some ⟨g,0,none⟩) 1 cap)/\bJ w1 g 0 (ak c) (.slice ua un uc)/\∃Q2:Ending->World->Prop,Calls prog 57 #[dY p,aK (ak c) (.slice ua un uc)] w1 Q2/\∀e w2,Q2 e w2->∃a2 n2 c2,e=.returned (.slice a2 n2 c2)/\∃Q3:Ending->World->Prop,Calls prog 34 #[dY p,.slice a1 n1 c1,.slice a2 n2 c2] w2 Q3/\∀e w3,Q3 e w3->(∃a3 n3 c3,e=.returned (.slice a3 n3 c3))/\fG (dX er (bK (.un (7,0) c) x M)) p vb F M w e w3):=by
  rintro e w0 ⟨rfl,hb1⟩
  have b2:(w.alloc (tO 7 0 g 1 cap)).cell? ⟨w.heap.size,2,none⟩=some (.slice (some ⟨g,0,none⟩) 1 cap):=qc hr 2;refine⟨_,hl p vb F M er _ w0 (hP0.up hb1) he ⟨none,0,rfl⟩,?_⟩
  rintro e w1 ⟨F1,M1,jq,L1,a1,c1,rfl,f1,p1,u1,m1,r1⟩
  have he1:jq=0\/jq=9:=r1.imp And.left And.left;refine⟨a1,_,c1,rfl,f1.cell (qf b2 hb1) hbx,((hn.up hb0).up hb1).fr f1 hg,_,hc p vb F1 M1 jq _ w1 p1 he1 (((hu.up hb0).up hb1).fr f1),?_⟩
  rintro e w2 ⟨F2,M2,lG,L2,a2,c2,rfl,f2,p2,u2,m2,r2⟩
  have he2:lG=0\/lG=9:=r2.imp And.left And.left;refine⟨a2,_,c2,rfl,_,qV p vb F2 M2 lG a1 c1 L1 a2 c2 L2 w2 p2 he2 (u1.fr f2) u2,fun e w3 h=>⟨by obtain⟨_,_,_,L,a,c,h1,_⟩:=h;exact⟨a,_,c,h1⟩,?_⟩⟩
  have e1:=X0 (op:=7) (by decide) c x M
  rw[if_pos rfl]at e1;rw[e1,qy r1,qy r2];exact h.trans ((Fr.au (qe hb0 hb1)).trans (f1.trans f2)) (m1.trans m2)
 have b0:(w.alloc (tO 7 0 g 1 cap)).cell? ⟨w.heap.size,0,none⟩=some (.int .u8 7):=qc hr 0;have jb:=u7 4 (w.alloc (tO 7 0 g 1 cap));have hi0:=fun w'=>qm g 1 cap w' (by omega)
 show Calls prog 35 #[.pointer (some ⟨p,0,none⟩),.agg #[.int .u8 7,.int .u8 0,.slice (some ⟨g,0,none⟩) 1 cap],.int .u8 x] w _
 generalize fG (dX er (bK (.un (7,0) c) x M)) p vb F M w=Q at *;clear hb0 hr hF hbx hP hP0 he hn hu hc hg hl hbs;unfold aK dY at *;generalize ak c=rk at *;obtain⟨co,cp⟩:=rk;dsimp only at *
 (unfold tO at *);go_enter func35,ntmps35
 go_wp2_with fail
 refine jb.mono ?_
 intro e w0 h;obtain⟨Q1,j1,h1⟩:=Hf.out e w0 h;obtain⟨rfl,_⟩:=h;have ru:Hid _:=h1;clear h1 jb Hf b0
 go_wp2_with fail
 refine j1.mono ?_
 intro e w1 h;obtain⟨a1,n1,c1,rfl,y2,⟨z0,z1,z2⟩,Q2,j2,h2⟩:=ru.out e w1 h;have kG:Hid _:=h2;simp only[Nat.reduceAdd]at z1 z2
 dsimp only at z0 z1
 clear h h2 j1 ru
 go_wp2_with fail
 refine j2.mono ?_
 intro e w2 h;obtain⟨a2,n2,c2,rfl,Q3,j3,h3⟩:=kG.out e w2 h;have jW:Hid _:=h3;clear h h3 j2 kG y2 z0 z1 z2
 go_wp2_with fail
 refine j3.mono ?_
 intro e w3 h;obtain⟨⟨a3,n3,c3,rfl⟩,h4⟩:=jW.out e w3 h;have HE:Hid _:=h4;clear h h4 j3 jW;go_wp2
 first|exact HE.out|(go_ret;exact HE.out)
theorem qc5(x:Nat)(c:Tr)(hl:uK (.leaf (5,0)))(hc:uK c):pq (.un (8,0) c) x:=by
 intro p vb F M er v w hP he hT;obtain⟨g,cap,u,rfl,hg,hn,hu⟩:=hT;obtain⟨ua,un,uc,rfl⟩:=hu.sl;have hb0:=qd w (tO 8 0 g 1 cap);have hr:=(dO w (tO 8 0 g 1 cap)).1;have hF:=hP.flt;have hbx:¬F w.heap.size:=fun h=>by have:=hF _ h;omega
 have hP0:=hP.up hb0;have hbs:w.heap.size<(w.alloc (tO 8 0 g 1 cap)).heap.size:=by simp
 have Hf:Hid (∀(e:Ending)(w0:World),(e=.returned (.agg #[.int .u8 5,.int .u8 0,.slice none 0 0])/\Below (w.alloc (tO 8 0 g 1 cap)).heap.size (w.alloc (tO 8 0 g 1 cap)) w0)->∃Q1:Ending->World->Prop,Calls prog 57 #[dY p,.agg #[.int .u8 5,.int .u8 0,.slice none 0 0]] w0 Q1/\∀e w1,Q1 e w1->∃a1 n1 c1,e=.returned (.slice a1 n1 c1)/\w1.cell? ⟨w.heap.size,2,none⟩=some (.slice (some ⟨g,0,none⟩) 1 cap)/\bJ w1 g 0 (ak c) (.slice ua un uc)/\∃Q2:Ending->World->Prop,Calls prog 57 #[dY p,aK (ak c) (.slice ua un uc)] w1 Q2/\∀e w2,Q2 e w2->∃a2 n2 c2,e=.returned (.slice a2 n2 c2)/\∃Q3:Ending->World->Prop,Calls prog 37 #[dY p,.slice a1 n1 c1,.slice a2 n2 c2] w2 Q3/\∀e w3,Q3 e w3->(∃a3 n3 c3,e=.returned (.slice a3 n3 c3))/\fG (dX er (bK (.un (8,0) c) x M)) p vb F M w e w3):=by
  rintro e w0 ⟨rfl,hb1⟩
  have b2:(w.alloc (tO 8 0 g 1 cap)).cell? ⟨w.heap.size,2,none⟩=some (.slice (some ⟨g,0,none⟩) 1 cap):=qc hr 2;refine⟨_,hl p vb F M er _ w0 (hP0.up hb1) he ⟨none,0,rfl⟩,?_⟩
  rintro e w1 ⟨F1,M1,jq,L1,a1,c1,rfl,f1,p1,u1,m1,r1⟩
  have he1:jq=0\/jq=9:=r1.imp And.left And.left;refine⟨a1,_,c1,rfl,f1.cell (qf b2 hb1) hbx,((hn.up hb0).up hb1).fr f1 hg,_,hc p vb F1 M1 jq _ w1 p1 he1 (((hu.up hb0).up hb1).fr f1),?_⟩
  rintro e w2 ⟨F2,M2,lG,L2,a2,c2,rfl,f2,p2,u2,m2,r2⟩
  have he2:lG=0\/lG=9:=r2.imp And.left And.left;refine⟨a2,_,c2,rfl,_,q11 p vb F2 M2 lG a1 c1 L1 a2 c2 L2 w2 p2 he2 (u1.fr f2) u2,fun e w3 h=>⟨by obtain⟨_,_,_,L,a,c,h1,_⟩:=h;exact⟨a,_,c,h1⟩,?_⟩⟩
  have e1:=X0 (op:=8) (by decide) c x M
  rw[if_neg (by decide)]at e1
  rw[e1,qy r1,qy r2];exact h.trans ((Fr.au (qe hb0 hb1)).trans (f1.trans f2)) (m1.trans m2)
 have b0:(w.alloc (tO 8 0 g 1 cap)).cell? ⟨w.heap.size,0,none⟩=some (.int .u8 8):=qc hr 0;have jb:=u7 5 (w.alloc (tO 8 0 g 1 cap));have hi0:=fun w'=>qm g 1 cap w' (by omega)
 show Calls prog 35 #[.pointer (some ⟨p,0,none⟩),.agg #[.int .u8 8,.int .u8 0,.slice (some ⟨g,0,none⟩) 1 cap],.int .u8 x] w _
 generalize fG (dX er (bK (.un (8,0) c) x M)) p vb F M w=Q at *;clear hb0 hr hF hbx hP hP0 he hn hu hc hg hl hbs;unfold aK dY at *;generalize ak c=rk at *;obtain⟨co,cp⟩:=rk;dsimp only at *
 (unfold tO at *);go_enter func35,ntmps35
 go_wp2_with fail
 refine jb.mono ?_
 intro e w0 h;obtain⟨Q1,j1,h1⟩:=Hf.out e w0 h;obtain⟨rfl,_⟩:=h;have ru:Hid _:=h1;clear h1 jb Hf b0
 go_wp2_with fail
 refine j1.mono ?_
 intro e w1 h;obtain⟨a1,n1,c1,rfl,y2,⟨z0,z1,z2⟩,Q2,j2,h2⟩:=ru.out e w1 h;have kG:Hid _:=h2;simp only[Nat.reduceAdd]at z1 z2
 dsimp only at z0 z1
 clear h h2 j1 ru
 go_wp2_with fail
 refine j2.mono ?_
 intro e w2 h;obtain⟨a2,n2,c2,rfl,Q3,j3,h3⟩:=kG.out e w2 h;have jW:Hid _:=h3;clear h h3 j2 kG y2 z0 z1 z2
 go_wp2_with fail
 refine j3.mono ?_
 intro e w3 h;obtain⟨⟨a3,n3,c3,rfl⟩,h4⟩:=jW.out e w3 h;have HE:Hid _:=h4;clear h h4 j3 jW;go_wp2
 first|exact HE.out|(go_ret;exact HE.out)
theorem qaY(x:Nat)(c d:Tr)(hK:KT (.bin (15,0) c d))(hc:pq c x)(hd:pq d x)(hN:uK (.bin (15,0) c d)):pq (.bin (15,0) c d) x:=by
 intro p vb F M er v w hP he hT;have hT0:=hT;obtain⟨g,cap,u,u',rfl,hg,hn,hn',hu,hu'⟩:=hT;obtain⟨ua,un,uc,rfl⟩:=hu.sl;obtain⟨va,vn,vc,rfl⟩:=hu'.sl;have hb0:=qd w (tO 15 0 g 2 cap);have hr:=(dO w (tO 15 0 g 2 cap)).1;have hF:=hP.flt;have hbx:¬F w.heap.size:=fun h=>by have:=hF _ h;omega
 have hP0:=hP.up hb0;have hbs:w.heap.size<(w.alloc (tO 15 0 g 2 cap)).heap.size:=by simp
 have j1:=hd p vb F M er _ _ hP0 he (hu'.up hb0)
 have kR:Hid (∀e w1,fG (dX er (bK d x M)) p vb F M (w.alloc (tO 15 0 g 2 cap)) e w1->∃a1 n1 c1,e=.returned (.slice a1 n1 c1)/\(w1.cell? ⟨w.heap.size,0,none⟩=some (.int .u8 15)/\w1.cell? ⟨w.heap.size,1,none⟩=some (.int .u8 0)/\w1.cell? ⟨w.heap.size,2,none⟩=some (.slice (some ⟨g,0,none⟩) 2 cap))/\bJ w1 g 0 (ak c) (.slice ua un uc)/\∃Q2:Ending->World->Prop,Calls prog 35 #[dY p,aK (ak c) (.slice ua un uc),.int .u8 x] w1 Q2/\∀e w2,Q2 e w2->∃a2 n2 c2,e=.returned (.slice a2 n2 c2)/\(w2.cell? ⟨w.heap.size,0,none⟩=some (.int .u8 15)/\w2.cell? ⟨w.heap.size,1,none⟩=some (.int .u8 0)/\w2.cell? ⟨w.heap.size,2,none⟩=some (.slice (some ⟨g,0,none⟩) 2 cap))/\∃Q3:Ending->World->Prop,Calls prog 57 #[dY p,.agg #[.int .u8 15,.int .u8 0,.slice (some ⟨g,0,none⟩) 2 cap]] w2 Q3/\∀e w3,Q3 e w3->∃a3 n3 c3,e=.returned (.slice a3 n3 c3)/\∃Q4:Ending->World->Prop,Calls prog 34 #[dY p,.slice a2 n2 c2,.slice a3 n3 c3] w3 Q4/\∀e w4,Q4 e w4->∃a4 n4 c4,e=.returned (.slice a4 n4 c4)/\∃Q5:Ending->World->Prop,Calls prog 37 #[dY p,.slice a1 n1 c1,.slice a4 n4 c4] w4 Q5/\∀e w5,Q5 e w5->(∃a5 n5 c5,e=.returned (.slice a5 n5 c5))/\fG (dX er (bK (.bin (15,0) c d) x M)) p vb F M w e w5):=by
  rintro e w1 ⟨F1,M1,jq,L1,a1,c1,rfl,f1,p1,u1,m1,r1⟩
  have b0:(w.alloc (tO 15 0 g 2 cap)).cell? ⟨w.heap.size,0,none⟩=some (.int .u8 15):=qc hr 0;have b1:(w.alloc (tO 15 0 g 2 cap)).cell? ⟨w.heap.size,1,none⟩=some (.int .u8 0):=qc hr 1;have b2:(w.alloc (tO 15 0 g 2 cap)).cell? ⟨w.heap.size,2,none⟩=some (.slice (some ⟨g,0,none⟩) 2 cap):=qc hr 2;have lM:=f1.out hbx hbs;have he1:jq=0\/jq=9:=r1.imp And.left And.left;refine⟨a1,_,c1,rfl,⟨f1.cell b0 hbx,f1.cell b1 hbx,f1.cell b2 hbx⟩,(hn.up hb0).fr f1 hg,_,hc p vb F1 M1 jq _ w1 p1 he1 ((hu.up hb0).fr f1),?_⟩
  rintro e w2 ⟨F2,M2,lG,L2,a2,c2,rfl,f2,p2,u2,m2,r2⟩
  have he2:lG=0\/lG=9:=r2.imp And.left And.left;refine⟨a2,_,c2,rfl,⟨f2.cell (f1.cell b0 hbx) lM,f2.cell (f1.cell b1 hbx) lM,f2.cell (f1.cell b2 hbx) lM⟩,_,hN p vb F2 M2 lG _ w2 p2 he2 (((hT0.up hb0).fr f1).fr f2),?_⟩
  rintro e w3 ⟨F3,M3,Eb,L3,a3,c3,rfl,f3,p3,u3,m3,r3⟩
  have he3:Eb=0\/Eb=9:=r3.imp And.left And.left;refine⟨a3,_,c3,rfl,_,qV p vb F3 M3 Eb a2 c2 L2 a3 c3 L3 w3 p3 he3 (u2.fr f3) u3,?_⟩
  rintro e w4 ⟨F4,M4,Ec,L4,a4,c4,rfl,f4,p4,u4,m4,r4⟩
  have he4:Ec=0\/Ec=9:=r4.imp And.left And.left;refine⟨a4,_,c4,rfl,_,q11 p vb F4 M4 Ec a1 c1 L1 a4 c4 L4 w4 p4 he4 (((u1.fr f2).fr f3).fr f4) u4,fun e w5 h=>⟨by obtain⟨_,_,_,L,a,c,h1,_⟩:=h;exact⟨a,_,c,h1⟩,?_⟩⟩
  rw[X3 hK (by decide),qy r1,qy r2,qy r3,show (15==15)=true from rfl,show (15==16)=false from rfl,qy r4]
  exact h.trans ((Fr.au hb0).trans (f1.trans (f2.trans (f3.trans f4)))) (m1.trans (m2.trans (m3.trans m4)))
 obtain⟨n0,n1,n2⟩:=hn'.up hb0;have b0:(w.alloc (tO 15 0 g 2 cap)).cell? ⟨w.heap.size,0,none⟩=some (.int .u8 15):=qc hr 0;have b2:(w.alloc (tO 15 0 g 2 cap)).cell? ⟨w.heap.size,2,none⟩=some (.slice (some ⟨g,0,none⟩) 2 cap):=qc hr 2;have hi0:=fun w'=>qm g 2 cap w' (by omega)
 have hi1:=fun w'=>qE g 2 cap w' (by omega)
 show Calls prog 35 #[.pointer (some ⟨p,0,none⟩),.agg #[.int .u8 15,.int .u8 0,.slice (some ⟨g,0,none⟩) 2 cap],.int .u8 x] w _
 generalize fG (dX er (bK (.bin (15,0) c d) x M)) p vb F M w=Q at *;clear hb0 hr hF hbx hP hP0 he hn hn' hu hu' hc hd hg hK hN hT0 hbs;unfold aK dY at *;generalize ak c=rk at *;obtain⟨co,cp⟩:=rk;generalize ak d=rk at *;obtain⟨eo,ep⟩:=rk;dsimp only at *
 simp only[Nat.reduceAdd]at n1 n2
 (unfold tO at *);go_enter func35,ntmps35
 go_wp2_with fail
 refine j1.mono ?_
 intro e w1 h;obtain⟨a1,n1,c1,rfl,⟨y0,y1,y2⟩,⟨z0,z1,z2⟩,Q2,j2,h2⟩:=kR.out e w1 h;have kG:Hid _:=h2;simp only[Nat.reduceAdd]at z1 z2
 dsimp only at z0 z1
 clear h h2 j1 kR b0 b2
 go_wp2_with fail
 refine j2.mono ?_
 intro e w2 h;obtain⟨a2,n2,c2,rfl,⟨x0,x1,x2⟩,Q3,j3,h3⟩:=kG.out e w2 h;have jW:Hid _:=h3;clear h h3 j2 kG y0 y1 y2 z0 z1 z2
 go_wp2_with fail
 refine j3.mono ?_
 intro e w3 h;obtain⟨a3,n3,c3,rfl,Q4,j4,h4⟩:=jW.out e w3 h;have yS:Hid _:=h4;clear h h4 j3 jW x0 x1 x2
 go_wp2_with fail
 refine j4.mono ?_
 intro e w4 h;obtain⟨a4,n4,c4,rfl,Q5,j5,h5⟩:=yS.out e w4 h;have IW:Hid _:=h5;clear h h5 j4 yS
 go_wp2_with fail
 refine j5.mono ?_
 intro e w5 h;obtain⟨⟨a5,n5,c5,rfl⟩,h6⟩:=IW.out e w5 h;have HE:Hid _:=h6;clear h h6 j5 IW;go_wp2
 first|exact HE.out|(go_ret;exact HE.out)
theorem qaZ(x:Nat)(c d:Tr)(hK:KT (.bin (16,0) c d))(hc:pq c x)(hd:pq d x)(hN:uK (.bin (16,0) c d)):pq (.bin (16,0) c d) x:=by
 intro p vb F M er v w hP he hT;have hT0:=hT;obtain⟨g,cap,u,u',rfl,hg,hn,hn',hu,hu'⟩:=hT;obtain⟨ua,un,uc,rfl⟩:=hu.sl;obtain⟨va,vn,vc,rfl⟩:=hu'.sl;have hb0:=qd w (tO 16 0 g 2 cap);have hr:=(dO w (tO 16 0 g 2 cap)).1;have hF:=hP.flt;have hbx:¬F w.heap.size:=fun h=>by have:=hF _ h;omega
 have hP0:=hP.up hb0;have hbs:w.heap.size<(w.alloc (tO 16 0 g 2 cap)).heap.size:=by simp
 have j1:=hd p vb F M er _ _ hP0 he (hu'.up hb0)
 have kR:Hid (∀e w1,fG (dX er (bK d x M)) p vb F M (w.alloc (tO 16 0 g 2 cap)) e w1->∃a1 n1 c1,e=.returned (.slice a1 n1 c1)/\(w1.cell? ⟨w.heap.size,0,none⟩=some (.int .u8 16)/\w1.cell? ⟨w.heap.size,1,none⟩=some (.int .u8 0)/\w1.cell? ⟨w.heap.size,2,none⟩=some (.slice (some ⟨g,0,none⟩) 2 cap))/\bJ w1 g 0 (ak c) (.slice ua un uc)/\∃Q2:Ending->World->Prop,Calls prog 35 #[dY p,aK (ak c) (.slice ua un uc),.int .u8 x] w1 Q2/\∀e w2,Q2 e w2->∃a2 n2 c2,e=.returned (.slice a2 n2 c2)/\(w2.cell? ⟨w.heap.size,0,none⟩=some (.int .u8 16)/\w2.cell? ⟨w.heap.size,1,none⟩=some (.int .u8 0)/\w2.cell? ⟨w.heap.size,2,none⟩=some (.slice (some ⟨g,0,none⟩) 2 cap))/\∃Q3:Ending->World->Prop,Calls prog 57 #[dY p,.agg #[.int .u8 16,.int .u8 0,.slice (some ⟨g,0,none⟩) 2 cap]] w2 Q3/\∀e w3,Q3 e w3->∃a3 n3 c3,e=.returned (.slice a3 n3 c3)/\∃Q4:Ending->World->Prop,Calls prog 37 #[dY p,.slice a2 n2 c2,.slice a3 n3 c3] w3 Q4/\∀e w4,Q4 e w4->∃a4 n4 c4,e=.returned (.slice a4 n4 c4)/\∃Q5:Ending->World->Prop,Calls prog 34 #[dY p,.slice a1 n1 c1,.slice a4 n4 c4] w4 Q5/\∀e w5,Q5 e w5->(∃a5 n5 c5,e=.returned (.slice a5 n5 c5))/\fG (dX er (bK (.bin (16,0) c d) x M)) p vb F M w e w5):=by
  rintro e w1 ⟨F1,M1,jq,L1,a1,c1,rfl,f1,p1,u1,m1,r1⟩
  have b0:(w.alloc (tO 16 0 g 2 cap)).cell? ⟨w.heap.size,0,none⟩=some (.int .u8 16):=qc hr 0;have b1:(w.alloc (tO 16 0 g 2 cap)).cell? ⟨w.heap.size,1,none⟩=some (.int .u8 0):=qc hr 1;have b2:(w.alloc (tO 16 0 g 2 cap)).cell? ⟨w.heap.size,2,none⟩=some (.slice (some ⟨g,0,none⟩) 2 cap):=qc hr 2;have lM:=f1.out hbx hbs;have he1:jq=0\/jq=9:=r1.imp And.left And.left;refine⟨a1,_,c1,rfl,⟨f1.cell b0 hbx,f1.cell b1 hbx,f1.cell b2 hbx⟩,(hn.up hb0).fr f1 hg,_,hc p vb F1 M1 jq _ w1 p1 he1 ((hu.up hb0).fr f1),?_⟩
  rintro e w2 ⟨F2,M2,lG,L2,a2,c2,rfl,f2,p2,u2,m2,r2⟩
  have he2:lG=0\/lG=9:=r2.imp And.left And.left;refine⟨a2,_,c2,rfl,⟨f2.cell (f1.cell b0 hbx) lM,f2.cell (f1.cell b1 hbx) lM,f2.cell (f1.cell b2 hbx) lM⟩,_,hN p vb F2 M2 lG _ w2 p2 he2 (((hT0.up hb0).fr f1).fr f2),?_⟩
  rintro e w3 ⟨F3,M3,Eb,L3,a3,c3,rfl,f3,p3,u3,m3,r3⟩
  have he3:Eb=0\/Eb=9:=r3.imp And.left And.left;refine⟨a3,_,c3,rfl,_,q11 p vb F3 M3 Eb a2 c2 L2 a3 c3 L3 w3 p3 he3 (u2.fr f3) u3,?_⟩
  rintro e w4 ⟨F4,M4,Ec,L4,a4,c4,rfl,f4,p4,u4,m4,r4⟩
  have he4:Ec=0\/Ec=9:=r4.imp And.left And.left;refine⟨a4,_,c4,rfl,_,qV p vb F4 M4 Ec a1 c1 L1 a4 c4 L4 w4 p4 he4 (((u1.fr f2).fr f3).fr f4) u4,fun e w5 h=>⟨by obtain⟨_,_,_,L,a,c,h1,_⟩:=h;exact⟨a,_,c,h1⟩,?_⟩⟩
  rw[X3 hK (by decide),qy r1,qy r2,qy r3,show (16==15)=false from rfl,show (16==16)=true from rfl,qy r4]
  exact h.trans ((Fr.au hb0).trans (f1.trans (f2.trans (f3.trans f4)))) (m1.trans (m2.trans (m3.trans m4)))
 obtain⟨n0,n1,n2⟩:=hn'.up hb0;have b0:(w.alloc (tO 16 0 g 2 cap)).cell? ⟨w.heap.size,0,none⟩=some (.int .u8 16):=qc hr 0;have b2:(w.alloc (tO 16 0 g 2 cap)).cell? ⟨w.heap.size,2,none⟩=some (.slice (some ⟨g,0,none⟩) 2 cap):=qc hr 2;have hi0:=fun w'=>qm g 2 cap w' (by omega)
 have hi1:=fun w'=>qE g 2 cap w' (by omega)
 show Calls prog 35 #[.pointer (some ⟨p,0,none⟩),.agg #[.int .u8 16,.int .u8 0,.slice (some ⟨g,0,none⟩) 2 cap],.int .u8 x] w _
 generalize fG (dX er (bK (.bin (16,0) c d) x M)) p vb F M w=Q at *;clear hb0 hr hF hbx hP hP0 he hn hn' hu hu' hc hd hg hK hN hT0 hbs;unfold aK dY at *;generalize ak c=rk at *;obtain⟨co,cp⟩:=rk;generalize ak d=rk at *;obtain⟨eo,ep⟩:=rk;dsimp only at *
 simp only[Nat.reduceAdd]at n1 n2
 (unfold tO at *);go_enter func35,ntmps35
 go_wp2_with fail
 refine j1.mono ?_
 intro e w1 h;obtain⟨a1,n1,c1,rfl,⟨y0,y1,y2⟩,⟨z0,z1,z2⟩,Q2,j2,h2⟩:=kR.out e w1 h;have kG:Hid _:=h2;simp only[Nat.reduceAdd]at z1 z2
 dsimp only at z0 z1
 clear h h2 j1 kR b0 b2
 go_wp2_with fail
 refine j2.mono ?_
 intro e w2 h;obtain⟨a2,n2,c2,rfl,⟨x0,x1,x2⟩,Q3,j3,h3⟩:=kG.out e w2 h;have jW:Hid _:=h3;clear h h3 j2 kG y0 y1 y2 z0 z1 z2
 go_wp2_with fail
 refine j3.mono ?_
 intro e w3 h;obtain⟨a3,n3,c3,rfl,Q4,j4,h4⟩:=jW.out e w3 h;have yS:Hid _:=h4;clear h h4 j3 jW x0 x1 x2
 go_wp2_with fail
 refine j4.mono ?_
 intro e w4 h;obtain⟨a4,n4,c4,rfl,Q5,j5,h5⟩:=yS.out e w4 h;have IW:Hid _:=h5;clear h h5 j4 yS
 go_wp2_with fail
 refine j5.mono ?_
 intro e w5 h;obtain⟨⟨a5,n5,c5,rfl⟩,h6⟩:=IW.out e w5 h;have HE:Hid _:=h6;clear h h6 j5 IW;go_wp2
 first|exact HE.out|(go_ret;exact HE.out)
theorem qaW(x:Nat)(c d:Tr)(hK:KT (.bin (11,0) c d))(hc:pq c x)(hd:pq d x):pq (.bin (11,0) c d) x:=by
 intro p vb F M er v w hP he hT;obtain⟨g,cap,u,u',rfl,hg,hn,hn',hu,hu'⟩:=hT;obtain⟨ua,un,uc,rfl⟩:=hu.sl;obtain⟨va,vn,vc,rfl⟩:=hu'.sl;have hb0:=qd w (tO 11 0 g 2 cap);have hr:=(dO w (tO 11 0 g 2 cap)).1;have hF:=hP.flt;have hbx:¬F w.heap.size:=fun h=>by have:=hF _ h;omega
 have hP0:=hP.up hb0;have j1:=hc p vb F M er _ _ hP0 he (hu.up hb0)
 have kR:Hid (∀e w1,fG (dX er (bK c x M)) p vb F M (w.alloc (tO 11 0 g 2 cap)) e w1->∃a1 n1 c1,e=.returned (.slice a1 n1 c1)/\w1.cell? ⟨w.heap.size,0,none⟩=some (.int .u8 11)/\w1.cell? ⟨w.heap.size,2,none⟩=some (.slice (some ⟨g,0,none⟩) 2 cap)/\bJ w1 g 3 (ak d) (.slice va vn vc)/\∃Q2:Ending->World->Prop,Calls prog 35 #[dY p,aK (ak d) (.slice va vn vc),.int .u8 x] w1 Q2/\∀e w2,Q2 e w2->∃a2 n2 c2,e=.returned (.slice a2 n2 c2)/\w2.cell? ⟨w.heap.size,0,none⟩=some (.int .u8 11)/\∃Q3:Ending->World->Prop,Calls prog 34 #[dY p,.slice a1 n1 c1,.slice a2 n2 c2] w2 Q3/\∀e w3,Q3 e w3->(∃a3 n3 c3,e=.returned (.slice a3 n3 c3))/\fG (dX er (bK (.bin (11,0) c d) x M)) p vb F M w e w3):=by
  rintro e w1 ⟨F1,M1,jq,L1,a1,c1,rfl,f1,p1,u1,m1,r1⟩
  have hbs:w.heap.size<(w.alloc (tO 11 0 g 2 cap)).heap.size:=by simp
  have b0:(w.alloc (tO 11 0 g 2 cap)).cell? ⟨w.heap.size,0,none⟩=some (.int .u8 11):=qc hr 0;have b2:(w.alloc (tO 11 0 g 2 cap)).cell? ⟨w.heap.size,2,none⟩=some (.slice (some ⟨g,0,none⟩) 2 cap):=qc hr 2;have he1:jq=0\/jq=9:=r1.imp And.left And.left;refine⟨a1,_,c1,rfl,f1.cell b0 hbx,f1.cell b2 hbx,(hn'.up hb0).fr f1 hg,_,hd p vb F1 M1 jq _ w1 p1 he1 ((hu'.up hb0).fr f1),?_⟩
  rintro e w2 ⟨F2,M2,lG,L2,a2,c2,rfl,f2,p2,u2,m2,r2⟩
  have he2:lG=0\/lG=9:=r2.imp And.left And.left;refine⟨a2,_,c2,rfl,f2.cell (f1.cell b0 hbx) (f1.out hbx hbs),_,qV p vb F2 M2 lG a1 c1 L1 a2 c2 L2 w2 p2 he2 (u1.fr f2) u2,fun e w3 h=>⟨by obtain⟨_,_,_,L,a,c,h1,_⟩:=h;exact⟨a,_,c,h1⟩,?_⟩⟩
  rw[P8 hK (by decide),qy r1,qy r2]
  exact h.trans ((Fr.au hb0).trans (f1.trans f2)) (m1.trans m2)
 obtain⟨n0,n1,n2⟩:=hn.up hb0;have b0:(w.alloc (tO 11 0 g 2 cap)).cell? ⟨w.heap.size,0,none⟩=some (.int .u8 11):=qc hr 0;have b2:(w.alloc (tO 11 0 g 2 cap)).cell? ⟨w.heap.size,2,none⟩=some (.slice (some ⟨g,0,none⟩) 2 cap):=qc hr 2;have hi0:=fun w'=>qm g 2 cap w' (by omega)
 have hi1:=fun w'=>qE g 2 cap w' (by omega)
 show Calls prog 35 #[.pointer (some ⟨p,0,none⟩),.agg #[.int .u8 11,.int .u8 0,.slice (some ⟨g,0,none⟩) 2 cap],.int .u8 x] w _
 generalize fG (dX er (bK (.bin (11,0) c d) x M)) p vb F M w=Q at *;clear hb0 hr hF hbx hP hP0 he hn hn' hu hu' hc hd hg hK;unfold aK dY at *;generalize ak c=rk at *;obtain⟨co,cp⟩:=rk;generalize ak d=rk at *;obtain⟨eo,ep⟩:=rk;dsimp only at *
 simp only[Nat.reduceAdd]at n1 n2
 (unfold tO at *);go_enter func35,ntmps35
 go_wp2_with fail
 refine j1.mono ?_
 intro e w1 h;obtain⟨a1,n1,c1,rfl,y0,y2,⟨z0,z1,z2⟩,Q2,j2,h2⟩:=kR.out e w1 h;have kG:Hid _:=h2;simp only[Nat.reduceAdd]at z1 z2
 dsimp only at z0 z1
 clear h h2 j1 kR b0 b2
 go_wp2_with fail
 refine j2.mono ?_
 intro e w2 h;obtain⟨a2,n2,c2,rfl,x0,Q3,j3,h3⟩:=kG.out e w2 h;have jW:Hid _:=h3;clear h h3 j2 kG y0 y2 z0 z1 z2
 go_wp2_with fail
 refine j3.mono ?_
 intro e w3 h;obtain⟨⟨a3,n3,c3,rfl⟩,h4⟩:=jW.out e w3 h;have HE:Hid _:=h4;clear h h4 j3 jW x0;go_wp2
 first|exact HE.out|(go_ret;exact HE.out)
theorem qaX(x:Nat)(c d:Tr)(hK:KT (.bin (12,0) c d))(hc:pq c x)(hd:pq d x):pq (.bin (12,0) c d) x:=by
 intro p vb F M er v w hP he hT;obtain⟨g,cap,u,u',rfl,hg,hn,hn',hu,hu'⟩:=hT;obtain⟨ua,un,uc,rfl⟩:=hu.sl;obtain⟨va,vn,vc,rfl⟩:=hu'.sl;have hb0:=qd w (tO 12 0 g 2 cap);have hr:=(dO w (tO 12 0 g 2 cap)).1;have hF:=hP.flt;have hbx:¬F w.heap.size:=fun h=>by have:=hF _ h;omega
 have hP0:=hP.up hb0;have j1:=hc p vb F M er _ _ hP0 he (hu.up hb0)
 have kR:Hid (∀e w1,fG (dX er (bK c x M)) p vb F M (w.alloc (tO 12 0 g 2 cap)) e w1->∃a1 n1 c1,e=.returned (.slice a1 n1 c1)/\w1.cell? ⟨w.heap.size,0,none⟩=some (.int .u8 12)/\w1.cell? ⟨w.heap.size,2,none⟩=some (.slice (some ⟨g,0,none⟩) 2 cap)/\bJ w1 g 3 (ak d) (.slice va vn vc)/\∃Q2:Ending->World->Prop,Calls prog 35 #[dY p,aK (ak d) (.slice va vn vc),.int .u8 x] w1 Q2/\∀e w2,Q2 e w2->∃a2 n2 c2,e=.returned (.slice a2 n2 c2)/\w2.cell? ⟨w.heap.size,0,none⟩=some (.int .u8 12)/\∃Q3:Ending->World->Prop,Calls prog 37 #[dY p,.slice a1 n1 c1,.slice a2 n2 c2] w2 Q3/\∀e w3,Q3 e w3->(∃a3 n3 c3,e=.returned (.slice a3 n3 c3))/\fG (dX er (bK (.bin (12,0) c d) x M)) p vb F M w e w3):=by
  rintro e w1 ⟨F1,M1,jq,L1,a1,c1,rfl,f1,p1,u1,m1,r1⟩
  have hbs:w.heap.size<(w.alloc (tO 12 0 g 2 cap)).heap.size:=by simp
  have b0:(w.alloc (tO 12 0 g 2 cap)).cell? ⟨w.heap.size,0,none⟩=some (.int .u8 12):=qc hr 0;have b2:(w.alloc (tO 12 0 g 2 cap)).cell? ⟨w.heap.size,2,none⟩=some (.slice (some ⟨g,0,none⟩) 2 cap):=qc hr 2;have he1:jq=0\/jq=9:=r1.imp And.left And.left;refine⟨a1,_,c1,rfl,f1.cell b0 hbx,f1.cell b2 hbx,(hn'.up hb0).fr f1 hg,_,hd p vb F1 M1 jq _ w1 p1 he1 ((hu'.up hb0).fr f1),?_⟩
  rintro e w2 ⟨F2,M2,lG,L2,a2,c2,rfl,f2,p2,u2,m2,r2⟩
  have he2:lG=0\/lG=9:=r2.imp And.left And.left;refine⟨a2,_,c2,rfl,f2.cell (f1.cell b0 hbx) (f1.out hbx hbs),_,q11 p vb F2 M2 lG a1 c1 L1 a2 c2 L2 w2 p2 he2 (u1.fr f2) u2,fun e w3 h=>⟨by obtain⟨_,_,_,L,a,c,h1,_⟩:=h;exact⟨a,_,c,h1⟩,?_⟩⟩
  rw[P8 hK (by decide),qy r1,qy r2]
  exact h.trans ((Fr.au hb0).trans (f1.trans f2)) (m1.trans m2)
 obtain⟨n0,n1,n2⟩:=hn.up hb0;have b0:(w.alloc (tO 12 0 g 2 cap)).cell? ⟨w.heap.size,0,none⟩=some (.int .u8 12):=qc hr 0;have b2:(w.alloc (tO 12 0 g 2 cap)).cell? ⟨w.heap.size,2,none⟩=some (.slice (some ⟨g,0,none⟩) 2 cap):=qc hr 2;have hi0:=fun w'=>qm g 2 cap w' (by omega)
 have hi1:=fun w'=>qE g 2 cap w' (by omega)
 show Calls prog 35 #[.pointer (some ⟨p,0,none⟩),.agg #[.int .u8 12,.int .u8 0,.slice (some ⟨g,0,none⟩) 2 cap],.int .u8 x] w _
 generalize fG (dX er (bK (.bin (12,0) c d) x M)) p vb F M w=Q at *;clear hb0 hr hF hbx hP hP0 he hn hn' hu hu' hc hd hg hK;unfold aK dY at *;generalize ak c=rk at *;obtain⟨co,cp⟩:=rk;generalize ak d=rk at *;obtain⟨eo,ep⟩:=rk;dsimp only at *
 simp only[Nat.reduceAdd]at n1 n2
 (unfold tO at *);go_enter func35,ntmps35
 go_wp2_with fail
 refine j1.mono ?_
 intro e w1 h;obtain⟨a1,n1,c1,rfl,y0,y2,⟨z0,z1,z2⟩,Q2,j2,h2⟩:=kR.out e w1 h;have kG:Hid _:=h2;simp only[Nat.reduceAdd]at z1 z2
 dsimp only at z0 z1
 clear h h2 j1 kR b0 b2
 go_wp2_with fail
 refine j2.mono ?_
 intro e w2 h;obtain⟨a2,n2,c2,rfl,x0,Q3,j3,h3⟩:=kG.out e w2 h;have jW:Hid _:=h3;clear h h3 j2 kG y0 y2 z0 z1 z2
 go_wp2_with fail
 refine j3.mono ?_
 intro e w3 h;obtain⟨⟨a3,n3,c3,rfl⟩,h4⟩:=jW.out e w3 h;have HE:Hid _:=h4;clear h h4 j3 jW x0;go_wp2
 first|exact HE.out|(go_ret;exact HE.out)
end Go.Proofs.YtoioiellaomonaaGreatDoor
