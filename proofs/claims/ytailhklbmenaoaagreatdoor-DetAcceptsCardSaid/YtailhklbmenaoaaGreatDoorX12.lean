/- Texts of the proof, put together: what it uses. -/
import Derived.Test.YtailhklbmenaoaaGreatDoorX02
import Derived.Test.YtailhklbmenaoaaGreatDoorX08
import Derived.Test.YtailhklbmenaoaaGreatDoorX09
import Derived.Test.YtailhklbmenaoaaGreatDoorX11
set_option maxRecDepth 100000
set_option maxHeartbeats 16000000
namespace Go.Proofs.YtailhklbmenaoaaGreatDoor
open Go.RowKit Go.Maps
theorem qef{w:World}{F:Nat->Prop}{a:Option Addr}{n c:Nat}{l:List Nat}{b:Nat}(h:US w F a n c l){e:Int}(hb:Erc w b e):∀k,k<n->(adOf a k).block≠b:=fun k hk e=>by
 have hc:=h.sl.cell k hk;unfold Erc at hb;unfold World.cell? at hc;rw[e,hb]at hc;simp at hc
 match ho:(adOf a k).off,hc with
 | 0,hc=>simp at hc
 |j+1,hc=>simp at hc
theorem US.grown{w w':World}{F:Nat->Prop}{a:Option Addr}{n c:Nat}{l:List Nat}{b:Nat}(h:US w F a n c l)(hg:w.grownBy w' (some b))(hb:∀k,k<n->(adOf a k).block≠b):US w' F a n c l:=by
 have hs:=h.sl;refine⟨⟨hs.hlen,hs.hcap,hs.bd,hs.idx,fun k hk=>?_,fun k hk=>Nat.lt_of_lt_of_le (hs.blk k hk) hg.size,hs.nn⟩,h.nf⟩
 have:=hs.cell k hk
 unfold World.cell? at this ⊢;rw[hg.block _ (hs.blk k hk) (fun e=>hb k hk (by injection e))]
 exact this
def StP (T0:Tr) (p:Nat) (vs:Value) (w:World) (F:Nat->Prop) (b3 E:Nat) (R:Rt) (w':World):Prop :=
 ∃(L:List Nat) (M':Mt) (q:Option Addr) (d:Nat) (F':Nat->Prop) (items':List It),R=some (L,M')/\w'.heap[b3]? =some (.cells #[.slice q L.length d] 46 (0,0))/\PgO T0 w' F' p vs items' M'/\US w' F' q L.length d L/\¬F' E/\(∀k,k<L.length->(adOf q k).block≠E)/\Fr w w' (fun k=>F k\/k=b3\/k=E) F'/\∀k,k<L.length->w.heap.size<=(adOf q k).block
def StN (T0:Tr) (p:Nat) (vs:Value) (w:World) (F:Nat->Prop) (M:Mt) (b3 E:Nat) (R:Rt) (w':World):Prop :=
 R=none/\∃(M':Mt) (F':Nat->Prop) (items':List It),PgO T0 w' F' p vs items' M'/\M <+: M'/\¬F' E/\Fr w w' (fun k=>F k\/k=b3\/k=E) F'
theorem StP.grown{T0:Tr}{p:Nat}{vs:Value}{w w1 w2:World}{F:Nat->Prop}{b3 E:Nat}{R:Rt}(h:StP T0 p vs w F b3 E R w1)(hg:w1.grownBy w2 (some E))(hbE:b3≠E)(hb3:b3<w1.heap.size):StP T0 p vs w F b3 E R w2:=by
 obtain⟨L,M',q,d,F',i',h1,h2,h3,h4,h5,h6,h7,h8⟩:=h;refine⟨L,M',q,d,F',i',h1,(hg.block b3 hb3 (fun e=>hbE (by injection e))).trans h2,h3.far fun k hk=>hg.block k (h3.lt k hk) (fun e=>h5 (by injection e with e;exact e ▸ hk)),h4.grown hg h6,h5,h6,⟨hg.os.trans h7.os,hg.tape.trans h7.tape,hg.output.trans h7.output,Nat.le_trans h7.size hg.size,fun k hk hF=>(hg.block k (Nat.lt_of_lt_of_le hk h7.size) (fun e=>hF (Or.inr (Or.inr (by injection e))))).trans (h7.keep k hk hF),h7.foot⟩,h8⟩
theorem StN.grown{T0:Tr}{p:Nat}{vs:Value}{w w1 w2:World}{F:Nat->Prop}{M:Mt}{b3 E:Nat}{R:Rt}(h:StN T0 p vs w F M b3 E R w1)(hg:w1.grownBy w2 (some E)):StN T0 p vs w F M b3 E R w2:=by
 obtain⟨h1,M',F',i',h3,hM,h5,h7⟩:=h;exact⟨h1,M',F',i',h3.far fun k hk=>hg.block k (h3.lt k hk) (fun e=>h5 (by injection e with e;exact e ▸ hk)),hM,h5,⟨hg.os.trans h7.os,hg.tape.trans h7.tape,hg.output.trans h7.output,Nat.le_trans h7.size hg.size,fun k hk hF=>(hg.block k (Nat.lt_of_lt_of_le hk h7.size) (fun e=>hF (Or.inr (Or.inr (by injection e))))).trans (h7.keep k hk hF),h7.foot⟩⟩
theorem q8Y:EntersF 130:=fun _ _=>rfl
theorem q6A{T0:Tr}{p:Nat}{vs:Value}{x:Nat}(hx8:x<256){w:World}{F:Nat->Prop}{items:List It}{M:Mt}(h:PgO T0 w F p vs items M)(hT:Tab64 w)(hnG:¬F tabG)(a:Option Addr)(c:Nat)(l:List Nat)(hL:LH w F M a c l)(b0 b1 b2 b3:Nat)(hV:StV w F p x a l.length c (.slice none 0 0) b0 b1 b2 b3):
  Calls Tryz.prog 94 #[.func (.func 130) #[] #[.pointer (some ⟨b0,0,none⟩),.pointer (some ⟨b2,0,none⟩),.pointer (some ⟨b1,0,none⟩),.pointer (some ⟨b3,0,none⟩)]] w fun e w'=>
   (e=.returned (.int .i64 0)/\StP T0 p vs w F b3 w.heap.size (stepM fuelN x l [] M) w')\/(e=.returned (.int .i64 9)/\StN T0 p vs w F M b3 w.heap.size (stepM fuelN x l [] M) w'):=by
 have h3l:b3<w.heap.size:=(aes hV.h3).1
 refine (q3K 130 _ w q8Y (fun w'=>StP T0 p vs w F b3 w.heap.size (stepM fuelN x l [] M) w'/\b3<w'.heap.size) (fun w'=>StN T0 p vs w F M b3 w.heap.size (stepM fuelN x l [] M) w') ?_ ?_ ?_).mono ?_
 ·rintro w1 w2 b ⟨hp,hb⟩ hg rfl
  exact⟨hp.grown hg (by omega) hb,Nat.lt_of_lt_of_le hb hg.size⟩
 ·rintro w1 w2 b hp hg rfl
  exact hp.grown hg
 ·intro w0 hw0
  have hb:Below w.heap.size w w0:=by rw[hw0];exact qc _ _
  have hE:Erc w0 w.heap.size 0:=by rw[hw0];exact(mha w _).1
  have hz:w0.heap.size=w.heap.size+1:=by rw[hw0];simp
  have hnE:¬F w.heap.size:=fun e=>Nat.lt_irrefl _ (h.lt _ e)
  refine (q87 hx8 (h.up hb) (hT.up hb) hnG a c l (hL.fr (Fr.ofBelow hb) (List.prefix_refl _)) b0 b1 b2 b3 (hV.fr (Fr.ofBelow hb))).mono ?_
  rintro e w' (⟨rfl,L,M',q,d,F',i',hs,h3,hO,hU,hn3,hp,hM,fr,hnw⟩|⟨rfl,hs,M',F',i',hO,hn3,hp,hM,fr,h3⟩)
  ·have hE':Erc w' w.heap.size 0:=(fr.keep _ (by omega) (fun e=>by rcases e with e|e;exact hnE e;omega)).trans hE
   have hnE':¬F' w.heap.size:=fr.out (fun e=>by rcases e with e|e;exact hnE e;omega) (by omega)
   refine Or.inl ⟨rfl,⟨⟨L,M',q,d,F',i',hs,h3,hO,hU,hnE',qef hU hE',?_,fun k hk=>Nat.le_trans hb.size (hnw k hk)⟩,(aes h3).1⟩,hE'⟩
   exact((Fr.ofBelow hb).trans fr).alike (fun k hk=>by rcases hk with e|e;exact Or.inl e;exact Or.inr (Or.inl e)) (fun k hk=>hk)
  ·have hE':Erc w' w.heap.size 0:=(fr.keep _ (by omega) (fun e=>by rcases e with e|e;exact hnE e;omega)).trans hE
   have hnE':¬F' w.heap.size:=fr.out (fun e=>by rcases e with e|e;exact hnE e;omega) (by omega)
   refine Or.inr ⟨rfl,⟨hs,M',F',i',hO,hM,hnE',?_⟩,hE'⟩
   exact((Fr.ofBelow hb).trans fr).alike (fun k hk=>by rcases hk with e|e;exact Or.inl e;exact Or.inr (Or.inl e)) (fun k hk=>hk)
 ·rintro e w' (⟨h1,h2⟩|⟨h1,h2⟩)
  ·exact Or.inl ⟨h1,h2.1⟩
  ·exact Or.inr ⟨h1,h2⟩
theorem qhi{M M':Mt}(h:M <+: M'):M'.take M.length=M:=by
 obtain⟨r,rfl⟩:=h;simp
def StepR (T0:Tr) (p:Nat) (vs:Value) (w:World) (F:Nat->Prop) (M:Mt) (R:Rt) (e:Ending) (w':World):Prop :=
 ∃(F':Nat->Prop) (items':List It),Fr w w' F F'/\((R=none/\e=.returned (.tuple #[.slice none 0 0,.int .i64 9])/\PgO T0 w' F' p vs items' M) \/
  ∃(L:List Nat) (M':Mt) (q:Option Addr) (d:Nat),R=some (L,M')/\e=.returned (.tuple #[.slice q L.length d,.int .i64 0])/\US w' F' q L.length d L/\PgO T0 w' F' p vs items' M'/\∀k,k<L.length->w.heap.size<=(adOf q k).block)
theorem qfo{w w4 w5:World}{F F':Nat->Prop}{b3 E:Nat}(hb:Below w.heap.size w w4)(fr:Fr w4 w5 (fun k=>F k\/k=b3\/k=E) F')(h3:w.heap.size<=b3)(hE:w.heap.size<=E):Fr w w5 F F' :=
 ⟨fr.os.trans hb.os,fr.tape.trans hb.tape,fr.output.trans hb.output,Nat.le_trans hb.size fr.size,fun k hk hF=>(fr.keep k (Nat.lt_of_lt_of_le hk hb.size) (fun e=>by rcases e with e|e|e;exact hF e;omega;omega)).trans (hb.block k hk),fun k hk=>by
  have:=hb.size
  rcases fr.foot k hk with (e|e|e)|e
  ·exact Or.inl e
  ·right;omega
  ·right;omega
  ·right;omega⟩
theorem q9h{T0:Tr}{p:Nat}{vs:Value}{x:Nat}(hx8:x<256){w:World}{F:Nat->Prop}{items:List It}{M:Mt}(h:PgO T0 w F p vs items M)(hT:Tab64 w)(hnG:¬F tabG)(a:Option Addr)(c:Nat)(l:List Nat)(hL:LH w F M a c l):
  Calls Tryz.prog 98 #[.pointer (some ⟨p,0,none⟩),.slice a l.length c,.int .u8 (x:Int)] w (StepR T0 p vs w F M (stepM fuelN x l [] M)):=by
 obtain⟨w1,hw1⟩:∃w1,w1=w.alloc (.cells #[.pointer (some ⟨p,0,none⟩)] 74):=⟨_,rfl⟩
 obtain⟨w2,hw2⟩:∃w2,w2=w1.alloc (.cells #[.slice a l.length c] 46):=⟨_,rfl⟩
 obtain⟨w3,hw3⟩:∃w3,w3=w2.alloc (.cells #[.int .u8 (x:Int)] 59):=⟨_,rfl⟩
 obtain⟨w4,hw4⟩:∃w4,w4=w3.alloc (.cells #[.slice none 0 0] 46):=⟨_,rfl⟩
 have z1:w1.heap.size=w.heap.size+1:=by rw[hw1];simp
 have z2:w2.heap.size=w.heap.size+1+1:=by rw[hw2];simp[z1]
 have z3:w3.heap.size=w.heap.size+1+1+1:=by rw[hw3];simp[z2]
 have z4:w4.heap.size=w.heap.size+1+1+1+1:=by rw[hw4];simp[z3]
 have b1:Below w.heap.size w w1:=by rw[hw1];exact qc _ _
 have b2:Below w1.heap.size w1 w2:=by rw[hw2];exact qc _ _
 have b3:Below w2.heap.size w2 w3:=by rw[hw3];exact qc _ _
 have b4:Below w3.heap.size w3 w4:=by rw[hw4];exact qc _ _
 have hb3:Below w.heap.size w w3:=qd (qd b1 b2) b3;have hb4:Below w.heap.size w w4:=qd hb3 b4;have v0:w1.heap[w.heap.size]? =some (.cells #[.pointer (some ⟨p,0,none⟩)] 74 (0,0)):=by rw[hw1];exact(mha w _).1
 have v1:w2.heap[w.heap.size+1]? =some (.cells #[.slice a l.length c] 46 (0,0)):=by rw[<-z1,hw2];exact(mha w1 _).1
 have v2:w3.heap[w.heap.size+1+1]? =some (.cells #[.int .u8 (x:Int)] 59 (0,0)):=by rw[<-z2,hw3];exact(mha w2 _).1
 have v3:w4.heap[w.heap.size+1+1+1]? =some (.cells #[.slice none 0 0] 46 (0,0)):=by rw[<-z3,hw4];exact(mha w3 _).1
 have u0:w3.heap[w.heap.size]? =some (.cells #[.pointer (some ⟨p,0,none⟩)] 74 (0,0)):=(b3.block _ (by omega)).trans ((b2.block _ (by omega)).trans v0)
 have u1:w3.heap[w.heap.size+1]? =some (.cells #[.slice a l.length c] 46 (0,0)):=(b3.block _ (by omega)).trans v1
 have hlt:=h.lt;have hV:StV w4 F p x a l.length c (.slice none 0 0) w.heap.size (w.heap.size+1) (w.heap.size+1+1) (w.heap.size+1+1+1):=⟨(b4.block _ (by omega)).trans u0,(b4.block _ (by omega)).trans u1,(b4.block _ (by omega)).trans v2,v3,fun e=>by have:=hlt _ e;omega,fun e=>by have:=hlt _ e;omega,fun e=>by have:=hlt _ e;omega,fun e=>by have:=hlt _ e;omega,by omega⟩
 have jm:=q2Z (h.up hb3);have hL3:=hL.fr (Fr.ofBelow (F:=F) hb3) (List.prefix_refl _);have jk:=q85 (h.up hb3) a c l hL3.us.sl (hL3.lst h.good).sm hL3.len;have jc:=q6A hx8 (h.up hb4) (hT.up hb4) hnG a c l (hL.fr (Fr.ofBelow hb4) (List.prefix_refl _)) _ _ _ _ hV;obtain⟨G,mn,vm,met,hr,hF⟩:=(h.up hb3).ex;have c5:=hr.c5;obtain⟨ma,mc,rfl⟩:=qM hr.row;rw[hr.met.1]at c5;have q0:w3.cell? ⟨w.heap.size,0,none⟩=some (.pointer (some ⟨p,0,none⟩)):=qb u0 0;have q1:w3.cell? ⟨w.heap.size+1,0,none⟩=some (.slice a l.length c):=qb u1 0;have HBD:Hid (BdL l M.length):=hL.bd;have HH:Hid _:=h;have HV:Hid _:=hV;have HB4:Hid _:=hb4;have Z4:Hid _:=z4;obtain⟨R,hR⟩:∃R,R=stepM fuelN x l [] M:=⟨_,rfl⟩
 rw[<-hR]at jc ⊢;obtain⟨Q,hQ⟩:∃Q:Ending->World->Prop,Q=StepR T0 p vs w F M R:=⟨_,rfl⟩
 have HQ:Hid (∀e w',StepR T0 p vs w F M R e w'->Q e w'):=fun e w' h=>by rw[hQ];exact h
 rw[<-hQ];clear h hT hnG hL hL3 hV hlt hr hF hR hQ b1 b2 b3 b4 hb3 hb4 v0 v1 v2 v3 u0 u1;have HW1:Hid _:=hw1;have HW2:Hid _:=hw2;have HW3:Hid _:=hw3;have HW4:Hid _:=hw4;have Z3:Hid _:=z3;clear hw1 hw2 hw3 hw4 z1 z2 z3 z4;generalize l.length=n at *;go_enter Tryz.func98,Tryz.ntmps98
 go_wp2_with fail
 rw[<-HW1.out,<-HW2.out,<-HW3.out];refine jm.mono ?_
 rintro e w5 ⟨rfl,hw5⟩
 obtain rfl:=hw5.symm
 clear jm
 go_wp2_with fail
 refine jk.mono ?_
 rintro e w5 ⟨⟨b,rfl,hbd⟩,hw5⟩
 obtain rfl:=hw5.symm
 have hbt:b=true:=hbd.2 HBD.out;subst hbt;clear jk hbd
 go_wp2_with fail
 rw[<-HW4.out,Z3.out];refine jc.mono ?_
 clear jc;rintro e w5 (⟨rfl,L,M',q,d,F',i',hs,h3,hO,hU,hnE,hoff,fr,hnw⟩|⟨rfl,hs,M',F',i',hO,hM,hnE,fr⟩)
 ·have r3:w5.cell? ⟨w.heap.size+1+1+1,0,none⟩=some (.slice q L.length d):=qb h3 0
  have HE:Hid (Q (.returned (.tuple #[.slice q L.length d,.int .i64 0])) w5):=HQ.out _ _ ⟨F',i',qfo HB4.out fr (by omega) (by rw[Z4.out];omega),Or.inr ⟨L,M',q,d,hs,rfl,hU,hO,fun k hk=>Nat.le_trans HB4.out.size (hnw k hk)⟩⟩
  clear hs h3 hO hU hnE hoff fr hnw;go_wp2;exact HE.out
 ·have r0:w5.heap[w.heap.size]? =some (.cells #[.pointer (some ⟨p,0,none⟩)] 74 (0,0)):=(fr.keep _ (by rw[Z4.out];omega) (fun e=>by rcases e with e|e|e;exact HV.out.n0 e;omega;rw[Z4.out]at e;omega)).trans HV.out.h0
  have rc:w5.cell? ⟨w.heap.size,0,none⟩=some (.pointer (some ⟨p,0,none⟩)):=qb r0 0;have jf:=q75 hO M.length hM.length_le;have HFR:Hid (Fr w w5 F F'):=qfo HB4.out fr (by omega) (by rw[Z4.out];omega)
  rw[qhi hM]at jf;clear r0 hO hnE fr
  go_wp2_with fail
  refine jf.mono ?_
  rintro e w6 ⟨rfl,F6,hO6,fr6⟩
  have HE:Hid (Q (.returned (.tuple #[.slice none 0 0,.int .i64 9])) w6):=HQ.out _ _ ⟨F6,i',HFR.out.trans fr6,Or.inl ⟨hs,rfl,hO6⟩⟩;clear jf hs hO6 fr6;go_wp2;exact HE.out
def EbAt (w:World) (g:Nat) (bs:List Bool):Prop:=w.heap[g]? =some (.cells (bs.map Value.bool).toArray 4 (0,0))
theorem EbAt.lt{w:World}{g:Nat}{bs:List Bool}(h:EbAt w g bs):g<w.heap.size:=(aes h).1
theorem EbAt.up{w w':World}{g:Nat}{bs:List Bool}(h:EbAt w g bs)(hb:Below w.heap.size w w'):EbAt w' g bs:=(hb.block g h.lt).trans h
theorem EbAt.cell{w:World}{g:Nat}{bs:List Bool}(h:EbAt w g bs){i:Nat}{b:Bool}(hi:bs[i]? =some b):w.cell? ⟨g,i,none⟩=some (.bool b):=by
 unfold EbAt at h;rw[qb h i];simp[hi]
theorem EbAt.fz{w:World}{g:Nat}{bs:List Bool}(h:EbAt w g bs)(i:Nat):w.frozen? ⟨g,i,none⟩=false:=frozen_of_row w g i _ _ h
theorem EbAt.set{w:World}{g:Nat}{bs:List Bool}(h:EbAt w g bs)(i:Nat)(b:Bool):EbAt (w.setCell ⟨g,i,none⟩ (.bool b)) g (bs.set i b):=by
 unfold EbAt at h ⊢;rw[heap_setCell_same w g i _ _ _ h]
 congr 2
 simp
theorem q4Q(g n i:Nat)(hi:i<n)(w:World):(Instr.indexAt 28 (.slice (some ⟨g,0,none⟩) n n) (.int .i64 (i:Int))).run Tryz.prog w=.ok (.pointer (some ⟨g,i,none⟩)) w:=by
 simp[Instr.indexAt,run_underlying Tryz.underlying28,asIntOf,q1c (show (Tryz.prog.info? 4).map (·.size)=some 1 by kernel_rfl),hi,Result.andThen,go_sem,qg]
theorem q6B{T0:Tr}(t0:KT T0){items:List It}{k:Nat}{S:Tr}(hk:Rep items k S)(hS:InC T0 S)(x:It)(hx:items[k]? =some x)(g n:Nat)(bs:List Bool)(w:World)(hb:EbAt w g bs)(hn:bs.length=n)(hall:∀j S,j<k->Rep items j S->bs[j]? =some (endB S)):
  Calls Tryz.prog 102 #[itV x,.slice (some ⟨g,0,none⟩) n n] w fun e w'=>e=.returned (.bool (endB S))/\w'=w.alloc (itO x):=by
 have hkind:=q3a t0 hS
 have key:∀(m:Nat) (c:Tr),m<k->Rep items m c->(∀w',(Instr.indexAt 28 (.slice (some ⟨g,0,none⟩) n n) (.int .i64 (m:Int))).run Tryz.prog w'=.ok (.pointer (some ⟨g,m,none⟩)) w')/\∀o,(w.alloc o).cell? ⟨g,m,none⟩=some (.bool (endB c)):=fun m c hm hr=>by
  have hq:=hall m c hm hr;have hlt:m<n:=by rw[<-hn];exact(List.getElem?_eq_some_iff.1 hq).1
  exact⟨fun w'=>q4Q g n m hlt w',fun o=>(hb.up (qc w o)).cell hq⟩
 match S,hk,hS,hkind with
 | .leaf (op,pp),hk,hS,hkind=>
  obtain rfl:x=⟨op,pp,-1,-1⟩:=by cases hk with|leaf h=>rw[h]at hx;injection hx with hx;exact hx.symm
  have ho:op=0\/op=1\/op=2\/op=4\/op=5:=by
   rcases hkind with q|q
   ·rcases q1X q with⟨h,_⟩|⟨_,h⟩<;>omega
   ·exact(q2D q).elim
  rcases ho with rfl|rfl|rfl|rfl|rfl
  ·exact q1F _ _ _ _ _ _ _ _ (by simp)
  ·exact q1K _ _ _ _ _ _ _ _ (by simp)
  ·exact q1K _ _ _ _ _ _ _ _ (by simp)
  ·exact q1K _ _ _ _ _ _ _ _ (by simp)
  ·exact q1F _ _ _ _ _ _ _ _ (by simp)
 | .un (op,pp) c,hk,hS,hkind=>
  obtain⟨m,rfl,hm,hr⟩:∃m:Nat,x=⟨op,pp,(m:Int),-1⟩/\m<k/\Rep items m c:=by cases hk with|un h h1 h2=>rw[h]at hx;injection hx with hx;exact⟨_,hx.symm,h1,h2⟩
  obtain⟨hi,hc⟩:=key m c hm hr
  have ho:op=6\/op=7\/op=8\/op=19\/op=20\/op=23:=by
   rcases hkind with q|q
   ·rcases kt_un q with⟨_,⟨h,_⟩|⟨h,_⟩⟩<;>omega
   ·rcases kp_un q with⟨_,⟨h,_⟩|⟨h,_⟩|⟨h,_⟩⟩<;>omega
  rcases ho with rfl|rfl|rfl|rfl|rfl|rfl
  ·exact q1F _ _ _ _ _ _ _ _ (by simp)
  ·exact q1K _ _ _ _ _ _ _ _ (by simp)
  ·exact q1F _ _ _ _ _ _ _ _ (by simp)
  ·exact q1K _ _ _ _ _ _ _ _ (by simp)
  ·exact q83 _ _ _ _ _ _ _ g _ rfl m (endB c) (hi _) (hc _)
  ·exact q1F _ _ _ _ _ _ _ _ (by simp)
 | .bin (op,pp) c d,hk,hS,hkind=>
  obtain⟨m,l,rfl,hm,hl,hr,hr2⟩:∃m l:Nat,x=⟨op,pp,(m:Int),(l:Int)⟩/\m<k/\l<k/\Rep items m c/\Rep items l d:=by cases hk with|bin h h1 h2 h3 h4=>rw[h]at hx;injection hx with hx;exact⟨_,_,hx.symm,h1,h2,h3,h4⟩
  obtain⟨hi,hc⟩:=key m c hm hr;obtain⟨hi2,hc2⟩:=key l d hl hr2
  have ho:op=11\/op=12\/op=15\/op=16\/op=17\/op=18\/op=21\/op=22:=by
   rcases hkind with q|q
   ·have:=(q1J q).2;omega
   ·have:=(q1y q).2.1;omega
  rcases ho with rfl|rfl|rfl|rfl|rfl|rfl|rfl|rfl
  ·exact q2Y _ _ _ _ _ _ _ g _ (by simp) m l (endB c) (endB d) (hi _) (hc _) (hi2 _) (hc2 _)
  ·exact q5s _ _ _ _ _ _ _ g _ (by simp) m l (endB c) (endB d) (hi _) (hc _) (hi2 _) (hc2 _)
  ·exact q1K _ _ _ _ _ _ _ _ (by simp)
  ·exact q1F _ _ _ _ _ _ _ _ (by simp)
  ·exact q2Y _ _ _ _ _ _ _ g _ (by simp) m l (endB c) (endB d) (hi _) (hc _) (hi2 _) (hc2 _)
  ·exact q9k _ _ _ _ _ _ _ g _ rfl m l (endB c) (endB d) (hi _) (hc _) (hi2 _) (hc2 _)
  ·exact q5s _ _ _ _ _ _ _ g _ (by simp) m l (endB c) (endB d) (hi _) (hc _) (hi2 _) (hc2 _)
  ·exact q2Y _ _ _ _ _ _ _ g _ (by simp) m l (endB c) (endB d) (hi _) (hc _) (hi2 _) (hc2 _)
theorem qd8:(Tryz.prog.info? 4).map (fun i=>(i.zero,i.size,i.bytes))=some (some (.bool false),1,1):=by kernel_rfl
theorem qiT(n:Nat):madeCells #[.bool false] n=Array.replicate n (.bool false):=by
 unfold madeCells
 apply Array.ext
 ·simp
 ·intro i h1 h2
  simp[Nat.mod_one]
theorem qdm(l:Nat)(hb:l<=100000000)(w:World):
  (Instr.makeSlice 28 (.int .i64 (l:Int)) (.int .i64 (l:Int))).run Tryz.prog w=.ok (.slice (some ⟨w.heap.size,0,none⟩) l l) (w.alloc (.cells (Array.replicate l (Value.bool false)) 4)):=by
 obtain⟨i,hi,hz0,hz1,hz2⟩:=info_parts qd8;have:=run_make (P:=Tryz.prog) w 28 4 i (.bool false) Tryz.underlying28 hi hz0 .i64 .i64 (l:Int) (l:Int) (by omega) (by omega) (by rw[hz2];omega) (by omega)
 rw[this,hz1];simp only[Int.toNat_natCast,Nat.mul_one]
 have e:(Value.bool false).cells=#[.bool false]:=rfl;rw[e,qiT]
theorem EbAt.made(w:World)(l:Nat):EbAt (w.alloc (.cells (Array.replicate l (Value.bool false)) 4)) w.heap.size (List.replicate l false):=by
 unfold EbAt;rw[(MapKept.heap_alloc w _).1];simp
structure EndL (items:List It) (bs:List Bool):Prop where
 len:bs.length=items.length
 all:∀j S,Rep items j S->bs[j]? =some (endB S)
theorem q9j{T0:Tr}{w:World}{G:Nat->Prop}{b:Nat}{T:TypeId}{rest:List Value}{items:List It}(h:PtO T0 w G b T rest items):
  Calls Tryz.prog 73 #[.pointer (some ⟨b,0,none⟩)] w fun e w'=>e=.returned (.slice (some ⟨w.heap.size,0,none⟩) items.length items.length)/\(∃bs,EndL items bs/\EbAt w' w.heap.size bs)/\Below w.heap.size w w':=by
 have hfew:=h.few;obtain⟨texts,hp,_⟩:=h.ex;obtain⟨vi,mp,vt,hr,_⟩:=hp.ex;obtain⟨ai,ci,rfl⟩:=qM hr.ri;have c0:=hr.c0;have c0b:(w.alloc (.cells (Array.replicate items.length (Value.bool false)) 4)).cell? ⟨b,0,none⟩=some (.slice ai items.length ci):=(hr.up (qc w _)).c0;have hmk:=qdm items.length (by omega) w
 have HH:Hid _:=h;have HE0:Hid _:=EbAt.made w items.length;have HB0:Hid _:=qc w (.cells (Array.replicate items.length (Value.bool false)) 4);have HC:=hiq c0;clear h hp hr;generalize hL:items.length=L at *;have HL:=hiq hL;clear hL;go_enter Tryz.func73,Tryz.ntmps73
 go_wp2
 go_loopw [17] (fun i wr=>∃(k:Nat) (bs:List Bool),k<=L/\i=.int .i64 (k:Int)/\Hid (EbAt wr w.heap.size bs)/\Hid (bs.length=L)/\Hid (∀j S,j<k->Rep items j S->bs[j]? =some (endB S))/\Hid (Below w.heap.size w wr)) (fun i _=>L-(intOf i).toNat)
 case atStart=>exact⟨0,List.replicate L false,Nat.zero_le _,rfl,HE0,by simp[Hid],fun j S hj=>absurd hj (by omega),HB0⟩
 case round=>
  clear HE0 HB0 c0 c0b hmk;obtain⟨k,bs,hk,rfl,HE,HLN,HALL,HB⟩:=hrel;by_cases hlt:k<L
  ·have hki:k<items.length:=by have:=HL.out;omega
   obtain⟨S,hrep,hS⟩:=HH.out.cov k hki;obtain⟨a,n,cap,g,o,d0,hidx,x0,x1,x2,x3⟩:=(HH.out.up HB.out).at (lge hki)
   have ea:Value.slice a n cap=.slice ai L ci:=by
    have e1:=qn HC.out HB.out;rw[d0]at e1;injection e1
   injection ea with e1 e2 e3;subst e1 e2 e3;have hb1:=qc wr (itO items[k]);have je:=q6B HH.out.t0.kt hrep hS items[k] (lge hki) w.heap.size n bs (wr.alloc (itO items[k])) (HE.out.up hb1) HLN.out HALL.out
   have hz:(wr.alloc (itO items[k])).heap.size=wr.heap.size+1:=by simp
   have hbx:=(mha wr (itO items[k])).1;have y0:(wr.alloc (itO items[k])).cell? ⟨wr.heap.size,0,none⟩=some (.int .u8 (items[k].op:Int)):=qb hbx 0;have y1:(wr.alloc (itO items[k])).cell? ⟨wr.heap.size,1,none⟩=some (.int .u8 (items[k].p:Int)):=qb hbx 1;have y2:(wr.alloc (itO items[k])).cell? ⟨wr.heap.size,2,none⟩=some (.int .i64 items[k].a):=qb hbx 2;have y3:(wr.alloc (itO items[k])).cell? ⟨wr.heap.size,3,none⟩=some (.int .i64 items[k].b):=qb hbx 3;have hb2:Below wr.heap.size wr ((wr.alloc (itO items[k])).alloc (itO items[k])):=qd hb1 (qc _ _);have HE2:Hid (EbAt ((wr.alloc (itO items[k])).alloc (itO items[k])) w.heap.size bs):=EbAt.up HE.out hb2;have HB2:Hid _:=qd HB.out hb2;have hix:=fun w'=>q4Q w.heap.size n k hlt w'
   have hbk:bs[k]? =some (bs[k]'(by rw[HLN.out];exact hlt)):=lge _
   have cB:=HE2.out.cell hbk;have zB:=HE2.out.fz k
   have HNX:Hid (∀j S',j<k+1->Rep items j S'->(bs.set k (endB S))[j]? =some (endB S')):=fun j S' hj hr=>by
    by_cases e:j=k
    ·subst e
     have:=Rep.tree hrep hr
     subst this;rw[List.getElem?_set_self (by rw[HLN.out];exact hlt)]
    ·rw[List.getElem?_set_ne (fun h=>e h.symm)]
     exact HALL.out j S' (by omega) hr
   have HES:Hid (EbAt (((wr.alloc (itO items[k])).alloc (itO items[k])).setCell ⟨w.heap.size,k,none⟩ (.bool (endB S))) w.heap.size (bs.set k (endB S))):=HE2.out.set k _;have HBS:Hid (Below w.heap.size w (((wr.alloc (itO items[k])).alloc (itO items[k])).setCell ⟨w.heap.size,k,none⟩ (.bool (endB S)))):=⟨HB2.out.os,HB2.out.tape,HB2.out.output,by simp;have:=HB2.out.size;simp at this;omega,fun j hj=>(Below.heap_setCell _ _ _ _ (by dsimp only;omega)).trans (HB2.out.block j hj)⟩
   generalize items[k]=xx at *;obtain⟨op,pp,xa,xb⟩:=xx;generalize endB S=bv at *;unfold itO itV at *;dsimp only at *
   clear hbx hb1 hb2 hrep hS HB HE HALL HE2 HB2 hbk
   go_wp2_with fail
   refine je.mono ?_
   rintro e w5 ⟨rfl,rfl⟩
   clear je y0 y1 y2 y3 x0 x1 x2 x3 d0 hidx;have HLN2:Hid ((bs.set k bv).length=n):=by show _=_;rw[List.length_set];exact HLN.out
   go_wp2
   go_roundw
   case rel=>exact⟨k+1,bs.set k bv,by omega,by go_num,HES,HLN2,HNX,HBS⟩
   case measure=>simp[intOf]<;>omega
  ·obtain rfl:k=L:=by omega
   have HEND:Hid (∃bs,EndL items bs/\EbAt wr w.heap.size bs):=⟨bs,⟨by rw[HLN.out,HL.out],fun j S hr=>HALL.out j S (by have:=hr.lt;have:=HL.out;omega) hr⟩,HE.out⟩
   clear HE HALL;go_wp2;go_ret
   exact⟨rfl,HEND.out,HB.out⟩
def noTx (n:Nat):List ByteArray:=List.replicate n ⟨#[]⟩
theorem qfA(n:Nat):noTx n++[⟨#[]⟩]=noTx (n+1):=by
 unfold noTx;rw[List.replicate_succ']
structure PtN (w:World) (B b:Nat) (vi:Value) (mp:Nat) (vt:Value) (T:Tr) (items:List It) (n:Nat):Prop where
 k:PtK T items n
 ok:∀x∈items,ItOk x
 r:PtR w b 126 [] vi mp vt items (noTx items.length) items.length (posI items)
 ge:∀k,FP b mp vi vt k->B<=k
theorem qil{w3:World}{b:Nat}(hb:w3.heap[b]? =some (.cells #[.slice none 0 0,.map none,.slice none 0 0] 126 (0,0))):
  Pts ((w3.setCell ⟨b,1,none⟩ (.map (some w3.heap.size))).alloc (.map #[] 0)) (fun k=>k=b\/k=w3.heap.size) b 126 [] [] []:=by
 have hl:b<w3.heap.size:=(aes hb).1
 have h1:=heap_setCell_same _ b 1 _ _ (.map (some w3.heap.size)) hb;have hz:(w3.setCell ⟨b,1,none⟩ (.map (some w3.heap.size))).heap.size=w3.heap.size:=by simp
 have hn:=qcM (w3.setCell ⟨b,1,none⟩ (.map (some w3.heap.size)));rw[hz]at hn;refine⟨by simp,rfl,by simp,fun x hx=>(by cases hx),fun x hx=>(by cases hx),.slice none 0 0,w3.heap.size,.slice none 0 0,⟨Or.inl rfl,?_,⟨rfl,Or.inl ⟨rfl,rfl⟩⟩,⟨rfl,Or.inl ⟨rfl,rfl⟩⟩,hn.alike fun x _=>rfl⟩,fun k=>?_⟩
 ·rw[(qc _ _).block b (by rw[hz];exact hl),h1];rfl
 ·constructor
  ·rintro (h|h)
   ·exact Or.inl h
   ·exact Or.inr (Or.inl h)
  ·rintro (h|h|h|h)
   ·exact Or.inl h
   ·exact Or.inr h
   ·cases h
   ·cases h
theorem PtR.again{w:World}{b mp n:Nat}{T:TypeId}{vi vt:Value}{items:List It}{texts:List ByteArray}{f:It->Option Nat}(h:PtR w b T [] vi mp vt items texts n f):
  PtR (((w.setCell ⟨b,0,none⟩ vi).setCell ⟨b,1,none⟩ (.map (some mp))).setCell ⟨b,2,none⟩ vt) b T [] vi mp vt items texts n f/\∀k:Nat,(((w.setCell ⟨b,0,none⟩ vi).setCell ⟨b,1,none⟩ (.map (some mp))).setCell ⟨b,2,none⟩ vt).heap[k]? =w.heap[k]? := by
 have k1:=heap_setCell_same w b 0 _ _ vi h.blk;have k2:=heap_setCell_same _ b 1 _ _ (.map (some mp)) k1;have k3:=heap_setCell_same _ b 2 _ _ vt k2
 have all:∀k:Nat,(((w.setCell ⟨b,0,none⟩ vi).setCell ⟨b,1,none⟩ (.map (some mp))).setCell ⟨b,2,none⟩ vt).heap[k]? =w.heap[k]? := fun k=>by
  by_cases e:k=b
  ·subst e;rw[k3,h.blk];rfl
  ·exact(Below.heap_setCell _ _ _ _ e).trans ((Below.heap_setCell _ _ _ _ e).trans (Below.heap_setCell _ _ _ _ e))
 exact⟨h.far fun k _=>all k,all⟩
theorem q33{B:Nat}{w w':World}(h:Below B w w')(a:Addr)(v:Value)(ha:B<=a.block):Below B w (w'.setCell a v) :=
 ⟨h.os,h.tape,h.output,by simp;exact h.size,fun k hk=>(Below.heap_setCell _ _ _ _ (by omega)).trans (h.block k hk)⟩
structure PtG (w wr:World) (b t:Nat) (F:Nat->Prop) (items:List It) (k:Nat):Prop where
 p:∃G,Pts wr G b 126 [] (items.take k) (noTx k)/\(∀j,G j->w.heap.size<=j)/\∀j,F j->¬G j
 t:TabI wr F t items
 b:Below w.heap.size w wr
theorem qhh{items:List It}(hn:items.Nodup){k:Nat}(hk:k<items.length):items[k] ∉ items.take k:=fun h=>by
 obtain⟨j,hj,e⟩:=List.getElem_of_mem h;rw[List.getElem_take]at e;have:=(List.getElem_inj hn).1 e
 simp at hj
 omega
theorem PtG.up{w wr w':World}{b t:Nat}{F:Nat->Prop}{items:List It}{k:Nat}(h:PtG w wr b t F items k)(hb:Below wr.heap.size wr w'):PtG w w' b t F items k:=by
 obtain⟨G,hp,h1,h2⟩:=h.p;exact⟨⟨G,hp.up hb,h1,h2⟩,h.t.up hb,qd h.b hb⟩
theorem q84{w wr:World}{b t:Nat}{F:Nat->Prop}{items:List It}{k:Nat}(h:PtG w wr b t F items k)(hk:k<items.length):Calls Tryz.prog 122 #[.pointer (some ⟨b,0,none⟩),itV items[k]] wr fun e w'=>(∃j,e=.returned (.int .i64 j))/\PtG w w' b t F items (k+1):=by
 obtain⟨G,hp,h1,h2⟩:=h.p;have hnd:=h.t.nd;have hfew:=h.t.few;refine (q4A hp items[k] (h.t.ok _ (List.getElem_mem hk)) (qhh hnd hk) (by simp;omega)).mono ?_
 rintro e w' ⟨rfl,G',hp',fr⟩
 rw[qfA,List.take_append_getElem hk]at hp';refine⟨⟨_,rfl⟩,⟨G',hp',fr.ge h1 h.b.size,fun j hj hG=>?_⟩,h.t.far fun j hj=>fr.keep j (h.t.lt j hj) (h2 j hj),h.b.trans (fr.below h1 h.b.size)⟩
 rcases fr.foot j hG with e|e
 ·exact h2 j hj e
 ·have:=h.t.lt j hj;omega
theorem PtG.fin{w wr:World}{b t:Nat}{F:Nat->Prop}{items:List It}(h:PtG w wr b t F items items.length):∃vi mp vt,PtR wr b 126 [] vi mp vt items (noTx items.length) items.length (posI items)/\∀k,FP b mp vi vt k->w.heap.size<=k:=by
 obtain⟨G,hp,h1,_⟩:=h.p;rw[List.take_length]at hp;obtain⟨vi,mp,vt,hr,hG⟩:=hp.ex;exact⟨vi,mp,vt,hr,fun k hk=>h1 k ((hG k).2 hk)⟩
theorem q6C(a:Option Addr)(len cap:Nat)(ts:List Tk)(w:World)(hT:TkSl w a len cap ts):
  Calls Tryz.prog 93 #[.slice a len cap] w fun e w'=>Below w.heap.size w w'/\((chkE ts≠0/\e=.returned (.tuple #[.agg #[.slice none 0 0,.map none,.slice none 0 0],.int .i64 0,.int .i64 (chkE ts:Int)])) \/
   (chkE ts=0/\∃T items n b vi mp vt,KT T/\T.size<=2048/\ts=T.flat/\PtN w' w.heap.size b vi mp vt T items n/\e=.returned (.tuple #[.agg #[vi,.map (some mp),vt],.int .i64 (n:Int),.int .i64 0]))):=by
 obtain⟨w0,hw0⟩:∃w0,w0=w.alloc (.cells #[.slice none 0 0,.map none,.slice none 0 0] 126):=⟨_,rfl⟩
 have hb0:Below w.heap.size w w0:=by rw[hw0];exact qc _ _
 have hz0:w0.heap.size=w.heap.size+1:=by rw[hw0];simp
 have hv0:w0.heap[w.heap.size]? =some (.cells #[.slice none 0 0,.map none,.slice none 0 0] 126 (0,0)):=by rw[hw0];exact(mha w _).1
 have jn:=qbw w0;have hmm:=@run_makeMap Tryz.prog;have HT:Hid _:=hT.up hb0
 have HTS:Hid (∀x,a=some x->0<len->x.block<w0.heap.size):=fun x hx hl=>by
  have h1:=(hT.up hb0);subst hx;exact h1.lt hl
 have HB0:Hid _:=hb0;have HZ0:Hid _:=hz0;have HV0:Hid _:=hv0;have HW0:Hid _:=hw0;clear hT hb0 hz0 hv0 hw0;by_cases hc:chkE ts=0
 ·obtain⟨T,kT,hsz,hts,hE,hK⟩:=qgF hc
  obtain⟨items,hi⟩:∃items,items=keepI [] ts:=⟨_,rfl⟩
  obtain⟨n,hn⟩:∃n,n=keepN [] ts:=⟨_,rfl⟩
  rw[<-hi,<-hn]at hK;have HFIN:Hid (∀w' vi mp vt,PtN w' w.heap.size w.heap.size vi mp vt T items n->∃T' items' n' b vi' mp' vt',KT T'/\T'.size<=2048/\ts=T'.flat/\PtN w' w.heap.size b vi' mp' vt' T' items' n'/\(Ending.returned (.tuple #[.agg #[vi,.map (some mp),vt],.int .i64 (n:Int),.int .i64 0]))=.returned (.tuple #[.agg #[vi',.map (some mp'),vt'],.int .i64 (n':Int),.int .i64 0])):=fun w' vi mp vt h=>⟨T,items,n,_,vi,mp,vt,kT,hsz,hts,h,rfl⟩
  have HK:Hid _:=hK;have HI:Hid _:=hi;have HN:Hid _:=hn;have HE:Hid _:=hE;have HC:Hid _:=hc;clear kT hsz hts hK hi hn hE hc;go_enter Tryz.func93,Tryz.ntmps93
  go_wp2_with fail
  rw[<-HW0.out];refine jn.mono ?_
  rintro e w1 ⟨t,F,rfl,hTab,hge,hb1⟩
  have jk:=q4F a len cap ts ⟨hTab,qaG⟩ (HT.out.up hb1) (fun hl x hx e=>by have:=HTS.out x hx hl;have:=hge _ e;omega)
  rw[HE.out,<-HI.out,<-HN.out]at jk;have HGE:Hid (∀k,F k->w0.heap.size<=k):=hge;have HB1:Hid _:=hb1;clear jn hTab hge hb1;unfold tbV
  go_wp2_with fail
  refine jk.mono ?_
  rintro e w2 ⟨rfl,F2,hTab2,fr2⟩
  have hb2:Below w0.heap.size w1 w2:=fr2.below HGE.out HB1.out.size;have hbb:Below w0.heap.size w0 w2:=HB1.out.trans hb2;have hv2:w2.heap[w.heap.size]? =some (.cells #[.slice none 0 0,.map none,.slice none 0 0] 126 (0,0)):=(hbb.block _ (by have:=HZ0.out;omega)).trans HV0.out
  have hg2:∀k,F2 k->w0.heap.size<=k:=fr2.ge HGE.out HB1.out.size;have hp0:=qil hv2;have HB2:Hid (Below w.heap.size w w2):=HB0.out.trans (hbb.mono (by have:=HZ0.out;omega))
  have hl2:w.heap.size<w2.heap.size:=(aes hv2).1
  have d1:w2.cell? ⟨w.heap.size,1,none⟩=some (.map none):=qb hv2 1;have z1:w2.frozen? ⟨w.heap.size,1,none⟩=false:=frozen_of_row _ _ 1 _ _ hv2;have hzs:(w2.setCell ⟨w.heap.size,1,none⟩ (.map (some w2.heap.size))).heap.size=w2.heap.size:=by simp
  have HG0:Hid (PtG w ((w2.setCell ⟨w.heap.size,1,none⟩ (.map (some w2.heap.size))).alloc (.map #[] 0)) w.heap.size t F2 items 0):=by
   refine⟨⟨_,hp0,fun j hj=>?_,fun j hj hG=>?_⟩,hTab2.1.far fun k hk=>?_,?_⟩
   ·rcases hj with rfl|rfl<;>omega
   ·have h1:=hg2 j hj
    have h2:=hTab2.1.lt j hj;have:=HZ0.out
    rcases hG with e|e<;>omega
   ·have h1:=hg2 k hk
    have h2:=hTab2.1.lt k hk;have:=HZ0.out
    exact((qc _ _).block k (by rw[hzs];exact h2)).trans (Below.heap_setCell _ _ _ _ (by dsimp only;omega))
   ·exact qd (q33 HB2.out _ _ nlr) (qc _ _)
  clear jk hTab2 fr2 hb2 hbb hv2 hg2 hp0 hzs;have hfew:items.length<=2048:=HK.out.few;generalize hL:items.length=L at *;have HL:=hiq hL;clear hL
  go_wp2_with fail
  generalize (w2.setCell ⟨w.heap.size,1,none⟩ (.map (some w2.heap.size))).alloc (.map #[] 0)=w3 at *;have jl:=qbv HG0.out.t;rw[HL.out]at jl;refine jl.mono ?_
  rintro e w4 ⟨rfl,hw4⟩
  obtain rfl:=hw4.symm
  clear jl d1 z1;go_wp2
  go_loopw [24] (fun i wr=>∃k:Nat,k<=L/\i=.int .i64 (k:Int)/\Hid (PtG w wr w.heap.size t F2 items k)) (fun i _=>L-(intOf i).toNat)
  case atStart=>exact⟨0,Nat.zero_le _,rfl,HG0⟩
  case round=>
   clear HG0;obtain⟨k,hk,rfl,HG⟩:=hrel;by_cases hlt:k<L
   ·have hki:k<items.length:=by have:=HL.out;omega
    have ji:=q9C HG.out.t k items[k] (lge hki)
    have HKN:Hid (∀w',Below wr.heap.size wr w'->Calls Tryz.prog 122 #[.pointer (some ⟨w.heap.size,0,none⟩),itV items[k]] (w'.alloc (itO items[k])) fun e w''=>(∃j,e=.returned (.int .i64 j))/\PtG w w'' w.heap.size t F2 items (k+1)):=fun w' hb=>q84 ((HG.out.up hb).up (qc w' _)) hki
    obtain⟨x,hx⟩:∃x,x=items[k]:=⟨_,rfl⟩
    rw[<-hx]at ji HKN;clear hx HG;obtain⟨op,p,xa,xb⟩:=x;unfold itV at *;unfold itO at *;dsimp only at *
    go_wp2_with fail
    refine ji.mono ?_
    rintro e w5 ⟨rfl,hb5⟩
    have jk:=HKN.out w5 hb5;clear ji hb5
    go_wp2_with fail
    refine jk.mono ?_
    rintro e w6 ⟨⟨j,rfl⟩,hG6⟩
    have HG6:Hid _:=hG6;clear jk hG6;go_wp2
    go_roundw
    case rel=>exact⟨k+1,by omega,by go_num,HG6⟩
    case measure=>simp[intOf]<;>omega
   ·obtain rfl:k=L:=by omega
    have hg:=HG.out;rw[<-HL.out]at hg;obtain⟨vi,mp,vt,hr,hge⟩:=hg.fin;have h3:=hr.again;obtain⟨ai,ci,rfl⟩:=qM hr.ri;obtain⟨at',ct,rfl⟩:=qM hr.rt;have f0:=hr.c0;have f1:=hr.c1;have f2:=hr.c2;have z0:wr.frozen? ⟨w.heap.size,0,none⟩=false:=frozen_of_row _ _ 0 _ _ hr.blk;have z1:wr.frozen? ⟨w.heap.size,1,none⟩=false:=frozen_of_row _ _ 1 _ _ hr.blk;have z2:wr.frozen? ⟨w.heap.size,2,none⟩=false:=frozen_of_row _ _ 2 _ _ hr.blk;have HQ:Hid _:=HFIN.out _ _ _ _ ⟨HK.out,HG.out.t.ok,h3.1,hge⟩;have HBW:Hid _:=q33 (q33 (q33 HG.out.b ⟨w.heap.size,0,none⟩ (.slice ai items.length ci) (Nat.le_refl _)) ⟨w.heap.size,1,none⟩ (.map (some mp)) (Nat.le_refl _)) ⟨w.heap.size,2,none⟩ (.slice at' (noTx items.length).length ct) (Nat.le_refl _);have g0:=h3.1.c0;have g1:=h3.1.c1;have g2:=h3.1.c2;clear hr hg h3 hge HG;go_wp2;generalize (((wr.setCell ⟨w.heap.size,0,none⟩ (.slice ai items.length ci)).setCell ⟨w.heap.size,1,none⟩ (.map (some mp))).setCell ⟨w.heap.size,2,none⟩ (.slice at' (noTx items.length).length ct))=W at *;refine bodyPost_ret (v:=.tuple #[.agg #[.slice ai items.length ci,.map (some mp),.slice at' (noTx items.length).length ct],.int .i64 (n:Int),.int .i64 0]) (by simp[results,Tryz.results93,go_sem,g0,g1,g2]) rfl ⟨HBW.out,Or.inr ⟨HC.out,HQ.out⟩⟩
 ·obtain⟨h1,h2,h3⟩:=qcE (items:=[]) hc
  have hne:(((chkE ts:Nat):Int) != 0)=true:=by simp;omega
  have HC:Hid _:=hc;have H1:Hid _:=h1;have H3:Hid _:=h3;clear hc h1 h2 h3;obtain⟨E,hE⟩:∃E,E=chkE ts:=⟨_,rfl⟩
  have HE:Hid _:=hE;rw[<-hE]at hne;rw[<-hE];clear hE;go_enter Tryz.func93,Tryz.ntmps93
  go_wp2_with fail
  rw[<-HW0.out];refine jn.mono ?_
  rintro e w1 ⟨t,F,rfl,hTab,hge,hb1⟩
  have jk:=q4F a len cap ts ⟨hTab,qaG⟩ (HT.out.up hb1) (fun hl x hx e=>by have:=HTS.out x hx hl;have:=hge _ e;omega)
  rw[H1.out,H3.out,<-HE.out]at jk;have HGE:Hid (∀k,F k->w0.heap.size<=k):=hge;have HB1:Hid _:=hb1;clear jn hTab hge hb1 hmm;unfold tbV
  go_wp2_with fail
  refine jk.mono ?_
  rintro e w2 ⟨rfl,F2,hTab2,fr2⟩
  have hb2:Below w0.heap.size w1 w2:=fr2.below HGE.out HB1.out.size;have hbb:Below w0.heap.size w0 w2:=HB1.out.trans hb2;have hv2:w2.heap[w.heap.size]? =some (.cells #[.slice none 0 0,.map none,.slice none 0 0] 126 (0,0)):=(hbb.block _ (by have:=HZ0.out;omega)).trans HV0.out
  have HB2:Hid (Below w.heap.size w w2):=HB0.out.trans (hbb.mono (by have:=HZ0.out;omega))
  have f0:w2.cell? ⟨w.heap.size,0,none⟩=some (.slice none 0 0):=qb hv2 0;have f1:w2.cell? ⟨w.heap.size,1,none⟩=some (.map none):=qb hv2 1;have f2:w2.cell? ⟨w.heap.size,2,none⟩=some (.slice none 0 0):=qb hv2 2;have z0:w2.frozen? ⟨w.heap.size,0,none⟩=false:=frozen_of_row _ _ 0 _ _ hv2;have z1:w2.frozen? ⟨w.heap.size,1,none⟩=false:=frozen_of_row _ _ 1 _ _ hv2;have z2:w2.frozen? ⟨w.heap.size,2,none⟩=false:=frozen_of_row _ _ 2 _ _ hv2;have HBW:Hid _:=q33 (q33 (q33 HB2.out ⟨w.heap.size,0,none⟩ (.slice none 0 0) nlr) ⟨w.heap.size,1,none⟩ (.map none) nlr) ⟨w.heap.size,2,none⟩ (.slice none 0 0) nlr;have k1:=heap_setCell_same w2 _ 0 _ _ (.slice none 0 0) hv2;have k2:=heap_setCell_same _ _ 1 _ _ (.map none) k1;have k3:=heap_setCell_same _ _ 2 _ _ (.slice none 0 0) k2;have g0:(((w2.setCell ⟨w.heap.size,0,none⟩ (.slice none 0 0)).setCell ⟨w.heap.size,1,none⟩ (.map none)).setCell ⟨w.heap.size,2,none⟩ (.slice none 0 0)).cell? ⟨w.heap.size,0,none⟩=some (.slice none 0 0):=qb k3 0;have g1:(((w2.setCell ⟨w.heap.size,0,none⟩ (.slice none 0 0)).setCell ⟨w.heap.size,1,none⟩ (.map none)).setCell ⟨w.heap.size,2,none⟩ (.slice none 0 0)).cell? ⟨w.heap.size,1,none⟩=some (.map none):=qb k3 1;have g2:(((w2.setCell ⟨w.heap.size,0,none⟩ (.slice none 0 0)).setCell ⟨w.heap.size,1,none⟩ (.map none)).setCell ⟨w.heap.size,2,none⟩ (.slice none 0 0)).cell? ⟨w.heap.size,2,none⟩=some (.slice none 0 0):=qb k3 2;clear jk hTab2 fr2 hb2 hbb hv2 k1 k2 k3;go_wp2;generalize (((w2.setCell ⟨w.heap.size,0,none⟩ (.slice none 0 0)).setCell ⟨w.heap.size,1,none⟩ (.map none)).setCell ⟨w.heap.size,2,none⟩ (.slice none 0 0))=W at *;have HCE:Hid (E≠0):=by have:=HC.out;rw[<-HE.out]at this;exact this
  refine bodyPost_ret (v:=.tuple #[.agg #[.slice none 0 0,.map none,.slice none 0 0],.int .i64 0,.int .i64 (E:Int)]) (by simp[results,Tryz.results93,go_sem,g0,g1,g2]) rfl ⟨HBW.out,Or.inl ⟨HCE.out,rfl⟩⟩
theorem PgO.start{T0:Tr}{w:World}{F:Nat->Prop}{p:Nat}{vs:Value}{items:List It}{M:Mt}(h:PgO T0 w F p vs items M)(v:Value):PgO T0 (w.setCell ⟨p,6,none⟩ v) F p v items M/\F p/\w.cell? ⟨p,6,none⟩=some vs/\w.frozen? ⟨p,6,none⟩=false:=by
 obtain⟨G,mn,vm,met,hr,hF⟩:=h.ex;have st:∀k,k≠p->(w.setCell ⟨p,6,none⟩ v).heap[k]? =w.heap[k]? := fun k hk=>Below.heap_setCell _ _ _ _ hk
 refine⟨⟨h.few,h.nd,h.of,G,mn,vm,met,⟨hr.po.setRest (j:=3) v,qs hr.row fun k hk=>st k fun e=>hr.nv k hk (e ▸ hr.gp),hr.num.far (st mn fun e=>hr.ng (e ▸ hr.gp)),hr.met,hr.ng,hr.nv⟩,hF⟩,(hF p).2 (Or.inl hr.gp),hr.c6,hr.fz 6⟩
theorem qj5{w1 W:World}{B b:Nat}{vi:Value}{mp:Nat}{vt:Value}{T:Tr}{items:List It}{n p mn:Nat}(kT:KT T)(hsz:T.size<=2048)(h:PtN w1 B b vi mp vt T items n)(hb:Below w1.heap.size w1 W)(hp:w1.heap.size<=p)(hm:w1.heap.size<=mn)(hB:B<=w1.heap.size)
  (hP:W.heap[p]? =some (.cells (ptA vi mp vt (pgRest p mn (.slice none 0 0) (.slice none 0 0))) 128 (0,0))) (hN:NumS W mn 0 (fun _=>none)):
  ∃F,PgO T W F p (.slice none 0 0) items []/\∀k,F k->B<=k/\(k<w1.heap.size\/k=p\/k=mn):=by
 obtain⟨es,c,hmap⟩:=hN.isMap;have hpm:p≠mn:=fun e=>by rw[e,hmap]at hP;cases hP
 have hlt:=h.r.lt
 have hR:PtR W p 128 (pgRest p mn (.slice none 0 0) (.slice none 0 0)) vi mp vt items (noTx items.length) items.length (posI items) :=
  ⟨Or.inr rfl,hP,q1b h.r.ri hb,q1b h.r.rt hb,h.r.num.far (hb.block mp h.r.num.lt)⟩
 have hG:∀k,FP p mp vi vt k->k=p\/FP b mp vi vt k:=fun k hk=>by
  rcases hk with e|e
  ·exact Or.inl e
  ·exact Or.inr (Or.inr e)
 have hpo:PtO T W (FP p mp vi vt) p 128 (pgRest p mn (.slice none 0 0) (.slice none 0 0)) items:=by
  refine⟨⟨kT,hsz⟩,h.k.low,h.k.cov,noTx items.length,⟨h.k.nd,by simp[noTx],by have:=h.k.few;omega,h.ok,fun s hs=>?_,vi,mp,vt,hR,fun k=>Iff.rfl⟩,fun j S hr=>Or.inl ?_⟩
  ·have:=List.eq_of_mem_replicate hs
   subst this;unfold SOk
   decide
  ·unfold noTx
   rw[List.getElem?_replicate,if_pos hr.lt]
 refine⟨FQ (FP p mp vi vt) mn (.slice none 0 0),⟨by simp,by simp,fun f hf=>(by cases hf),FP p mp vi vt,mn,.slice none 0 0,[],⟨hpo,⟨rfl,Or.inl ⟨rfl,rfl⟩⟩,hN.alike fun x _=>rfl,⟨rfl,fun n i hi=>(by simp at hi)⟩,fun e=>?_,fun k hk=>(by cases hk)⟩,fun k=>Iff.rfl⟩,fun k hk=>?_⟩
 ·rcases hG _ e with e|e
  ·exact hpm e.symm
  ·have:=hlt _ e;omega
 ·rcases hk with e|e|e
  ·rcases hG _ e with e|e
   ·exact⟨by omega,Or.inr (Or.inl e)⟩
   ·exact⟨h.ge k e,Or.inl (hlt _ e)⟩
  ·exact⟨by omega,Or.inr (Or.inr e)⟩
  ·cases e
structure NwV (w:World) (F:Nat->Prop) (p n bp bw:Nat):Prop where
 h0:w.heap[bp]? =some (.cells #[.pointer (some ⟨p,0,none⟩)] 74 (0,0))
 h1:w.heap[bw]? =some (.cells #[.int .i64 (n:Int)] 3 (0,0))
 n0:¬F bp
 n1:¬F bw
theorem NwV.fr{w w':World}{F F':Nat->Prop}{p n bp bw:Nat}(h:NwV w F p n bp bw)(fr:Fr w w' F F'):NwV w' F' p n bp bw :=
 ⟨(qh h.h0 h.n0 fr).1,(qh h.h1 h.n1 fr).1,(qh h.h0 h.n0 fr).2,(qh h.h1 h.n1 fr).2⟩
theorem NwV.cells{w:World}{F:Nat->Prop}{p n bp bw:Nat}(h:NwV w F p n bp bw):w.cell? ⟨bp,0,none⟩=some (.pointer (some ⟨p,0,none⟩))/\w.cell? ⟨bw,0,none⟩=some (.int .i64 (n:Int)):=⟨qb h.h0 0,qb h.h1 0⟩
theorem NwV.set{w:World}{F:Nat->Prop}{p n bp bw:Nat}(h:NwV w F p n bp bw)(hp:F p)(j:Nat)(v:Value):(w.setCell ⟨p,j,none⟩ v).cell? ⟨bp,0,none⟩=some (.pointer (some ⟨p,0,none⟩))/\(w.setCell ⟨p,j,none⟩ v).cell? ⟨bw,0,none⟩=some (.int .i64 (n:Int)) :=
 ⟨qb ((Below.heap_setCell _ _ _ _ (fun e=>h.n0 (by have e':bp=p:=e;rw[e'];exact hp))).trans h.h0) 0,qb ((Below.heap_setCell _ _ _ _ (fun e=>h.n1 (by have e':bw=p:=e;rw[e'];exact hp))).trans h.h1) 0⟩
theorem qjf{w:World}{F:Nat->Prop}{a:Option Addr}{n c:Nat}{l:List Nat}(h:US w F a n c l){p:Nat}(hp:F p)(j:Nat)(v:Value):US (w.setCell ⟨p,j,none⟩ v) F a n c l:=by
 have hs:=h.sl;refine⟨⟨hs.hlen,hs.hcap,hs.bd,hs.idx,fun k hk=>?_,fun k hk=>by simp;exact hs.blk k hk,hs.nn⟩,h.nf⟩
 have:=hs.cell k hk
 unfold World.cell? at this ⊢;rw[Below.heap_setCell _ _ _ _ (fun e=>h.nf k hk (by rw[e];exact hp))]
 exact this
theorem qiJ{w w1:World}{F F1:Nat->Prop}(fr:Fr w w1 F F1){p:Nat}(hp:F1 p)(j:Nat)(v:Value):Fr w (w1.setCell ⟨p,j,none⟩ v) F F1:=by
 refine fr.trans ⟨rfl,rfl,rfl,by simp,fun k hk hF=>Below.heap_setCell _ _ _ _ (fun e=>hF (e ▸ hp)),fun k hk=>Or.inl hk⟩
def NewQ (T0:Tr) (p:Nat) (w:World) (F:Nat->Prop) (R:Rt) (e:Ending) (w':World):Prop :=
 (e=.returned (.tuple #[])/\∃(L:List Nat) (M':Mt) (q:Option Addr) (d:Nat) (F':Nat->Prop) (items':List It),R=some (L,M')/\PgO T0 w' F' p (.slice q L.length d) items' M'/\US w' F' q L.length d L/\Fr w w' F F') \/
 (e=.panicked thrownP/\R=none/\∃(F':Nat->Prop),Fr w w' F F')
theorem qie{T0:Tr}{p:Nat}{w w1:World}{F F1:Nat->Prop}{items:List It}{M:Mt}{R:Rt}{L:List Nat}{q:Option Addr}{d:Nat}{vs:Value}(hR:R=some (L,M))(fr:Fr w w1 F F1)(hU:US w1 F1 q L.length d L)(hO:PgO T0 w1 F1 p vs items M):NewQ T0 p w F R (.returned (.tuple #[])) (w1.setCell ⟨p,6,none⟩ (.slice q L.length d)):=by
 obtain⟨h1,h2,_,_⟩:=hO.start (.slice q L.length d);exact Or.inl ⟨rfl,L,M,q,d,F1,items,hR,h1,qjf hU h2 _ _,qiJ fr h2 _ _⟩
theorem q9q{T0:Tr}(kT:KT T0){p n:Nat}{w:World}{F:Nat->Prop}{items:List It}(h:PgO T0 w F p (.slice none 0 0) items [])(hn:Rep items n T0)(bp bw:Nat)(hV:NwV w F p n bp bw):
  Calls Tryz.prog 95 #[.pointer (some ⟨bp,0,none⟩),.pointer (some ⟨bw,0,none⟩)] w (NewQ T0 p w F (needM T0 [])):=by
 have hVd:=hV.fr (Fr.ofBelow (F:=F) (Below.refl w.heap.size w).drew);have hk0:=hVd.cells;have hk00:=hV.cells;have jn:=q2k (T0:=T0) (p:=p) (vs:=.slice none 0 0) T0 kT (qgz T0) w.drew F items [] n (h.up (Below.refl w.heap.size w).drew) hn;have HV:Hid _:=hVd;obtain⟨R,hR⟩:∃R,R=needM T0 []:=⟨_,rfl⟩
 rw[<-hR]at jn ⊢;obtain⟨Q,hQ⟩:∃Q:Ending->World->Prop,Q=NewQ T0 p w F R:=⟨_,rfl⟩
 have HQ:Hid (∀e w',NewQ T0 p w F R e w'->Q e w'):=fun e w' h=>by rw[hQ];exact h
 rw[<-hQ];clear h hn hV hVd hR hQ;go_enter Tryz.func95,Tryz.ntmps95
 go_wp2_with fail
 go_region_held2 (fun w'=>w'.cell? ⟨bp,0,none⟩=some (.pointer (some ⟨p,0,none⟩))/\w'.cell? ⟨bw,0,none⟩=some (.int .i64 (n:Int))) (first|exact hk0|exact hk00|assumption|fail) (first
   | (revert jn;intro jn;go_at_call 96;(with_reducible refine jn.mono ?_);rintro e w1 ⟨F1,i1,fr1,hp1,⟨L1,M1,q1,d1,hs1,rfl,hU1,hO1⟩|⟨hs1,rfl,M1,hpm1,hO1⟩⟩;(case inr=>exact⟨rfl,HQ.out _ _ (Or.inr ⟨rfl,hs1,F1,(Fr.ofBelow (Below.refl _ _).drew).trans fr1⟩)⟩);have hV1:=HV.out.fr fr1;have hk1:=hV1.cells;have hst:=hO1.start (.slice q1 L1.length d1);have hk2:=hV1.set hst.2.1 6 (.slice q1 L1.length d1);have z2:=hst.2.2.1;have zf:=hst.2.2.2;have HE:Hid (Q (.returned (.tuple #[])) (w1.setCell ⟨p,6,none⟩ (.slice q1 L1.length d1))):=HQ.out _ _ (qie hs1 ((Fr.ofBelow (Below.refl _ _).drew).trans fr1) hU1 hO1))
   |fail)
 all_goals
  clear jn;go_wp2
  go_end0
  exact HE.out
def NwP (T0:Tr) (p:Nat) (w:World) (F:Nat->Prop) (E:Nat) (R:Rt) (w':World):Prop :=
 ∃(L:List Nat) (M':Mt) (q:Option Addr) (d:Nat) (F':Nat->Prop) (items':List It),R=some (L,M')/\PgO T0 w' F' p (.slice q L.length d) items' M'/\US w' F' q L.length d L/\¬F' E/\(∀k,k<L.length->(adOf q k).block≠E)/\Fr w w' (fun k=>F k\/k=E) F'
def NwN (w:World) (F:Nat->Prop) (E:Nat) (R:Rt) (w':World):Prop:=R=none/\∃F':Nat->Prop,Fr w w' (fun k=>F k\/k=E) F'
theorem qcw{w w1 w2:World}{F F':Nat->Prop}{E:Nat}(h7:Fr w w1 (fun k=>F k\/k=E) F')(hg:w1.grownBy w2 (some E)):Fr w w2 (fun k=>F k\/k=E) F' :=
 ⟨hg.os.trans h7.os,hg.tape.trans h7.tape,hg.output.trans h7.output,Nat.le_trans h7.size hg.size,fun k hk hF=>(hg.block k (Nat.lt_of_lt_of_le hk h7.size) (fun e=>hF (Or.inr (by injection e)))).trans (h7.keep k hk hF),h7.foot⟩
theorem NwP.grown{T0:Tr}{p:Nat}{w w1 w2:World}{F:Nat->Prop}{E:Nat}{R:Rt}(h:NwP T0 p w F E R w1)(hg:w1.grownBy w2 (some E)):NwP T0 p w F E R w2:=by
 obtain⟨L,M',q,d,F',i',h1,h3,h4,h5,h6,h7⟩:=h;exact⟨L,M',q,d,F',i',h1,h3.far fun k hk=>hg.block k (h3.lt k hk) (fun e=>h5 (by injection e with e;exact e ▸ hk)),h4.grown hg h6,h5,h6,qcw h7 hg⟩
theorem qaV:EntersF 95:=fun _ _=>rfl
theorem q74{T0:Tr}(kT:KT T0){p n:Nat}{w:World}{F:Nat->Prop}{items:List It}(h:PgO T0 w F p (.slice none 0 0) items [])(hn:Rep items n T0)(bp bw:Nat)(hV:NwV w F p n bp bw):
  Calls Tryz.prog 94 #[.func (.func 95) #[] #[.pointer (some ⟨bp,0,none⟩),.pointer (some ⟨bw,0,none⟩)]] w fun e w'=>
   (e=.returned (.int .i64 0)/\NwP T0 p w F w.heap.size (needM T0 []) w')\/(e=.returned (.int .i64 9)/\NwN w F w.heap.size (needM T0 []) w'):=by
 refine (q3K 95 _ w qaV (fun w'=>NwP T0 p w F w.heap.size (needM T0 []) w') (fun w'=>NwN w F w.heap.size (needM T0 []) w') ?_ ?_ ?_).mono ?_
 ·rintro w1 w2 b hp hg rfl
  exact hp.grown hg
 ·rintro w1 w2 b ⟨h1,F',h7⟩ hg rfl
  exact⟨h1,F',qcw h7 hg⟩
 ·intro w0 hw0
  have hb:Below w.heap.size w w0:=by rw[hw0];exact qc _ _
  have hE:Erc w0 w.heap.size 0:=by rw[hw0];exact(mha w _).1
  have hz:w0.heap.size=w.heap.size+1:=by rw[hw0];simp
  have hnE:¬F w.heap.size:=fun e=>Nat.lt_irrefl _ (h.lt _ e)
  refine (q9q kT (h.up hb) hn bp bw (hV.fr (Fr.ofBelow hb))).mono ?_
  rintro e w' (⟨rfl,L,M',q,d,F',i',hs,hO,hU,fr⟩|⟨rfl,hs,F',fr⟩)
  ·have hE':Erc w' w.heap.size 0:=(fr.keep _ (by omega) hnE).trans hE
   exact Or.inl ⟨rfl,⟨L,M',q,d,F',i',hs,hO,hU,fr.out hnE (by omega),qef hU hE',((Fr.ofBelow hb).trans fr).alike (fun k hk=>Or.inl hk) (fun k hk=>hk)⟩,hE'⟩
  ·have hE':Erc w' w.heap.size 0:=(fr.keep _ (by omega) hnE).trans hE
   exact Or.inr ⟨rfl,⟨hs,F',((Fr.ofBelow hb).trans fr).alike (fun k hk=>Or.inl hk) (fun k hk=>hk)⟩,hE'⟩
 ·rintro e w' (⟨h1,h2⟩|⟨h1,h2⟩)
  ·exact Or.inl ⟨h1,h2⟩
  ·exact Or.inr ⟨h1,h2⟩
theorem qgN{w w1:World}{b:Nat}{vi:Value}{mp:Nat}{vt:Value}{T:Tr}{items:List It}{n:Nat}(kT:KT T)(hsz:T.size<=2048)(hb1:Below w.heap.size w w1)(hN:PtN w1 w.heap.size b vi mp vt T items n)(o:Obj):
  ∃W,W=((((w1.alloc o).alloc (.cells #[.int .i64 (n:Int)] 3)).alloc (.map #[] 0)).alloc (.cells #[vi,.map (some mp),vt,.pointer (some ⟨w1.heap.size+1+1+1,0,none⟩),.map (some (w1.heap.size+1+1)),.slice none 0 0,.slice none 0 0] 128)).alloc (.cells #[.pointer (some ⟨w1.heap.size+1+1+1,0,none⟩)] 74) /\
   Below w.heap.size w W/\∃F,PgO T W F (w1.heap.size+1+1+1) (.slice none 0 0) items []/\(∀k,F k->w.heap.size<=k)/\NwV W F (w1.heap.size+1+1+1) n (w1.heap.size+1+1+1+1) (w1.heap.size+1):=by
 obtain⟨u1,hu1⟩:∃u,u=w1.alloc o:=⟨_,rfl⟩
 obtain⟨u2,hu2⟩:∃u,u=u1.alloc (.cells #[.int .i64 (n:Int)] 3):=⟨_,rfl⟩
 obtain⟨u3,hu3⟩:∃u,u=u2.alloc (.map #[] 0):=⟨_,rfl⟩
 obtain⟨u4,hu4⟩:∃u,u=u3.alloc (.cells #[vi,.map (some mp),vt,.pointer (some ⟨w1.heap.size+1+1+1,0,none⟩),.map (some (w1.heap.size+1+1)),.slice none 0 0,.slice none 0 0] 128):=⟨_,rfl⟩
 obtain⟨u5,hu5⟩:∃u,u=u4.alloc (.cells #[.pointer (some ⟨w1.heap.size+1+1+1,0,none⟩)] 74):=⟨_,rfl⟩
 refine⟨u5,by rw[hu5,hu4,hu3,hu2,hu1],?_⟩
 have z1:u1.heap.size=w1.heap.size+1:=by rw[hu1];simp
 have z2:u2.heap.size=w1.heap.size+1+1:=by rw[hu2];simp[z1]
 have z3:u3.heap.size=w1.heap.size+1+1+1:=by rw[hu3];simp[z2]
 have z4:u4.heap.size=w1.heap.size+1+1+1+1:=by rw[hu4];simp[z3]
 have b1:Below w1.heap.size w1 u1:=by rw[hu1];exact qc _ _
 have b2:Below u1.heap.size u1 u2:=by rw[hu2];exact qc _ _
 have b3:Below u2.heap.size u2 u3:=by rw[hu3];exact qc _ _
 have b4:Below u3.heap.size u3 u4:=by rw[hu4];exact qc _ _
 have b5:Below u4.heap.size u4 u5:=by rw[hu5];exact qc _ _
 have hB:Below w1.heap.size w1 u5:=qd (qd (qd (qd b1 b2) b3) b4) b5;have v2:u2.heap[w1.heap.size+1]? =some (.cells #[.int .i64 (n:Int)] 3 (0,0)):=by rw[<-z1,hu2];exact(mha u1 _).1
 have hnum:NumS u3 (w1.heap.size+1+1) 0 (fun _=>none):=by rw[<-z2,hu3];exact qau u2
 have v4:u4.heap[w1.heap.size+1+1+1]? =some (.cells #[vi,.map (some mp),vt,.pointer (some ⟨w1.heap.size+1+1+1,0,none⟩),.map (some (w1.heap.size+1+1)),.slice none 0 0,.slice none 0 0] 128 (0,0)):=by
  have:=(mha u3 (.cells #[vi,.map (some mp),vt,.pointer (some ⟨w1.heap.size+1+1+1,0,none⟩),.map (some (w1.heap.size+1+1)),.slice none 0 0,.slice none 0 0] 128)).1
  rw[<-hu4,z3]at this;exact this
 have v5:u5.heap[w1.heap.size+1+1+1+1]? =some (.cells #[.pointer (some ⟨w1.heap.size+1+1+1,0,none⟩)] 74 (0,0)):=by
  have:=(mha u4 (.cells #[.pointer (some ⟨w1.heap.size+1+1+1,0,none⟩)] 74)).1
  rw[<-hu5,z4]at this;exact this
 obtain⟨F,hO,hF⟩:=qj5 (W:=u5) (p:=w1.heap.size+1+1+1) (mn:=w1.heap.size+1+1) kT hsz hN hB (by omega) (by omega) hb1.size ((b5.block _ (by omega)).trans v4) (hnum.far ((b5.block _ (by omega)).trans (b4.block _ (by omega))))
 refine⟨qd hb1 hB,F,hO,fun k hk=>(hF k hk).1,v5,?_,fun e=>?_,fun e=>?_⟩
 ·exact(b5.block _ (by omega)).trans ((b4.block _ (by omega)).trans ((b3.block _ (by omega)).trans v2))
 ·have:=(hF _ e).2;omega
 ·have:=(hF _ e).2;omega
def NewR (w:World) (ts:List Tk) (e:Ending) (w':World):Prop:=Below w.heap.size w w'/\((chkE ts≠0/\e=.returned (.tuple #[.pointer none,.int .i64 (chkE ts:Int)])) \/
 ∃T,KT T/\ts=T.flat/\chkE ts=0/\((needM T []=none/\e=.returned (.tuple #[.pointer none,.int .i64 9])) \/
  ∃(l0:List Nat) (M:Mt) (p:Nat) (F:Nat->Prop) (q:Option Addr) (d:Nat) (items:List It),needM T []=some (l0,M)/\e=.returned (.tuple #[pgV p,.int .i64 0])/\PgO T w' F p (.slice q l0.length d) items M/\US w' F q l0.length d l0/\(∀k,F k->w.heap.size<=k)))
theorem qbc(a:Option Addr)(len cap:Nat)(ts:List Tk)(w:World)(hT:TkSl w a len cap ts):Calls Tryz.prog 67 #[.slice a len cap] w (NewR w ts):=by
 have jp:=q6C a len cap ts w hT;have hmm:=@run_makeMap Tryz.prog;obtain⟨Q,hQ⟩:∃Q:Ending->World->Prop,Q=NewR w ts:=⟨_,rfl⟩
 have HQ:Hid (∀e w',NewR w ts e w'->Q e w'):=fun e w' h=>by rw[hQ];exact h
 rw[<-hQ];clear hT hQ;go_enter Tryz.func67,Tryz.ntmps67
 go_wp2_with fail
 refine jp.mono ?_
 rintro e w1 ⟨hb1,⟨hc,rfl⟩|⟨hc,T,items,n,b,vi,mp,vt,kT,hsz,hts,hN,rfl⟩⟩
 ·have hne:(((chkE ts:Nat):Int) != 0)=true:=by simp;omega
  have HC:Hid _:=hc;have HB1:Hid _:=hb1;clear jp hc hb1 hmm;generalize hE:chkE ts=E at *;have HE:Hid _:=hE;clear hE;go_wp2;exact HQ.out _ _ ⟨qd HB1.out (qd (qc _ _) (qc _ _)),Or.inl ⟨by rw[HE.out];exact HC.out,by rw[HE.out];rfl⟩⟩
 ·obtain⟨ai,ci,rfl⟩:=qM hN.r.ri
  obtain⟨at',ct,rfl⟩:=qM hN.r.rt;obtain⟨W,hW,hbW,F,hO,hF,hV⟩:=qgN kT hsz hb1 hN (.cells #[.slice ai items.length ci,.map (some mp),.slice at' (noTx items.length).length ct] 126);have jc:=q74 kT hO hN.k.rep _ _ hV;have HW:Hid _:=hW;have HBW:Hid _:=hbW;have HF:Hid _:=hF;have HV:Hid _:=hV;have HC:Hid _:=hc;have HTS:Hid _:=hts;have HKT:Hid _:=kT;clear jp hc hb1 hN hts hW hbW hF hV hO kT hsz
  go_wp2_with fail
  rw[<-HW.out];refine jc.mono ?_
  rintro e w6 (⟨rfl,L,M',q,d,F',i',hs,hO,hU,hnE,_,fr⟩|⟨rfl,hs,F',fr⟩)
  ·have hge:∀k,F k\/k=W.heap.size->w.heap.size<=k:=fun k hk=>by
    rcases hk with hk|hk
    ·exact HF.out k hk
    ·have:=HBW.out.size;omega
   have hb6:Below w.heap.size w w6:=HBW.out.trans (fr.below hge HBW.out.size);have hl0:=(aes HV.out.h0).1
   have hc0:w6.cell? ⟨w1.heap.size+1+1+1+1,0,none⟩=some (.pointer (some ⟨w1.heap.size+1+1+1,0,none⟩)):=qb ((fr.keep _ hl0 (fun e=>by rcases e with e|e;exact HV.out.n0 e;omega)).trans HV.out.h0) 0
   have HE:Hid (Q (.returned (.tuple #[pgV (w1.heap.size+1+1+1),.int .i64 0])) w6):=HQ.out _ _ ⟨hb6,Or.inr ⟨T,HKT.out,HTS.out,HC.out,Or.inr ⟨L,M',_,F',q,d,i',hs,rfl,hO,hU,fr.ge hge HBW.out.size⟩⟩⟩;clear jc hs hO hU hnE fr hge hb6 hl0;unfold pgV at HE;go_wp2;exact HE.out
  ·have hge:∀k,F k\/k=W.heap.size->w.heap.size<=k:=fun k hk=>by
    rcases hk with hk|hk
    ·exact HF.out k hk
    ·have:=HBW.out.size;omega
   have hb6:Below w.heap.size w w6:=HBW.out.trans (fr.below hge HBW.out.size);have HE:Hid (Q (.returned (.tuple #[.pointer none,.int .i64 9])) w6):=HQ.out _ _ ⟨hb6,Or.inr ⟨T,HKT.out,HTS.out,HC.out,Or.inl ⟨hs,rfl⟩⟩⟩;clear jc hs fr hge hb6;go_wp2;exact HE.out
def HeldN (M:Mt) (k h:Nat):Prop:=h<2 ^ k/\∀j,h.testBit j=true↔j<k/\SatM [] M 0 j
theorem qfq(M:Mt):HeldN M 0 0:=⟨by decide,fun j=>by simp⟩
theorem qgy{M:Mt}{k h:Nat}(hh:HeldN M k h)(hs:SatM [] M 0 k):HeldN M (k+1) (h ||| 2 ^ k):=by
 refine⟨Nat.or_lt_two_pow (Nat.lt_of_lt_of_le hh.1 (Nat.pow_le_pow_right (by decide) (by omega))) (Nat.pow_lt_pow_right (by decide) (by omega)),fun j=>?_⟩
 rw[Nat.testBit_or,Bool.or_eq_true,hh.2 j,Nat.testBit_two_pow]
 constructor
 ·rintro (⟨h1,h2⟩|h1)
  ·exact⟨by omega,h2⟩
  ·have:k=j:=by simpa using h1
   subst this;exact⟨by omega,hs⟩
 ·rintro⟨h1,h2⟩
  by_cases e:j<k
  ·exact Or.inl ⟨e,h2⟩
  ·have:k=j:=by omega
   exact Or.inr (by simpa using this)
theorem qhL{M:Mt}{k h:Nat}(hh:HeldN M k h)(hs:¬SatM [] M 0 k):HeldN M (k+1) h:=by
 refine⟨Nat.lt_of_lt_of_le hh.1 (Nat.pow_le_pow_right (by decide) (by omega)),fun j=>?_⟩
 rw[hh.2 j]
 constructor
 ·rintro⟨h1,h2⟩
  exact⟨by omega,h2⟩
 ·rintro⟨h1,h2⟩
  by_cases e:j<k
  ·exact⟨e,h2⟩
  ·have:j=k:=by omega
   subst this;exact absurd h2 hs
theorem qgx{M:Mt}{h:Nat}{l:List Nat}(hh:HeldN M M.length h):hoB l h=true↔FinP M l:=by
 show decide (HoP l h)=true↔_
 rw[decide_eq_true_iff];unfold FinP LsP HoP
 constructor
 ·rintro⟨s,hs,hw⟩
  exact⟨s,hs,fun k hk=>((hh.2 k).1 (q2t.1 hw k hk)).2⟩
 ·rintro⟨s,hs,hw⟩
  refine⟨s,hs,q2t.2 fun k hk=>(hh.2 k).2 ⟨?_,hw k hk⟩⟩
  obtain⟨T,_,h2,_⟩:=hw k hk;exact(List.getElem?_eq_some_iff.1 h2).1
theorem PgR.metAt{T0:Tr}{w w2:World}{G:Nat->Prop}{p mn:Nat}{va:Option Addr}{m vc:Nat}{vs:Value}{items:List It}{met:List Nat}{M:Mt}(h:PgR T0 w G p mn (.slice va m vc) vs items met M)(hof:∀f∈M,∃S,KT S/\InC T0 S/\f=S.flat)(hb:Below w.heap.size w w2)(k:Nat)(hk:k<m)(hm:met.length=m):∃g o j S,(∀w',(Instr.indexAt 29 (.slice va m vc) (.int .i64 (k:Int))).run Tryz.prog w'=.ok (.pointer (some ⟨g,o,none⟩)) w')/\w2.cell? ⟨g,o,none⟩=some (.int .i64 ((j:Nat):Int))/\Rep items j S/\KT S/\M[k]? =some S.flat:=by
 have hkm:k<met.length:=by omega
 obtain⟨S,hrep,hMk⟩:=h.met.2 k met[k] (lge hkm);obtain⟨S2,k2,i2,e2⟩:=hof S.flat (List.mem_of_getElem? hMk)
 have hw:S.WF:=by
  obtain⟨S3,h3,h4⟩:=h.po.cov _ hrep.lt;have:=Rep.tree hrep h3
  subst this;rcases q3a h.po.t0.kt h4 with q|q<;>exact q.wf
 have e:=q7f hw k2.wf e2;subst e;rcases (q1b h.row hb).2 with⟨e,e0⟩|⟨g,cap,cur,e,_,hcell,hnc,hcm,hsz,htk⟩
 ·omega
 ·injection e with e1 e2 e3
  subst e1 e3;refine⟨g,k,met[k],S,fun w'=>?_,?_,hrep,k2,hMk⟩
  ·simp[Instr.indexAt,run_underlying Tryz.underlying29,asIntOf,q1c (show (Tryz.prog.info? 3).map (·.size)=some 1 by kernel_rfl),hk,Result.andThen,go_sem,qg]
  ·rw[qb hcell k]
   have:cur.toList[k]? =(encM met)[k]? := by rw[<-htk,List.getElem?_take,if_pos (by omega)]
   rw[<-Array.getElem?_toList,this];simp[encM,hkm]
theorem q80{T0:Tr}{p:Nat}{vs:Value}{w:World}{F:Nat->Prop}{items:List It}{M:Mt}(h:PgO T0 w F p vs items M)(a:Option Addr)(c:Nat)(l:List Nat)(hU:USl w a l.length c l)(sm:Sm l):
  Calls Tryz.prog 51 #[.pointer (some ⟨p,0,none⟩),.slice a l.length c] w fun e w'=>(∃b,e=.returned (.bool b)/\(b=true↔FinP M l))/\Below w.heap.size w w':=by
 have jm:=q2Z h;obtain⟨G,mn,vm,met,hr,hF⟩:=h.ex;have je:=q9j hr.po;have c5:=hr.c5;obtain⟨ma,mc,rfl⟩:=qM hr.row;have hml:met.length=M.length:=hr.met.1;have hfew:M.length<=64:=h.few;have hm64:met.length<=64:=by omega
 have HH:Hid _:=h;have HR:Hid _:=hr;have HU:Hid _:=hU;have HSM:=hiq sm;have HML:=hiq hml;have HC5:Hid _:=c5;clear h hr hF hU sm hml c5;generalize hmm:met.length=m at *;have HM:=hiq hmm;clear hmm;generalize hil0:items.length=il at *;have HIL:=hiq hil0;clear hil0;generalize hn0:l.length=n at *;have HNN:=hiq hn0;clear hn0;go_enter Tryz.func51,Tryz.ntmps51
 go_wp2_with fail
 refine jm.mono ?_
 rintro e w1 ⟨rfl,hw1⟩
 obtain rfl:=hw1.symm
 clear jm
 go_wp2_with fail
 refine je.mono ?_
 rintro e w2 ⟨rfl,⟨bs,hEL,hEb⟩,hb2⟩
 have c5:w2.cell? ⟨p,5,none⟩=some (.slice ma m mc):=qn HC5.out hb2;have HEL:=hiq hEL;have HEB:=hiq hEb;have HB2:=hiq hb2;clear je hEL hEb hb2;go_wp2
 go_loopw [6,21] (fun v i wr=>∃(k hd:Nat),k<=m/\i=.int .i64 (k:Int)/\v=.int .u64 (hd:Int)/\wr=w2/\Hid (HeldN M k hd)) (fun _ i _=>m-(intOf i).toNat)
 case atStart=>exact⟨0,0,Nat.zero_le _,rfl,rfl,rfl,qfq M⟩
 case round=>
  clear c5;obtain⟨k,hd,hk,rfl,rfl,rfl,HHD⟩:=hrel;by_cases hlt:k<m
  ·obtain⟨g,o,j,S,hidx,hcj,hrep,kS,hMk⟩:=HR.out.metAt HH.out.of HB2.out k hlt HM.out
   have hbj:=HEL.out.all j S hrep;have hjl:j<bs.length:=(List.getElem?_eq_some_iff.1 hbj).1
   have hil:bs.length=items.length:=HEL.out.len;have hcb:=HEB.out.cell hbj;have hsat:SatM [] M 0 k↔endB S=true:=(q6c kS hMk).trans ((q1k S).1 kS).symm;have hix:=fun w'=>q4Q w.heap.size il j (by have:=HIL.out;omega) w'
   have HE:Hid (bits BinOp.or IntKind.u64 (hd:Int) (IntKind.u64.wrap (2 ^ k))=((hd ||| 2 ^ k:Nat):Int)):=by
    have h1:(2:Nat) ^ k<2 ^ 64:=Nat.pow_lt_pow_right (by decide) (by omega)
    have h2:hd<2 ^ 64:=Nat.lt_of_lt_of_le HHD.out.1 (Nat.pow_le_pow_right (by decide) (by omega))
    have e3:IntKind.u64.wrap (2 ^ k)=((2 ^ k:Nat):Int):=by
     rw[IntKind.wrap_u64,show ((2:Int) ^ k)=((2 ^ k:Nat):Int) by simp]
     generalize 2 ^ k=y at h1 ⊢
     omega
    show _=_
    rw[e3];exact u64_or_nat _ _ h2 h1
   cases hv:endB S with
   |true=>
    rw[hv]at hcb hsat;have HN:Hid (HeldN M (k+1) (hd ||| 2 ^ k)):=qgy HHD.out (hsat.2 rfl);clear hsat HHD hrep kS hMk hbj hjl hil hv;have hmin:min k 64=k:=by omega
    go_wp2
    go_roundw
    case rel=>exact⟨k+1,hd ||| 2 ^ k,by omega,by go_num,congrArg (Value.int .u64) HE.out,by first|trivial|rfl,HN⟩
    case measure=>simp[intOf]<;>omega
   |false=>
    rw[hv]at hcb hsat;have HN:Hid (HeldN M (k+1) hd):=qhL HHD.out (fun e=>by have:=hsat.1 e;cases this)
    clear hsat HHD hrep kS hMk hbj hjl hil hv HE;go_wp2
    go_roundw
    case rel=>exact⟨k+1,hd,by omega,by go_num,rfl,by first|trivial|rfl,HN⟩
    case measure=>simp[intOf]<;>omega
  ·obtain rfl:k=m:=by omega
   have hdm:HeldN M M.length hd:=by have:=HHD.out;rw[show k=M.length by have:=HML.out;omega]at this;exact this
   have h2:hd<2 ^ 64:=Nat.lt_of_lt_of_le hdm.1 (Nat.pow_le_pow_right (by decide) (by omega))
   have jh:=q2W a l.length c l hd wr ((show USl w a l.length c l by rw[HNN.out];exact HU.out).up HB2.out) HSM.out h2
   rw[HNN.out]at jh;have HFI:Hid (hoB l hd=true↔FinP M l):=qgx hdm;clear HHD hdm h2
   go_wp2_with fail
   refine jh.mono ?_
   rintro e w4 ⟨rfl,hb4⟩
   have HB4:Hid (Below w.heap.size w w4):=qd HB2.out hb4;clear jh hb4;generalize hoB l hd=bb at *;go_wp2;go_ret
   exact⟨⟨bb,rfl,HFI.out⟩,HB4.out⟩
theorem qiG{w w':World}{F:Nat->Prop}{l:List Nat}{e:Ending}(hF:∀k,F k->k<w.heap.size)(h:CloU l w e w'):Below w.heap.size w w'/\∃a c,e=.returned (.slice a l.length c)/\US w' F a l.length c l:=by
 refine⟨h.1,?_⟩
 rcases h.2 with⟨rfl,p,rfl⟩|⟨G,t,_,rfl,hS,h1,h2⟩
 ·exact⟨p,0,rfl,⟨⟨rfl,Nat.le_refl _,Nat.zero_le _,fun m k w hk hm=>absurd hk (by simp at hm;omega),fun k hk=>absurd hk (by simp),fun k hk=>absurd hk (by simp),fun _=>rfl⟩,fun k hk=>absurd hk (by simp)⟩⟩
 ·refine⟨_,G,rfl,hS.usl rfl rfl h1 h2,fun k hk e=>?_⟩
  have:=hF _ e
  simp[adOf,qg]at this
  omega
end Go.Proofs.YtailhklbmenaoaaGreatDoor
