import Derived.Test.YtoioiellaomonaaGreatDoorZ17
set_option maxRecDepth 100000
set_option maxHeartbeats 16000000
namespace Go.Proofs.YtoioiellaomonaaGreatDoor
open Go.RowKit Go.Maps Proofs.Tryz
variable {T0:Tr}{p x bn bl:Nat}{vs:Value}{w w':World}{F:Nat->Prop}{aj:List It}{M:Mt}{R:Rt}{a:Option Addr}
theorem Zh{w1:World}{l:List Nat}{e:Ending}(h:gB T0 p vs x bn bl w F aj M)(hb:Below w.heap.size w w1)(hR:R=some (l,M))(hn:rJ l w1 e w'):cO (gB T0 p vs x bn bl) w F aj M R e w':=by
 rw[hR];exact(QZ (qs T0 p vs x bn bl) ((qs T0 p vs x bn bl).up h hb) hn).after (Fr.au hb) (List.prefix_refl _) (List.prefix_refl _)
theorem qbT(op:Nat)(ho:op=0\/op=4\/op=1\/op=5):uI T0 p vs x bn bl 104 (.leaf (op,0)):=by
 intro w F aj M i h hi;obtain⟨pp,hx⟩:∃pp:Nat,aj[i]? =some ⟨op,pp,-1,-1⟩:=by cases hi with|leaf h=>exact⟨0,h⟩
 obtain⟨F1,_,_,_,_,hrd⟩:=id h;obtain⟨G,rest,hpo⟩:=hrd.pg.part;obtain⟨a,n,cap,g,o,c0,hidx,x0,x1,x2,x3⟩:=(hpo.up (qd w (cu p x bn bl))).at hx;have hbx:=(MapKept.heap_alloc w (cu p x bn bl)).1;have r0:(w.alloc (cu p x bn bl)).cell? ⟨w.heap.size,0,none⟩=some (.pointer (some ⟨p,0,none⟩)):=qc hbx 0;have hb:Below w.heap.size w (dN w p x bn bl op pp (-1) (-1)):=qe (qd _ _) (qd _ _);have HN:Hid (∀e w',rJ (bU (op==0 || op==4)) (dN w p x bn bl op pp (-1) (-1)) e w'->cO (gB T0 p vs x bn bl) w F aj M (bK (.leaf (op,0)) x M) e w'):=fun e w' hn=>Zh h hb (by rw[XZ];rw[if_neg (by dsimp only;omega)]) hn
 have jj:=P6 (dN w p x bn bl op pp (-1) (-1));clear hrd hpo hbx h hx hb hi;generalize bK (.leaf (op,0)) x M=R at *;obtain⟨Q,hQ⟩:∃Q:Ending->World->Prop,Q=cO (gB T0 p vs x bn bl) w F aj M R:=⟨_,rfl⟩
 rw[<-hQ]at HN ⊢;clear hQ;rcases ho with rfl|rfl|rfl|rfl
 ·unfold dN aW cu at *
  unfold iM;dsimp only at *
  go_enter func104,ntmps104
  go_wp2_with fail
  refine jj.mono ?_
  rintro e w1 ⟨q,C,rfl,hU,hb,hf⟩
  have HE:Hid (Q (.returned (.slice q [0].length C)) w1):=HN.out _ _ ⟨q,C,rfl,hU,hb,hf⟩;clear jj hU hb hf;go_wp2;exact HE.out
 ·unfold dN aW cu at *
  unfold iM;dsimp only at *
  go_enter func104,ntmps104
  go_wp2_with fail
  refine jj.mono ?_
  rintro e w1 ⟨q,C,rfl,hU,hb,hf⟩
  have HE:Hid (Q (.returned (.slice q [0].length C)) w1):=HN.out _ _ ⟨q,C,rfl,hU,hb,hf⟩;clear jj hU hb hf;go_wp2;exact HE.out
 ·have HE:Hid _:=HN.out _ _ (QG _ _ (Below.refl _ _))
  unfold dN aW cu at *;unfold iM;dsimp only at *
  clear jj;go_enter func104,ntmps104
  go_wp2;exact HE.out
 ·have HE:Hid _:=HN.out _ _ (QG _ _ (Below.refl _ _))
  unfold dN aW cu at *;unfold iM;dsimp only at *
  clear jj;go_enter func104,ntmps104
  go_wp2;exact HE.out
theorem qaP(xq:x<256)(q:Nat)(hq:q<=7):uI T0 p vs x bn bl 104 (.leaf (2,q)):=by
 intro w F aj M i h hi;obtain⟨op,hop,hx⟩:∃op:Nat,op=2/\aj[i]? =some ⟨op,q,-1,-1⟩:=by cases hi with|leaf h=>exact⟨2,rfl,h⟩
 obtain⟨F1,_,_,_,_,hrd⟩:=id h;obtain⟨G,rest,hpo⟩:=hrd.pg.part;obtain⟨a,n,cap,g,o,c0,hidx,x0,x1,x2,x3⟩:=(hpo.up (qd w (cu p x bn bl))).at hx;obtain⟨m0,jL⟩:=qP h op q (-1) (-1);have hbx:=(dO w (cu p x bn bl)).1;have r0:(w.alloc (cu p x bn bl)).cell? ⟨w.heap.size,0,none⟩=some (.pointer (some ⟨p,0,none⟩)):=qc hbx 0;have s0:=jL.cells;have s1:(dN w p x bn bl op q (-1) (-1)).cell? ⟨w.heap.size+1,1,none⟩=some (.int .u8 q):=qc jL.xb 1;have hb:Below w.heap.size w (dN w p x bn bl op q (-1) (-1)):=qe (qd _ _) (qd _ _);have hhas:=pH p x bn bl q xq hq (dN w p x bn bl op q (-1) (-1));have HN:Hid (∀w1 e w',Below (dN w p x bn bl op q (-1) (-1)).heap.size (dN w p x bn bl op q (-1) (-1)) w1->rJ (bU (x.testBit q)) w1 e w'->cO (gB T0 p vs x bn bl) w F aj M (bK (.leaf (2,q)) x M) e w'):=fun w1 e w' hb1 hn=>Zh h (qe hb hb1) (by rw[XZ];rfl) hn
 clear hrd hpo hbx h hx hb hi m0 jL;generalize bK (.leaf (2,q)) x M=R at *;obtain⟨Q,hQ⟩:∃Q:Ending->World->Prop,Q=cO (gB T0 p vs x bn bl) w F aj M R:=⟨_,rfl⟩
 rw[<-hQ]at HN ⊢;clear hQ;have n0:=aP op 0 (by omega)
 have n1:=aP op 1 (by omega)
 have n4:=aP op 4 (by omega)
 have n5:=aP op 5 (by omega)
 have n2:((op:Int)==2)=true:=by rw[beq_iff_eq];omega
 clear hop;obtain⟨⟨s00,s01,s02,s03⟩,_⟩:=s0;unfold dN aW cu at *;unfold iM at *;dsimp only at *
 go_enter func104,ntmps104
 go_wp2_with fail
 refine hhas.mono ?_
 rintro e w1 ⟨rfl,hb1⟩
 have jw:=pE (x.testBit q) w1;have HB1:Hid _:=hb1;clear hhas hb1;generalize x.testBit q=tb at *
 go_wp2_with fail
 refine jw.mono ?_
 intro e w2 hn;have hn':=hn;obtain⟨qq,C,rfl,_⟩:=hn';have HE:Hid (Q (.returned (.slice qq (bU tb).length C)) w2):=HN.out w1 _ _ HB1.out hn;clear jw hn;go_wp2;exact HE.out
theorem qbQ(xq:x<256)(q:Nat)(hq:q<=7):uI T0 p vs x bn bl 104 (.un (6,0) (.leaf (2,q))):=by
 intro w F aj M i h hi;obtain⟨op,pp,m,hop,hx,hm⟩:∃op pp m:Nat,op=6/\aj[i]? =some ⟨op,pp,(m:Int),-1⟩/\Rep aj m (.leaf (2,q)):=by cases hi with|un h h1 h2=>exact⟨6,0,_,rfl,h,h2⟩
 have hxm:aj[m]? =some ⟨2,q,-1,-1⟩:=by cases hm with|leaf h=>exact h
 obtain⟨m0,jL⟩:=qP h op pp (m:Int) (-1);have hb:Below w.heap.size w (dN w p x bn bl op pp (m:Int) (-1)):=qe (qd _ _) (qd _ _);obtain⟨F1,_,_,_,_,hrd⟩:=id h;obtain⟨G,rest,hpo⟩:=hrd.pg.part;obtain⟨a,n,cap,g,o,c0,hidx,x0,x1,x2,x3⟩:=(hpo.up (qd w (cu p x bn bl))).at hx;obtain⟨a',n',cap',g',o',c0',hidx',_,y1,_,_⟩:=(hpo.up hb).at hxm
 have ea:Value.slice a n cap=.slice a' n' cap':=by
  have e1:=(hpo.up (qd w (cu p x bn bl))).up (qd _ (aW ⟨op,pp,(m:Int),-1⟩))
  have e2:(dN w p x bn bl op pp (m:Int) (-1)).cell? ⟨p,0,none⟩=(w.alloc (cu p x bn bl)).cell? ⟨p,0,none⟩:=by
   obtain⟨vi,mp,vt,hbk,_⟩:=(hpo.up (qd w (cu p x bn bl))).blk;obtain⟨uD,mp',wW,hbk',_⟩:=e1.blk;have hlt:=(lC hbk).1
   have:(dN w p x bn bl op pp (m:Int) (-1)).heap[p]? =(w.alloc (cu p x bn bl)).heap[p]? := (qd (w.alloc (cu p x bn bl)) (aW ⟨op,pp,(m:Int),-1⟩)).block p hlt
   unfold World.cell?;rw[this]
  rw[c0',c0]at e2;injection e2 with e2;exact e2.symm
 injection ea with ea1 ea2 ea3;subst ea1 ea2 ea3;have hbx:=(dO w (cu p x bn bl)).1;have r0:(w.alloc (cu p x bn bl)).cell? ⟨w.heap.size,0,none⟩=some (.pointer (some ⟨p,0,none⟩)):=qc hbx 0;have hk0:=m0.cells;have dP:=jL.cells;have hcc:(dN w p x bn bl op pp (m:Int) (-1)).drew.cell? ⟨p,0,none⟩=some (.slice a n cap):=c0';have xM:(dN w p x bn bl op pp (m:Int) (-1)).drew.cell? ⟨g',o'+1,none⟩=some (.int .u8 q):=y1;have hhas:=pH p x bn bl q xq hq (dN w p x bn bl op pp (m:Int) (-1)).drew;have HN:Hid (∀w1 e w',Below (dN w p x bn bl op pp (m:Int) (-1)).drew.heap.size (dN w p x bn bl op pp (m:Int) (-1)).drew w1->rJ (bU (!x.testBit q)) w1 e w'->cO (gB T0 p vs x bn bl) w F aj M (bK (.un (6,0) (.leaf (2,q))) x M) e w'):=fun w1 e w' hb1 hn=>Zh h (qe hb.drew hb1) (by rw[qg9];rfl) hn
 clear hrd hpo hbx h hx hb hi m0 jL hm hxm;generalize bK (.un (6,0) (.leaf (2,q))) x M=R at *;obtain⟨Q,hQ⟩:∃Q:Ending->World->Prop,Q=cO (gB T0 p vs x bn bl) w F aj M R:=⟨_,rfl⟩
 rw[<-hQ]at HN ⊢;clear hQ;have n0:=aP op 0 (by omega)
 have n1:=aP op 1 (by omega)
 have n4:=aP op 4 (by omega)
 have n5:=aP op 5 (by omega)
 have n2:=aP op 2 (by omega)
 have n6:((op:Int)==6)=true:=by rw[beq_iff_eq];omega
 clear hop;unfold dN aW cu gQ at *;unfold iM at *;dsimp only at *
 have hS0:=And.intro (And.intro hcc xM) hk0;have Zi:=And.intro (And.intro c0' y1) dP;have yR:Hid (∀(wa wb:World)(ad:Addr)(v:Value),wa.cell? ad=some v->Below wa.heap.size wa wb->wb.cell? ad=some v):=fun wa wb ad v h1 h2=>qf h1 h2
 go_enter func104,ntmps104
 go_wp2_with fail
 go_region_held2 (fun w'=>(w'.cell? ⟨p,0,none⟩=some (.slice a n cap)/\w'.cell? ⟨g',o'+1,none⟩=some (.int .u8 q))/\(w'.cell? ⟨w.heap.size,0,none⟩=some (.pointer (some ⟨p,0,none⟩))/\w'.cell? ⟨w.heap.size,1,none⟩=some (.int .u8 x)/\w'.cell? ⟨w.heap.size,2,none⟩=some (.map (some bn))/\w'.cell? ⟨w.heap.size,3,none⟩=some (.map (some bl)))/\w'.cell? ⟨w.heap.size+1,2,none⟩=some (.int .i64 m)/\w'.cell? ⟨w.heap.size+1,3,none⟩=some (.int .i64 (-1))) (first|exact hS0|exact Zi|assumption|fail) (first
  | (go_at_call 126;(with_reducible refine hhas.mono ?_);rintro e w1 ⟨rfl,hb1⟩;have hS1:=And.intro (And.intro (yR.out _ w1 _ _ hS0.1.1 hb1) (yR.out _ w1 _ _ hS0.1.2 hb1)) (And.intro (And.intro (yR.out _ w1 _ _ hS0.2.1.1 hb1) (And.intro (yR.out _ w1 _ _ hS0.2.1.2.1 hb1) (And.intro (yR.out _ w1 _ _ hS0.2.1.2.2.1 hb1) (yR.out _ w1 _ _ hS0.2.1.2.2.2 hb1)))) (And.intro (yR.out _ w1 _ _ hS0.2.2.1 hb1) (yR.out _ w1 _ _ hS0.2.2.2 hb1)));have jw:=pE (!x.testBit q) w1)
  | (revert jw;intro jw;go_at_call 125;(with_reducible refine jw.mono ?_);intro e w2 hn;have hn':=hn;obtain⟨qq,C,rfl,_,hb2,_⟩:=hn';have HE:Hid (Q (.returned (.slice qq (bU (!x.testBit q)).length C)) w2):=(HN.out w1 _ _ hb1 hn);have hS2:=And.intro (And.intro (yR.out _ w2 _ _ hS1.1.1 hb2) (yR.out _ w2 _ _ hS1.1.2 hb2)) (And.intro (And.intro (yR.out _ w2 _ _ hS1.2.1.1 hb2) (And.intro (yR.out _ w2 _ _ hS1.2.1.2.1 hb2) (And.intro (yR.out _ w2 _ _ hS1.2.1.2.2.1 hb2) (yR.out _ w2 _ _ hS1.2.1.2.2.2 hb2)))) (And.intro (yR.out _ w2 _ _ hS1.2.2.1 hb2) (yR.out _ w2 _ _ hS1.2.2.2 hb2))))
  |fail)
 all_goals
  clear hhas jw;go_wp2;exact HE.out
theorem qi8(b:Bool):yI (bU b) 0=b:=by cases b<;>decide
theorem rR(h:gB T0 p vs x bn bl w F aj M)(i:Nat)(S:Tr)(hi:Rep aj i S)(kS:KT S)(pS:bD S=true)(ha:uI T0 p vs x bn bl 80 S):
  Calls prog 144 #[iM p x bn bl,.int .i64 i] w fun e w'=>e=.returned (.bool (jR x S))/\∃F' aI,Fr w w' F F'/\aj <+: aI/\gB T0 p vs x bn bl w' F' aI M:=by
 have hb:=qd w (cu p x bn bl);have hO:=(qs T0 p vs x bn bl).up h hb;have j1:=ha _ F aj M i hO hi;rw[P9 M kS pS]at j1;have hbx:=(dO w (cu p x bn bl)).1;have b0:(w.alloc (cu p x bn bl)).cell? ⟨w.heap.size,0,none⟩=some (.pointer (some ⟨p,0,none⟩)):=qc hbx 0;have b1:(w.alloc (cu p x bn bl)).cell? ⟨w.heap.size,1,none⟩=some (.int .u8 x):=qc hbx 1;have b2:(w.alloc (cu p x bn bl)).cell? ⟨w.heap.size,2,none⟩=some (.map (some bn)):=qc hbx 2;have b3:(w.alloc (cu p x bn bl)).cell? ⟨w.heap.size,3,none⟩=some (.map (some bl)):=qc hbx 3;have HB:Hid (Fr w (w.alloc (cu p x bn bl)) F F):=Fr.au hb;clear h hb hO hbx hi kS pS ha;generalize jR x S=v at *;unfold cu iM at *;go_enter func144,ntmps144
 go_wp2_with fail
 refine j1.mono ?_
 rintro e w1 ⟨F1,i1,dU,hp1,⟨L,M1,q,d,hs,rfl,hU,iF⟩|⟨hs,_⟩⟩
 ·injection hs with hs
  injection hs with hs1 hs2;subst hs1 hs2
  have sm:Sm (bU v):=fun y hy=>by
   unfold bU at hy
   cases v with
   |true=>simp at hy;subst hy;decide
   |false=>simp at hy
  have j2:=q35 q (bU v).length d (bU v) 0 w1 hU.sl sm (by decide)
  rw[qi8]at j2;have HF:Hid (Fr w w1 F F1):=HB.out.trans dU;have HO:Hid _:=iF;clear j1 dU hU iF sm;generalize (bU v).length=n at *
  go_wp2_with fail
  refine j2.mono ?_
  rintro e w2 ⟨rfl,hb2⟩
  have HE:Hid (∃F' aI,Fr w w2 F F'/\aj <+: aI/\gB T0 p vs x bn bl w2 F' aI M):=⟨F1,i1,HF.out.trans (Fr.au hb2),hp1,(qs T0 p vs x bn bl).up HO.out hb2⟩;clear j2 hb2 HF HO;go_wp2;go_ret
  exact⟨rfl,HE.out⟩
 ·cases hs
theorem oU.drew{T0:Tr}{p:Nat}{vs:Value}{x bn bl:Nat}{w:World}{F:Nat->Prop}{aj:List It}{M:Mt}{B:Nat}{o:Obj}{wj:World}{Fj:Nat->Prop}{ij:List It}{Mj:Mt}(h:oU T0 p vs x bn bl w F aj M B o wj Fj ij Mj):oU T0 p vs x bn bl w F aj M B o wj.drew Fj ij Mj :=
 ⟨(qs T0 p vs x bn bl).up h.obj (Below.refl _ _).drew,h.fr.trans (Fr.au (Below.refl _ _).drew),h.hi,h.hM,h.good,h.rb,h.rn,h.xb,h.xn⟩
theorem rS(w:World):Calls prog 75 #[] w fun e w'=>∃q C,e=.returned (.slice q 1 C)/\fH w' q 1 C [0]/\Below w.heap.size w w'/\∀k,k<1->w.heap.size<=(aG q k).block:=P6 w
theorem Zj(m:Nat):jJ [0] m:=BF true m
theorem q5U(c d f:Tr)(kr:KP (.bin (21,0) c d))(kf:KT f)(hc:rX T0 p vs x bn bl false c f)(hd:rX T0 p vs x bn bl false d f):rX T0 p vs x bn bl false (.bin (21,0) c d) f:=by
 intro w F aj M i k av cv s h oL hls hbs hi uJ;obtain⟨op,pp,m,l,hop,hx,hm,hl⟩:∃op pp m l:Nat,op=21/\aj[i]? =some ⟨op,pp,(m:Int),(l:Int)⟩/\Rep aj m c/\Rep aj l d:=by cases hi with|bin h h1 h2 h3 h4=>exact⟨_,0,_,_,rfl,h,h3,h4⟩
 obtain⟨F1,_,_,_,_,hrd⟩:=id h;obtain⟨G,rest,hpo⟩:=hrd.pg.part;obtain⟨a,n,cap,g,o,c0,hidx,x0,x1,x2,x3⟩:=(hpo.up (qd w (cu p x bn bl))).at hx;obtain⟨m0,jL⟩:=qP h op pp (m:Int) (l:Int);have hk0:=m0.cells;have dP:=jL.cells;have dL:Hid (∀w':World,w'.heap[w.heap.size]? =some (cu p x bn bl)->w'.heap[w.heap.size+1]? =some (aW ⟨op,pp,(m:Int),(l:Int)⟩)->gQ p x bn bl w.heap.size (m:Int) (l:Int) w'):=fun w' e1 e2=>⟨⟨qc e1 0,qc e1 1,qc e1 2,qc e1 3⟩,qc e2 2,qc e2 3⟩
 have hbx:=(dO w (cu p x bn bl)).1;have r0:(w.alloc (cu p x bn bl)).cell? ⟨w.heap.size,0,none⟩=some (.pointer (some ⟨p,0,none⟩)):=qc hbx 0;have HI:=aX hi;have ls:nN s:=⟨yU hbs m0.good.few,hls⟩;obtain⟨_,_,kc,kd⟩:=xH kr;have j1:=hc _ _ _ _ m k _ _ s m0.obj (oL.fr m0.fr) hls hbs (hm) (uJ);unfold tV at j1
 skip
 simp only[Bool.false_eq_true,if_false]at j1
 obtain⟨R,hR⟩:∃R,R=dH false (.bin (21,0) c d) s f x M:=⟨_,rfl⟩
 have HR0:Hid (R=bindM (dH false c s f x M) fun a M1=>bindM (dH false d s f x M1) fun b M2=>bF false a b M2):=by show _=_;rw[hR];exact X8 kr s f x M
 rw[<-hR];obtain⟨Q,hQ⟩:∃Q:Ending->World->Prop,Q=cO (gB T0 p vs x bn bl) w F aj M R:=⟨_,rfl⟩
 have HQ:Hid (∀e w',cO (gB T0 p vs x bn bl) w F aj M R e w'->Q e w'):=fun e w' h=>by rw[hQ];exact h
 rw[<-hQ];clear hrd hpo hR hQ hbx h hx hi;have n19:=aP op 19 (by omega)
 have n20:=aP op 20 (by omega)
 have n21:((op:Int)==21)=true:=by rw[beq_iff_eq];omega
 clear hop;unfold tV;simp only[Bool.false_eq_true,if_false]
 unfold dN aW cu gQ at *;unfold iM at *;dsimp only at *
 go_enter func129,ntmps129
 go_wp2_with fail
 go_region_held2 (fun w'=>(w'.cell? ⟨w.heap.size,0,none⟩=some (.pointer (some ⟨p,0,none⟩))/\w'.cell? ⟨w.heap.size,1,none⟩=some (.int .u8 x)/\w'.cell? ⟨w.heap.size,2,none⟩=some (.map (some bn))/\w'.cell? ⟨w.heap.size,3,none⟩=some (.map (some bl)))/\w'.cell? ⟨w.heap.size+1,2,none⟩=some (.int .i64 m)/\w'.cell? ⟨w.heap.size+1,3,none⟩=some (.int .i64 l)) (first|exact hk0|exact dP|assumption|fail) (first
   | (revert j1;intro j1;go_at_call 129;(with_reducible refine j1.mono ?_);rintro e w1 ⟨F1,i1,dU,hp1,⟨L1,M1,q1,d1,hs1,rfl,lZ,iF⟩|⟨hs1,rfl,M1,kX,iF⟩⟩;(case inr=>exact⟨rfl,HQ.out _ _ (m0.bad (by rw[HR0.out,hs1];first|done|rfl) dU hp1 kX iF)⟩);have hr1:=HR0.out;rw[hs1]at hr1;dsimp only[bindM]at hr1;have HR1:Hid _:=hr1;clear hr1;have l1:=IE m0.good kc kf hbs hs1;have m1:=m0.step dU hp1 iF l1.pre l1.good;have hk1:=dL.out _ m1.rb m1.xb;have j2:=hd _ _ _ _ l k _ _ s m1.obj (oL.fr m1.fr) hls (hbs.mono m1.hM.length_le) (hl.pre m1.hi) (uJ.pre m1.hi);(try unfold tV at j2);(try unfold iM at j2);simp only[Bool.false_eq_true,if_false]at j2)
   | (revert j2;intro j2;go_at_call 129;(with_reducible refine j2.mono ?_);rintro e w2 ⟨F2,i2,dA,hp2,⟨L2,M2,q2,d2,hs2,rfl,iY,hO2⟩|⟨hs2,rfl,M2,iO,hO2⟩⟩;(case inr=>exact⟨rfl,HQ.out _ _ (m1.bad (by rw[HR1.out,hs2];first|done|rfl) dA hp2 iO hO2)⟩);have hr2:=HR1.out;rw[hs2]at hr2;dsimp only[bindM]at hr2;have HR2:Hid _:=hr2;clear hr2;have l2:=IE m1.good kd kf (hbs.mono m1.hM.length_le) hs2;have m2:=m1.step dA hp2 hO2 l2.pre l2.good;have hk2:=dL.out _ m2.rb m2.xb;have j3:=qL (qs T0 p vs x bn bl) false m2.obj (lZ.fr dA) (iY) l1.lst l2.lst;unfold vk at j3;simp only[Bool.false_eq_true,if_false]at j3)
   | (revert j3;intro j3;go_at_call 77;(with_reducible refine j3.mono ?_);rintro e w3 ⟨F3,i3,eF,hp3,⟨L3,M3,q3,d3,hs3,rfl,nT,hO3⟩|⟨hs3,rfl,M3,jX,hO3⟩⟩;(case inr=>exact⟨rfl,HQ.out _ _ (m2.bad (by rw[HR2.out,hs3];first|done|rfl) eF hp3 jX hO3)⟩);have hk3:Hid (Q (.returned (.slice q3 L3.length d3)) w3):=(HQ.out _ _ (m2.fin (by rw[HR2.out,hs3];first|done|rfl) eF hp3 nT hO3));have zF:=dL.out _ (qj m2.rb m2.rn eF).1 (qj m2.xb m2.xn eF).1)
   |fail)
 all_goals
  clear j1 j2 j3;go_wp2;exact hk3.out
theorem q6a(c d f:Tr)(kr:KP (.bin (22,0) c d))(kf:KT f)(hS:jD T0 (.bin (aO false,0) d f))(hc:rX T0 p vs x bn bl false c (.bin (aO false,0) d f))(hd:rX T0 p vs x bn bl false d f):rX T0 p vs x bn bl false (.bin (22,0) c d) f:=by
 intro w F aj M i k av cv s h oL hls hbs hi uJ;obtain⟨op,pp,m,l,hop,hx,hm,hl⟩:∃op pp m l:Nat,op=22/\aj[i]? =some ⟨op,pp,(m:Int),(l:Int)⟩/\Rep aj m c/\Rep aj l d:=by cases hi with|bin h h1 h2 h3 h4=>exact⟨_,0,_,_,rfl,h,h3,h4⟩
 obtain⟨F1,_,_,_,_,hrd⟩:=id h;obtain⟨G,rest,hpo⟩:=hrd.pg.part;obtain⟨a,n,cap,g,o,c0,hidx,x0,x1,x2,x3⟩:=(hpo.up (qd w (cu p x bn bl))).at hx;obtain⟨m0,jL⟩:=qP h op pp (m:Int) (l:Int);have hk0:=m0.cells;have dP:=jL.cells;have dL:Hid (∀w':World,w'.heap[w.heap.size]? =some (cu p x bn bl)->w'.heap[w.heap.size+1]? =some (aW ⟨op,pp,(m:Int),(l:Int)⟩)->gQ p x bn bl w.heap.size (m:Int) (l:Int) w'):=fun w' e1 e2=>⟨⟨qc e1 0,qc e1 1,qc e1 2,qc e1 3⟩,qc e2 2,qc e2 3⟩
 have hbx:=(dO w (cu p x bn bl)).1;have r0:(w.alloc (cu p x bn bl)).cell? ⟨w.heap.size,0,none⟩=some (.pointer (some ⟨p,0,none⟩)):=qc hbx 0;have HI:=aX hi;obtain⟨_,_,kc,kd⟩:=xH kr;have HS:=aX hS;have j1:=hd _ _ _ _ l k _ _ s jL.obj (oL.fr jL.fr) hls hbs (hl) (uJ);unfold tV at j1
 skip
 simp only[Bool.false_eq_true,if_false]at j1
 obtain⟨R,hR⟩:∃R,R=dH false (.bin (22,0) c d) s f x M:=⟨_,rfl⟩
 have HR0:Hid (R=bindM (dH false d s f x M) fun a M1=>dH false c a (.bin (aO false,0) d f) x M1):=by show _=_;rw[hR];exact X9 kr s f x M
 rw[<-hR];obtain⟨Q,hQ⟩:∃Q:Ending->World->Prop,Q=cO (gB T0 p vs x bn bl) w F aj M R:=⟨_,rfl⟩
 have HQ:Hid (∀e w',cO (gB T0 p vs x bn bl) w F aj M R e w'->Q e w'):=fun e w' h=>by rw[hQ];exact h
 rw[<-hQ];clear hrd hpo hR hQ hbx h hx hi;have n19:=aP op 19 (by omega)
 have n20:=aP op 20 (by omega)
 have n21:=aP op 21 (by omega)
 have n22:((op:Int)==22)=true:=by rw[beq_iff_eq];omega
 clear hop;unfold tV;simp only[Bool.false_eq_true,if_false]
 unfold dN aW cu gQ at *;unfold iM at *;dsimp only at *
 go_enter func129,ntmps129
 go_wp2_with fail
 refine j1.mono ?_
 rintro e w1 ⟨F1,i1,dU,hp1,⟨L1,M1,q1,d1,hs1,rfl,lZ,iF⟩|⟨hs1,rfl,M1,kX,iF⟩⟩
 case inr=>exact⟨rfl,HQ.out _ _ (jL.bad (by rw[HR0.out,hs1];first|done|rfl) dU hp1 kX iF)⟩
 have hr1:=HR0.out;rw[hs1]at hr1;dsimp only[bindM]at hr1
 have HR1:Hid _:=hr1;have l1:=IE jL.good kd kf hbs hs1;have Kr:=jL.step dU hp1 iF l1.pre l1.good;have m1:=Kr.drew;have hk1:=dL.out _ m1.rb m1.xb;have Kt:=dL.out _ Kr.rb Kr.xb;have lZ:US w1.drew F1 q1 L1.length d1 L1:=lZ.up (Below.refl _ _).drew;have j2:Calls prog 145 #[.pointer (some ⟨p,0,none⟩),.int .u8 17,.int .i64 l,.int .i64 k] w1.drew (pY T0 p vs x bn bl w1.drew F1 i1 M1 (.bin (aO false,0) d f)):=Ko m1.obj fun G rest hpo=>MP hpo 17 (by decide) l k d f (hl.pre m1.hi) (uJ.pre m1.hi) HS.out
 clear j1 hr1 hk0 dP m0
 go_wp2_with fail
 go_region_held2 (fun w'=>(w'.cell? ⟨w.heap.size,0,none⟩=some (.pointer (some ⟨p,0,none⟩))/\w'.cell? ⟨w.heap.size,1,none⟩=some (.int .u8 x)/\w'.cell? ⟨w.heap.size,2,none⟩=some (.map (some bn))/\w'.cell? ⟨w.heap.size,3,none⟩=some (.map (some bl)))/\w'.cell? ⟨w.heap.size+1,2,none⟩=some (.int .i64 m)/\w'.cell? ⟨w.heap.size+1,3,none⟩=some (.int .i64 l)) (first|exact hk1|exact Kt|assumption|fail) (first
   | (revert j2;intro j2;go_at_call 145;(with_reducible refine j2.mono ?_);rintro e w2 ⟨n2,i2,F2,rfl,hp2,yC,dA,hO2⟩;have m2:=m1.step dA hp2 hO2 (List.prefix_refl _) m1.good;have hk2:=dL.out _ m2.rb m2.xb;have HR2:Hid _:=HR1.out;have j3:=hc _ _ _ _ m n2 _ _ L1 m2.obj (lZ.fr dA) l1.len l1.bd (hm.pre m2.hi) (yC);(try unfold tV at j3);(try unfold iM at j3);simp only[Bool.false_eq_true,if_false]at j3)
   | (revert j3;intro j3;go_at_call 129;(with_reducible refine j3.mono ?_);rintro e w3 ⟨F3,i3,eF,hp3,⟨L3,M3,q3,d3,hs3,rfl,nT,hO3⟩|⟨hs3,rfl,M3,jX,hO3⟩⟩;(case inr=>exact⟨rfl,HQ.out _ _ (m2.bad (by rw[HR2.out,hs3];first|done|rfl) eF hp3 jX hO3)⟩);have hk3:Hid (Q (.returned (.slice q3 L3.length d3)) w3):=(HQ.out _ _ (m2.fin (by rw[HR2.out,hs3];first|done|rfl) eF hp3 nT hO3));have zF:=dL.out _ (qj m2.rb m2.rn eF).1 (qj m2.xb m2.xn eF).1)
   |fail)
 all_goals
  clear j2 j3;go_wp2;exact hk3.out
theorem q69(c d f:Tr)(kr:KP (.bin (21,0) c d))(kf:KT f)(hc:rX T0 p vs x bn bl true c f)(hd:rX T0 p vs x bn bl true d f):rX T0 p vs x bn bl true (.bin (21,0) c d) f:=by
 intro w F aj M i k av cv s h oL hls hbs hi uJ;obtain⟨op,pp,m,l,hop,hx,hm,hl⟩:∃op pp m l:Nat,op=21/\aj[i]? =some ⟨op,pp,(m:Int),(l:Int)⟩/\Rep aj m c/\Rep aj l d:=by cases hi with|bin h h1 h2 h3 h4=>exact⟨_,0,_,_,rfl,h,h3,h4⟩
 obtain⟨F1,_,_,_,_,hrd⟩:=id h;obtain⟨G,rest,hpo⟩:=hrd.pg.part;obtain⟨a,n,cap,g,o,c0,hidx,x0,x1,x2,x3⟩:=(hpo.up (qd w (cu p x bn bl))).at hx;obtain⟨m0,jL⟩:=qP h op pp (m:Int) (l:Int);have hk0:=m0.cells;have dP:=jL.cells;have dL:Hid (∀w':World,w'.heap[w.heap.size]? =some (cu p x bn bl)->w'.heap[w.heap.size+1]? =some (aW ⟨op,pp,(m:Int),(l:Int)⟩)->gQ p x bn bl w.heap.size (m:Int) (l:Int) w'):=fun w' e1 e2=>⟨⟨qc e1 0,qc e1 1,qc e1 2,qc e1 3⟩,qc e2 2,qc e2 3⟩
 have hbx:=(dO w (cu p x bn bl)).1;have r0:(w.alloc (cu p x bn bl)).cell? ⟨w.heap.size,0,none⟩=some (.pointer (some ⟨p,0,none⟩)):=qc hbx 0;have HI:=aX hi;have ls:nN s:=⟨yU hbs m0.good.few,hls⟩;obtain⟨_,_,kc,kd⟩:=xH kr;have j1:=hc _ _ _ _ m k _ _ s m0.obj (oL.fr m0.fr) hls hbs (hm) (uJ);unfold tV at j1
 skip
 simp only[if_true]at j1
 obtain⟨R,hR⟩:∃R,R=dH true (.bin (21,0) c d) s f x M:=⟨_,rfl⟩
 have HR0:Hid (R=bindM (dH true c s f x M) fun a M1=>bindM (dH true d s f x M1) fun b M2=>bF true a b M2):=by show _=_;rw[hR];exact X8 kr s f x M
 rw[<-hR];obtain⟨Q,hQ⟩:∃Q:Ending->World->Prop,Q=cO (gB T0 p vs x bn bl) w F aj M R:=⟨_,rfl⟩
 have HQ:Hid (∀e w',cO (gB T0 p vs x bn bl) w F aj M R e w'->Q e w'):=fun e w' h=>by rw[hQ];exact h
 rw[<-hQ];clear hrd hpo hR hQ hbx h hx hi;have n19:=aP op 19 (by omega)
 have n20:=aP op 20 (by omega)
 have n21:((op:Int)==21)=true:=by rw[beq_iff_eq];omega
 clear hop;unfold tV;simp only[if_true]
 unfold dN aW cu gQ at *;unfold iM at *;dsimp only at *
 go_enter func130,ntmps130
 go_wp2_with fail
 go_region_held2 (fun w'=>(w'.cell? ⟨w.heap.size,0,none⟩=some (.pointer (some ⟨p,0,none⟩))/\w'.cell? ⟨w.heap.size,1,none⟩=some (.int .u8 x)/\w'.cell? ⟨w.heap.size,2,none⟩=some (.map (some bn))/\w'.cell? ⟨w.heap.size,3,none⟩=some (.map (some bl)))/\w'.cell? ⟨w.heap.size+1,2,none⟩=some (.int .i64 m)/\w'.cell? ⟨w.heap.size+1,3,none⟩=some (.int .i64 l)) (first|exact hk0|exact dP|assumption|fail) (first
   | (revert j1;intro j1;go_at_call 130;(with_reducible refine j1.mono ?_);rintro e w1 ⟨F1,i1,dU,hp1,⟨L1,M1,q1,d1,hs1,rfl,lZ,iF⟩|⟨hs1,rfl,M1,kX,iF⟩⟩;(case inr=>exact⟨rfl,HQ.out _ _ (m0.bad (by rw[HR0.out,hs1];first|done|rfl) dU hp1 kX iF)⟩);have hr1:=HR0.out;rw[hs1]at hr1;dsimp only[bindM]at hr1;have HR1:Hid _:=hr1;clear hr1;have l1:=IE m0.good kc kf hbs hs1;have m1:=m0.step dU hp1 iF l1.pre l1.good;have hk1:=dL.out _ m1.rb m1.xb;have j2:=hd _ _ _ _ l k _ _ s m1.obj (oL.fr m1.fr) hls (hbs.mono m1.hM.length_le) (hl.pre m1.hi) (uJ.pre m1.hi);(try unfold tV at j2);(try unfold iM at j2);simp only[if_true]at j2)
   | (revert j2;intro j2;go_at_call 130;(with_reducible refine j2.mono ?_);rintro e w2 ⟨F2,i2,dA,hp2,⟨L2,M2,q2,d2,hs2,rfl,iY,hO2⟩|⟨hs2,rfl,M2,iO,hO2⟩⟩;(case inr=>exact⟨rfl,HQ.out _ _ (m1.bad (by rw[HR1.out,hs2];first|done|rfl) dA hp2 iO hO2)⟩);have hr2:=HR1.out;rw[hs2]at hr2;dsimp only[bindM]at hr2;have HR2:Hid _:=hr2;clear hr2;have l2:=IE m1.good kd kf (hbs.mono m1.hM.length_le) hs2;have m2:=m1.step dA hp2 hO2 l2.pre l2.good;have hk2:=dL.out _ m2.rb m2.xb;have j3:=qL (qs T0 p vs x bn bl) true m2.obj (lZ.fr dA) (iY) l1.lst l2.lst;unfold vk at j3;simp only[if_true]at j3)
   | (revert j3;intro j3;go_at_call 76;(with_reducible refine j3.mono ?_);rintro e w3 ⟨F3,i3,eF,hp3,⟨L3,M3,q3,d3,hs3,rfl,nT,hO3⟩|⟨hs3,rfl,M3,jX,hO3⟩⟩;(case inr=>exact⟨rfl,HQ.out _ _ (m2.bad (by rw[HR2.out,hs3];first|done|rfl) eF hp3 jX hO3)⟩);have hk3:Hid (Q (.returned (.slice q3 L3.length d3)) w3):=(HQ.out _ _ (m2.fin (by rw[HR2.out,hs3];first|done|rfl) eF hp3 nT hO3));have zF:=dL.out _ (qj m2.rb m2.rn eF).1 (qj m2.xb m2.xn eF).1)
   |fail)
 all_goals
  clear j1 j2 j3;go_wp2;exact hk3.out
theorem q75(c d f:Tr)(kr:KP (.bin (22,0) c d))(kf:KT f)(hS:jD T0 (.bin (aO true,0) d f))(hc:rX T0 p vs x bn bl true c (.bin (aO true,0) d f))(hd:rX T0 p vs x bn bl true d f):rX T0 p vs x bn bl true (.bin (22,0) c d) f:=by
 intro w F aj M i k av cv s h oL hls hbs hi uJ;obtain⟨op,pp,m,l,hop,hx,hm,hl⟩:∃op pp m l:Nat,op=22/\aj[i]? =some ⟨op,pp,(m:Int),(l:Int)⟩/\Rep aj m c/\Rep aj l d:=by cases hi with|bin h h1 h2 h3 h4=>exact⟨_,0,_,_,rfl,h,h3,h4⟩
 obtain⟨F1,_,_,_,_,hrd⟩:=id h;obtain⟨G,rest,hpo⟩:=hrd.pg.part;obtain⟨a,n,cap,g,o,c0,hidx,x0,x1,x2,x3⟩:=(hpo.up (qd w (cu p x bn bl))).at hx;obtain⟨m0,jL⟩:=qP h op pp (m:Int) (l:Int);have hk0:=m0.cells;have dP:=jL.cells;have dL:Hid (∀w':World,w'.heap[w.heap.size]? =some (cu p x bn bl)->w'.heap[w.heap.size+1]? =some (aW ⟨op,pp,(m:Int),(l:Int)⟩)->gQ p x bn bl w.heap.size (m:Int) (l:Int) w'):=fun w' e1 e2=>⟨⟨qc e1 0,qc e1 1,qc e1 2,qc e1 3⟩,qc e2 2,qc e2 3⟩
 have hbx:=(dO w (cu p x bn bl)).1;have r0:(w.alloc (cu p x bn bl)).cell? ⟨w.heap.size,0,none⟩=some (.pointer (some ⟨p,0,none⟩)):=qc hbx 0;have HI:=aX hi;obtain⟨_,_,kc,kd⟩:=xH kr;have HS:=aX hS;have j1:=hd _ _ _ _ l k _ _ s jL.obj (oL.fr jL.fr) hls hbs (hl) (uJ);unfold tV at j1
 skip
 simp only[if_true]at j1
 obtain⟨R,hR⟩:∃R,R=dH true (.bin (22,0) c d) s f x M:=⟨_,rfl⟩
 have HR0:Hid (R=bindM (dH true d s f x M) fun a M1=>dH true c a (.bin (aO true,0) d f) x M1):=by show _=_;rw[hR];exact X9 kr s f x M
 rw[<-hR];obtain⟨Q,hQ⟩:∃Q:Ending->World->Prop,Q=cO (gB T0 p vs x bn bl) w F aj M R:=⟨_,rfl⟩
 have HQ:Hid (∀e w',cO (gB T0 p vs x bn bl) w F aj M R e w'->Q e w'):=fun e w' h=>by rw[hQ];exact h
 rw[<-hQ];clear hrd hpo hR hQ hbx h hx hi;have n19:=aP op 19 (by omega)
 have n20:=aP op 20 (by omega)
 have n21:=aP op 21 (by omega)
 have n22:((op:Int)==22)=true:=by rw[beq_iff_eq];omega
 clear hop;unfold tV;simp only[if_true]
 unfold dN aW cu gQ at *;unfold iM at *;dsimp only at *
 go_enter func130,ntmps130
 go_wp2_with fail
 refine j1.mono ?_
 rintro e w1 ⟨F1,i1,dU,hp1,⟨L1,M1,q1,d1,hs1,rfl,lZ,iF⟩|⟨hs1,rfl,M1,kX,iF⟩⟩
 case inr=>exact⟨rfl,HQ.out _ _ (jL.bad (by rw[HR0.out,hs1];first|done|rfl) dU hp1 kX iF)⟩
 have hr1:=HR0.out;rw[hs1]at hr1;dsimp only[bindM]at hr1
 have HR1:Hid _:=hr1;have l1:=IE jL.good kd kf hbs hs1;have Kr:=jL.step dU hp1 iF l1.pre l1.good;have m1:=Kr.drew;have hk1:=dL.out _ m1.rb m1.xb;have Kt:=dL.out _ Kr.rb Kr.xb;have lZ:US w1.drew F1 q1 L1.length d1 L1:=lZ.up (Below.refl _ _).drew;have j2:Calls prog 145 #[.pointer (some ⟨p,0,none⟩),.int .u8 18,.int .i64 l,.int .i64 k] w1.drew (pY T0 p vs x bn bl w1.drew F1 i1 M1 (.bin (aO true,0) d f)):=Ko m1.obj fun G rest hpo=>MP hpo 18 (by decide) l k d f (hl.pre m1.hi) (uJ.pre m1.hi) HS.out
 clear j1 hr1 hk0 dP m0
 go_wp2_with fail
 go_region_held2 (fun w'=>(w'.cell? ⟨w.heap.size,0,none⟩=some (.pointer (some ⟨p,0,none⟩))/\w'.cell? ⟨w.heap.size,1,none⟩=some (.int .u8 x)/\w'.cell? ⟨w.heap.size,2,none⟩=some (.map (some bn))/\w'.cell? ⟨w.heap.size,3,none⟩=some (.map (some bl)))/\w'.cell? ⟨w.heap.size+1,2,none⟩=some (.int .i64 m)/\w'.cell? ⟨w.heap.size+1,3,none⟩=some (.int .i64 l)) (first|exact hk1|exact Kt|assumption|fail) (first
   | (revert j2;intro j2;go_at_call 145;(with_reducible refine j2.mono ?_);rintro e w2 ⟨n2,i2,F2,rfl,hp2,yC,dA,hO2⟩;have m2:=m1.step dA hp2 hO2 (List.prefix_refl _) m1.good;have hk2:=dL.out _ m2.rb m2.xb;have HR2:Hid _:=HR1.out;have j3:=hc _ _ _ _ m n2 _ _ L1 m2.obj (lZ.fr dA) l1.len l1.bd (hm.pre m2.hi) (yC);(try unfold tV at j3);(try unfold iM at j3);simp only[if_true]at j3)
   | (revert j3;intro j3;go_at_call 130;(with_reducible refine j3.mono ?_);rintro e w3 ⟨F3,i3,eF,hp3,⟨L3,M3,q3,d3,hs3,rfl,nT,hO3⟩|⟨hs3,rfl,M3,jX,hO3⟩⟩;(case inr=>exact⟨rfl,HQ.out _ _ (m2.bad (by rw[HR2.out,hs3];first|done|rfl) eF hp3 jX hO3)⟩);have hk3:Hid (Q (.returned (.slice q3 L3.length d3)) w3):=(HQ.out _ _ (m2.fin (by rw[HR2.out,hs3];first|done|rfl) eF hp3 nT hO3));have zF:=dL.out _ (qj m2.rb m2.rn eF).1 (qj m2.xb m2.xn eF).1)
   |fail)
 all_goals
  clear j2 j3;go_wp2;exact hk3.out
theorem q5V(c f:Tr)(kr:KP (.un (23,0) c))(kf:KT f)(hS:jD T0 (.bin (aO false,0) (.un (23,0) c) f))(hc:rX T0 p vs x bn bl false c (.bin (aO false,0) (.un (23,0) c) f)):rX T0 p vs x bn bl false (.un (23,0) c) f:=by
 intro w F aj M i k av cv s h oL hls hbs hi uJ;obtain⟨op,pp,m,hop,hx,hm⟩:∃op pp m:Nat,op=23/\aj[i]? =some ⟨op,pp,(m:Int),-1⟩/\Rep aj m c:=by cases hi with|un h h1 h2=>exact⟨_,0,_,rfl,h,h2⟩
 obtain⟨F1,_,_,_,_,hrd⟩:=id h;obtain⟨G,rest,hpo⟩:=hrd.pg.part;obtain⟨a,n,cap,g,o,c0,hidx,x0,x1,x2,x3⟩:=(hpo.up (qd w (cu p x bn bl))).at hx;obtain⟨m0,jL⟩:=qP h op pp (m:Int) (-1);have hk0:=m0.cells;have dP:=jL.cells;have dL:Hid (∀w':World,w'.heap[w.heap.size]? =some (cu p x bn bl)->w'.heap[w.heap.size+1]? =some (aW ⟨op,pp,(m:Int),(-1)⟩)->gQ p x bn bl w.heap.size (m:Int) (-1) w'):=fun w' e1 e2=>⟨⟨qc e1 0,qc e1 1,qc e1 2,qc e1 3⟩,qc e2 2,qc e2 3⟩
 have hbx:=(dO w (cu p x bn bl)).1;have r0:(w.alloc (cu p x bn bl)).cell? ⟨w.heap.size,0,none⟩=some (.pointer (some ⟨p,0,none⟩)):=qc hbx 0;have HI:=aX hi;have ls:nN s:=⟨yU hbs m0.good.few,hls⟩
 have kc:KP c:=by
  rcases kC kr with⟨_,⟨h6,_⟩|⟨h6,_⟩|⟨_,h6⟩⟩
  ·cases h6
  ·cases h6
  ·exact h6
 have HS:=aX hS;have Zk:Hid (KT (.bin (aO false,0) (.un (23,0) c) f)):=zT kr kf false;have j1:Calls prog 145 #[.pointer (some ⟨p,0,none⟩),.int .u8 17,.int .i64 i,.int .i64 k] (dN w p x bn bl op pp (m:Int) (-1)).drew (pY T0 p vs x bn bl (dN w p x bn bl op pp (m:Int) (-1)).drew F aj M (.bin (aO false,0) (.un (23,0) c) f)):=Ko m0.obj fun G rest hpo=>MP hpo 17 (by decide) i k (.un (23,0) c) f (HI.out.pre m0.hi) (uJ.pre m0.hi) HS.out
 obtain⟨R,hR⟩:∃R,R=dH false (.un (23,0) c) s f x M:=⟨_,rfl⟩
 have HR0:Hid (R=bindM (dH false c [] (.bin (aO false,0) (.un (23,0) c) f) x M) fun a M1=>bF false s a M1):=by show _=_;rw[hR];exact X7 kr s f x M
 rw[<-hR];obtain⟨Q,hQ⟩:∃Q:Ending->World->Prop,Q=cO (gB T0 p vs x bn bl) w F aj M R:=⟨_,rfl⟩
 have HQ:Hid (∀e w',cO (gB T0 p vs x bn bl) w F aj M R e w'->Q e w'):=fun e w' h=>by rw[hQ];exact h
 rw[<-hQ];clear hrd hpo hR hQ hbx h hx hi;have n19:=aP op 19 (by omega)
 have n20:=aP op 20 (by omega)
 have n21:=aP op 21 (by omega)
 have n22:=aP op 22 (by omega)
 clear hop;unfold tV;simp only[Bool.false_eq_true,if_false]
 unfold dN aW cu gQ at *;unfold iM at *;dsimp only at *
 go_enter func129,ntmps129
 go_wp2_with fail
 go_region_held2 (fun w'=>(w'.cell? ⟨w.heap.size,0,none⟩=some (.pointer (some ⟨p,0,none⟩))/\w'.cell? ⟨w.heap.size,1,none⟩=some (.int .u8 x)/\w'.cell? ⟨w.heap.size,2,none⟩=some (.map (some bn))/\w'.cell? ⟨w.heap.size,3,none⟩=some (.map (some bl)))/\w'.cell? ⟨w.heap.size+1,2,none⟩=some (.int .i64 m)/\w'.cell? ⟨w.heap.size+1,3,none⟩=some (.int .i64 (-1))) (first|exact hk0|exact dP|assumption|fail) (first
   | (revert j1;intro j1;go_at_call 145;(with_reducible refine j1.mono ?_);rintro e w1 ⟨n1,i1,F1,rfl,hp1,tX,dU,iF⟩;have m1:=m0.step dU hp1 iF (List.prefix_refl _) m0.good;have hk1:=dL.out _ m1.rb m1.xb;have HR1:Hid _:=HR0.out;have j2:=hc _ _ _ _ m n1 _ _ [] m1.obj (mh _ _) (by simp) (BF false _) (hm.pre m1.hi) (tX);(try unfold tV at j2);(try unfold iM at j2);simp only[Bool.false_eq_true,if_false,List.length_nil]at j2)
   | (revert j2;intro j2;go_at_call 129;(with_reducible refine j2.mono ?_);rintro e w2 ⟨F2,i2,dA,hp2,⟨L2,M2,q2,d2,hs2,rfl,iY,hO2⟩|⟨hs2,rfl,M2,iO,hO2⟩⟩;(case inr=>exact⟨rfl,HQ.out _ _ (m1.bad (by rw[HR1.out,hs2];first|done|rfl) dA hp2 iO hO2)⟩);have hr2:=HR1.out;rw[hs2]at hr2;dsimp only[bindM]at hr2;have HR2:Hid _:=hr2;clear hr2;have l2:=IE m1.good kc Zk.out (BF false _) hs2;have m2:=m1.step dA hp2 hO2 l2.pre l2.good;have hk2:=dL.out _ m2.rb m2.xb;have j3:=qL (qs T0 p vs x bn bl) false m2.obj (oL.fr m2.fr) (iY) ls l2.lst;unfold vk at j3;simp only[Bool.false_eq_true,if_false]at j3)
   | (revert j3;intro j3;go_at_call 77;(with_reducible refine j3.mono ?_);rintro e w3 ⟨F3,i3,eF,hp3,⟨L3,M3,q3,d3,hs3,rfl,nT,hO3⟩|⟨hs3,rfl,M3,jX,hO3⟩⟩;(case inr=>exact⟨rfl,HQ.out _ _ (m2.bad (by rw[HR2.out,hs3];first|done|rfl) eF hp3 jX hO3)⟩);have hk3:Hid (Q (.returned (.slice q3 L3.length d3)) w3):=(HQ.out _ _ (m2.fin (by rw[HR2.out,hs3];first|done|rfl) eF hp3 nT hO3));have zF:=dL.out _ (qj m2.rb m2.rn eF).1 (qj m2.xb m2.xn eF).1)
   |fail)
 all_goals
  clear j1 j2 j3;go_wp2;exact hk3.out
theorem q6b(c f:Tr)(kr:KP (.un (23,0) c))(kf:KT f)(hS:jD T0 (.bin (aO true,0) (.un (23,0) c) f))(hc:rX T0 p vs x bn bl true c (.bin (aO true,0) (.un (23,0) c) f)):rX T0 p vs x bn bl true (.un (23,0) c) f:=by
 intro w F aj M i k av cv s h oL hls hbs hi uJ;obtain⟨op,pp,m,hop,hx,hm⟩:∃op pp m:Nat,op=23/\aj[i]? =some ⟨op,pp,(m:Int),-1⟩/\Rep aj m c:=by cases hi with|un h h1 h2=>exact⟨_,0,_,rfl,h,h2⟩
 obtain⟨F1,_,_,_,_,hrd⟩:=id h;obtain⟨G,rest,hpo⟩:=hrd.pg.part;obtain⟨a,n,cap,g,o,c0,hidx,x0,x1,x2,x3⟩:=(hpo.up (qd w (cu p x bn bl))).at hx;obtain⟨m0,jL⟩:=qP h op pp (m:Int) (-1);have hk0:=m0.cells;have dP:=jL.cells;have dL:Hid (∀w':World,w'.heap[w.heap.size]? =some (cu p x bn bl)->w'.heap[w.heap.size+1]? =some (aW ⟨op,pp,(m:Int),(-1)⟩)->gQ p x bn bl w.heap.size (m:Int) (-1) w'):=fun w' e1 e2=>⟨⟨qc e1 0,qc e1 1,qc e1 2,qc e1 3⟩,qc e2 2,qc e2 3⟩
 have hbx:=(dO w (cu p x bn bl)).1;have r0:(w.alloc (cu p x bn bl)).cell? ⟨w.heap.size,0,none⟩=some (.pointer (some ⟨p,0,none⟩)):=qc hbx 0;have HI:=aX hi;have ls:nN s:=⟨yU hbs m0.good.few,hls⟩
 have kc:KP c:=by
  rcases kC kr with⟨_,⟨h6,_⟩|⟨h6,_⟩|⟨_,h6⟩⟩
  ·cases h6
  ·cases h6
  ·exact h6
 have HS:=aX hS;have Zk:Hid (KT (.bin (aO true,0) (.un (23,0) c) f)):=zT kr kf true;have j1:=rS (dN w p x bn bl op pp (m:Int) (-1)).drew;obtain⟨R,hR⟩:∃R,R=dH true (.un (23,0) c) s f x M:=⟨_,rfl⟩
 have HR0:Hid (R=bindM (dH true c [0] (.bin (aO true,0) (.un (23,0) c) f) x M) fun a M1=>bF true s a M1):=by show _=_;rw[hR];exact X7 kr s f x M
 rw[<-hR];obtain⟨Q,hQ⟩:∃Q:Ending->World->Prop,Q=cO (gB T0 p vs x bn bl) w F aj M R:=⟨_,rfl⟩
 have HQ:Hid (∀e w',cO (gB T0 p vs x bn bl) w F aj M R e w'->Q e w'):=fun e w' h=>by rw[hQ];exact h
 rw[<-hQ];clear hrd hpo hR hQ hbx h hx hi;have n19:=aP op 19 (by omega)
 have n20:=aP op 20 (by omega)
 have n21:=aP op 21 (by omega)
 have n22:=aP op 22 (by omega)
 clear hop;unfold tV;simp only[if_true]
 unfold dN aW cu gQ at *;unfold iM at *;dsimp only at *
 go_enter func130,ntmps130
 go_wp2_with fail
 go_region_held2 (fun w'=>(w'.cell? ⟨w.heap.size,0,none⟩=some (.pointer (some ⟨p,0,none⟩))/\w'.cell? ⟨w.heap.size,1,none⟩=some (.int .u8 x)/\w'.cell? ⟨w.heap.size,2,none⟩=some (.map (some bn))/\w'.cell? ⟨w.heap.size,3,none⟩=some (.map (some bl)))/\w'.cell? ⟨w.heap.size+1,2,none⟩=some (.int .i64 m)/\w'.cell? ⟨w.heap.size+1,3,none⟩=some (.int .i64 (-1))) (first|exact hk0|exact dP|assumption|fail) (first
   | (revert j1;intro j1;go_at_call 75;(with_reducible refine j1.mono ?_);rintro e w1 ⟨q1,C1,rfl,lZ,hb1,hf1⟩;have m1:=m0.step (Fr.au hb1) (List.prefix_refl _) ((qs T0 p vs x bn bl).up m0.obj hb1) (List.prefix_refl _) m0.good;have lZ:US w1 F q1 [0].length C1 [0]:=(⟨lZ,fun k hk hF=>(by have:=hf1 k hk;have:=(qs T0 p vs x bn bl).lt m0.obj _ hF;omega)⟩);have hk1:=dL.out _ m1.rb m1.xb;have HR1:Hid _:=HR0.out;have j2:Calls prog 145 #[.pointer (some ⟨p,0,none⟩),.int .u8 18,.int .i64 i,.int .i64 k] w1 (pY T0 p vs x bn bl w1 F aj M (.bin (aO true,0) (.un (23,0) c) f)):=Ko m1.obj fun G rest hpo=>MP hpo 18 (by decide) i k (.un (23,0) c) f (HI.out.pre m1.hi) (uJ.pre m1.hi) HS.out)
   | (revert j2;intro j2;go_at_call 145;(with_reducible refine j2.mono ?_);rintro e w2 ⟨n2,i2,F2,rfl,hp2,yC,dA,hO2⟩;have m2:=m1.step dA hp2 hO2 (List.prefix_refl _) m1.good;have hk2:=dL.out _ m2.rb m2.xb;have HR2:Hid _:=HR1.out;have j3:=hc _ _ _ _ m n2 _ _ [0] m2.obj (lZ.fr dA) (by simp) (Zj _) (hm.pre m2.hi) (yC);(try unfold tV at j3);(try unfold iM at j3);simp only[if_true,List.length_cons,List.length_nil,Nat.zero_add]at j3)
   | (revert j3;intro j3;go_at_call 130;(with_reducible refine j3.mono ?_);rintro e w3 ⟨F3,i3,eF,hp3,⟨L3,M3,q3,d3,hs3,rfl,nT,hO3⟩|⟨hs3,rfl,M3,jX,hO3⟩⟩;(case inr=>exact⟨rfl,HQ.out _ _ (m2.bad (by rw[HR2.out,hs3];first|done|rfl) eF hp3 jX hO3)⟩);have hr3:=HR2.out;rw[hs3]at hr3;dsimp only[bindM]at hr3;have HR3:Hid _:=hr3;clear hr3;have l3:=IE m2.good kc Zk.out (Zj _) hs3;have m3:=m2.step eF hp3 hO3 l3.pre l3.good;have hk3:=dL.out _ m3.rb m3.xb;have j4:=qL (qs T0 p vs x bn bl) true m3.obj (oL.fr m3.fr) (nT) ls l3.lst;unfold vk at j4;simp only[if_true]at j4)
   | (revert j4;intro j4;go_at_call 76;(with_reducible refine j4.mono ?_);rintro e w4 ⟨F4,i4,nK,rV,⟨L4,M4,q4,d4,hs4,rfl,BQ,hO4⟩|⟨hs4,rfl,M4,tN,hO4⟩⟩;(case inr=>exact⟨rfl,HQ.out _ _ (m3.bad (by rw[HR3.out,hs4];first|done|rfl) nK rV tN hO4)⟩);have hk4:Hid (Q (.returned (.slice q4 L4.length d4)) w4):=(HQ.out _ _ (m3.fin (by rw[HR3.out,hs4];first|done|rfl) nK rV BQ hO4));have Q9:=dL.out _ (qj m3.rb m3.rn nK).1 (qj m3.xb m3.xn nK).1)
   |fail)
 all_goals
  clear j1 j2 j3 j4;go_wp2;exact hk4.out
theorem q5X(c f:Tr)(kr:KP (.un (20,0) c))(_:KT f)(hc:uI T0 p vs x bn bl 80 c):rX T0 p vs x bn bl false (.un (20,0) c) f:=by
 intro w F aj M i k av cv s h oL hls hbs hi uJ;obtain⟨op,pp,m,hop,hx,hm⟩:∃op pp m:Nat,op=20/\aj[i]? =some ⟨op,pp,(m:Int),-1⟩/\Rep aj m c:=by cases hi with|un h h1 h2=>exact⟨_,0,_,rfl,h,h2⟩
 obtain⟨F1,_,_,_,_,hrd⟩:=id h;obtain⟨G,rest,hpo⟩:=hrd.pg.part;obtain⟨a,n,cap,g,o,c0,hidx,x0,x1,x2,x3⟩:=(hpo.up (qd w (cu p x bn bl))).at hx;obtain⟨m0,jL⟩:=qP h op pp (m:Int) (-1);have hk0:=m0.cells;have dP:=jL.cells;have dL:Hid (∀w':World,w'.heap[w.heap.size]? =some (cu p x bn bl)->w'.heap[w.heap.size+1]? =some (aW ⟨op,pp,(m:Int),(-1)⟩)->gQ p x bn bl w.heap.size (m:Int) (-1) w'):=fun w' e1 e2=>⟨⟨qc e1 0,qc e1 1,qc e1 2,qc e1 3⟩,qc e2 2,qc e2 3⟩
 have hbx:=(dO w (cu p x bn bl)).1;have r0:(w.alloc (cu p x bn bl)).cell? ⟨w.heap.size,0,none⟩=some (.pointer (some ⟨p,0,none⟩)):=qc hbx 0;have HI:=aX hi;have ls:nN s:=⟨yU hbs m0.good.few,hls⟩
 have kc:KT c:=by
  rcases kC kr with⟨_,⟨h6,_⟩|⟨_,h6⟩|⟨h6,_⟩⟩
  ·cases h6
  ·exact h6
  ·cases h6
 have j1:=hc _ F aj M m jL.obj hm;obtain⟨R,hR⟩:∃R,R=dH false (.un (20,0) c) s f x M:=⟨_,rfl⟩
 have HR0:Hid (R=bindM (bK c x M) fun a M1=>bF true a s M1):=by show _=_;rw[hR];exact UD kr s f x M
 rw[<-hR];obtain⟨Q,hQ⟩:∃Q:Ending->World->Prop,Q=cO (gB T0 p vs x bn bl) w F aj M R:=⟨_,rfl⟩
 have HQ:Hid (∀e w',cO (gB T0 p vs x bn bl) w F aj M R e w'->Q e w'):=fun e w' h=>by rw[hQ];exact h
 rw[<-hQ];clear hrd hpo hR hQ hbx h hx hi;have n19:=aP op 19 (by omega)
 have n20:((op:Int)==20)=true:=by rw[beq_iff_eq];omega
 clear hop;unfold tV;simp only[Bool.false_eq_true,if_false]
 unfold dN aW cu gQ at *;unfold iM at *;dsimp only at *
 go_enter func129,ntmps129
 go_wp2_with fail
 refine j1.mono ?_
 rintro e w1 ⟨F1,i1,dU,hp1,⟨L1,M1,q1,d1,hs1,rfl,lZ,iF⟩|⟨hs1,rfl,M1,kX,iF⟩⟩
 case inr=>exact⟨rfl,HQ.out _ _ (jL.bad (by rw[HR0.out,hs1];first|done|rfl) dU hp1 kX iF)⟩
 have hr1:=HR0.out;rw[hs1]at hr1;dsimp only[bindM]at hr1
 have HR1:Hid _:=hr1;have l1:=zD jL.good kc hs1;have m1:=jL.step dU hp1 iF l1.pre l1.good;have j2:=qL (qs T0 p vs x bn bl) true m1.obj (lZ) (oL.fr m1.fr) l1.lst ls;unfold vk at j2;simp only[if_true]at j2
 clear j1 hr1 hk0 dP
 go_wp2_with fail
 refine j2.mono ?_
 rintro e w2 ⟨F2,i2,dA,hp2,⟨L2,M2,q2,d2,hs2,rfl,iY,hO2⟩|⟨hs2,rfl,M2,iO,hO2⟩⟩
 case inr=>exact⟨rfl,HQ.out _ _ (m1.bad (by rw[HR1.out,hs2]) dA hp2 iO hO2)⟩
 have HE:Hid (Q (.returned (.slice q2 L2.length d2)) w2):=HQ.out _ _ (m1.fin (by rw[HR1.out,hs2]) dA hp2 iY hO2)
 clear j2;go_wp2;exact HE.out
theorem q6d(c f:Tr)(kr:KP (.un (20,0) c))(_:KT f)(hin:c∈bY T0)(hc:uI T0 p vs x bn bl 80 (aZ c).2):rX T0 p vs x bn bl true (.un (20,0) c) f:=by
 intro w F aj M i k av cv s h oL hls hbs hi uJ;obtain⟨op,pp,m,hop,hx,hm⟩:∃op pp m:Nat,op=20/\aj[i]? =some ⟨op,pp,(m:Int),-1⟩/\Rep aj m c:=by cases hi with|un h h1 h2=>exact⟨_,0,_,rfl,h,h2⟩
 obtain⟨F1,_,_,_,_,hrd⟩:=id h;obtain⟨G,rest,hpo⟩:=hrd.pg.part;obtain⟨a,n,cap,g,o,c0,hidx,x0,x1,x2,x3⟩:=(hpo.up (qd w (cu p x bn bl))).at hx;obtain⟨m0,jL⟩:=qP h op pp (m:Int) (-1);have hk0:=m0.cells;have dP:=jL.cells;have dL:Hid (∀w':World,w'.heap[w.heap.size]? =some (cu p x bn bl)->w'.heap[w.heap.size+1]? =some (aW ⟨op,pp,(m:Int),(-1)⟩)->gQ p x bn bl w.heap.size (m:Int) (-1) w'):=fun w' e1 e2=>⟨⟨qc e1 0,qc e1 1,qc e1 2,qc e1 3⟩,qc e2 2,qc e2 3⟩
 have hbx:=(dO w (cu p x bn bl)).1;have r0:(w.alloc (cu p x bn bl)).cell? ⟨w.heap.size,0,none⟩=some (.pointer (some ⟨p,0,none⟩)):=qc hbx 0;have HI:=aX hi;have ls:nN s:=⟨yU hbs m0.good.few,hls⟩
 have kc:KT c:=by
  rcases kC kr with⟨_,⟨h6,_⟩|⟨_,h6⟩|⟨h6,_⟩⟩
  ·cases h6
  ·exact h6
  ·cases h6
 have HC2:=aX hc;have U7:Hid (KT (aZ c).2):=GY kc;have j1:Calls prog 146 #[.pointer (some ⟨p,0,none⟩),.int .i64 m] (dN w p x bn bl op pp (m:Int) (-1)).drew (pY T0 p vs x bn bl (dN w p x bn bl op pp (m:Int) (-1)).drew F aj M (aZ c).2):=Ko m0.obj fun G rest hpo=>Qk c kc hin aj m hm _ _ _ (List.prefix_refl _) hpo
 obtain⟨R,hR⟩:∃R,R=dH true (.un (20,0) c) s f x M:=⟨_,rfl⟩
 have HR0:Hid (R=bindM (bK (aZ c).2 x M) fun a M1=>bF false a s M1):=by show _=_;rw[hR];exact UD kr s f x M
 rw[<-hR];obtain⟨Q,hQ⟩:∃Q:Ending->World->Prop,Q=cO (gB T0 p vs x bn bl) w F aj M R:=⟨_,rfl⟩
 have HQ:Hid (∀e w',cO (gB T0 p vs x bn bl) w F aj M R e w'->Q e w'):=fun e w' h=>by rw[hQ];exact h
 rw[<-hQ];clear hrd hpo hR hQ hbx h hx hi;have n19:=aP op 19 (by omega)
 have n20:((op:Int)==20)=true:=by rw[beq_iff_eq];omega
 clear hop;unfold tV;simp only[if_true]
 unfold dN aW cu gQ at *;unfold iM at *;dsimp only at *
 go_enter func130,ntmps130
 go_wp2_with fail
 go_region_held2 (fun w'=>(w'.cell? ⟨w.heap.size,0,none⟩=some (.pointer (some ⟨p,0,none⟩))/\w'.cell? ⟨w.heap.size,1,none⟩=some (.int .u8 x)/\w'.cell? ⟨w.heap.size,2,none⟩=some (.map (some bn))/\w'.cell? ⟨w.heap.size,3,none⟩=some (.map (some bl)))/\w'.cell? ⟨w.heap.size+1,2,none⟩=some (.int .i64 m)/\w'.cell? ⟨w.heap.size+1,3,none⟩=some (.int .i64 (-1))) (first|exact hk0|exact dP|assumption|fail) (first
   | (revert j1;intro j1;go_at_call 146;(with_reducible refine j1.mono ?_);rintro e w1 ⟨n1,i1,F1,rfl,hp1,tX,dU,iF⟩;have m1:=m0.step dU hp1 iF (List.prefix_refl _) m0.good;have hk1:=dL.out _ m1.rb m1.xb;have HR1:Hid _:=HR0.out;have j2:=HC2.out _ F1 i1 M n1 m1.obj tX;(try unfold iM at j2))
   | (revert j2;intro j2;go_at_call 80;(with_reducible refine j2.mono ?_);rintro e w2 ⟨F2,i2,dA,hp2,⟨L2,M2,q2,d2,hs2,rfl,iY,hO2⟩|⟨hs2,rfl,M2,iO,hO2⟩⟩;(case inr=>exact⟨rfl,HQ.out _ _ (m1.bad (by rw[HR1.out,hs2];first|done|rfl) dA hp2 iO hO2)⟩);have hr2:=HR1.out;rw[hs2]at hr2;dsimp only[bindM]at hr2;have HR2:Hid _:=hr2;clear hr2;have l2:=zD m1.good U7.out hs2;have m2:=m1.step dA hp2 hO2 l2.pre l2.good;have hk2:=dL.out _ m2.rb m2.xb;have j3:=qL (qs T0 p vs x bn bl) false m2.obj (iY) (oL.fr m2.fr) l2.lst ls;unfold vk at j3;simp only[Bool.false_eq_true,if_false]at j3)
   | (revert j3;intro j3;go_at_call 77;(with_reducible refine j3.mono ?_);rintro e w3 ⟨F3,i3,eF,hp3,⟨L3,M3,q3,d3,hs3,rfl,nT,hO3⟩|⟨hs3,rfl,M3,jX,hO3⟩⟩;(case inr=>exact⟨rfl,HQ.out _ _ (m2.bad (by rw[HR2.out,hs3];first|done|rfl) eF hp3 jX hO3)⟩);have hk3:Hid (Q (.returned (.slice q3 L3.length d3)) w3):=(HQ.out _ _ (m2.fin (by rw[HR2.out,hs3];first|done|rfl) eF hp3 nT hO3));have zF:=dL.out _ (qj m2.rb m2.rn eF).1 (qj m2.xb m2.xn eF).1)
   |fail)
 all_goals
  clear j1 j2 j3;go_wp2;exact hk3.out
theorem q5W(c f:Tr)(kr:KP (.un (19,0) c))(kf:KT f)(hS:jD T0 f)(hc:uI T0 p vs x bn bl 80 c):rX T0 p vs x bn bl false (.un (19,0) c) f:=by
 intro w F aj M i k av cv s h oL hls hbs hi uJ;obtain⟨op,pp,m,hop,hx,hm⟩:∃op pp m:Nat,op=19/\aj[i]? =some ⟨op,pp,(m:Int),-1⟩/\Rep aj m c:=by cases hi with|un h h1 h2=>exact⟨_,0,_,rfl,h,h2⟩
 obtain⟨F1,_,_,_,_,hrd⟩:=id h;obtain⟨G,rest,hpo⟩:=hrd.pg.part;obtain⟨a,n,cap,g,o,c0,hidx,x0,x1,x2,x3⟩:=(hpo.up (qd w (cu p x bn bl))).at hx;obtain⟨m0,jL⟩:=qP h op pp (m:Int) (-1);have hk0:=m0.cells;have dP:=jL.cells;have dL:Hid (∀w':World,w'.heap[w.heap.size]? =some (cu p x bn bl)->w'.heap[w.heap.size+1]? =some (aW ⟨op,pp,(m:Int),(-1)⟩)->gQ p x bn bl w.heap.size (m:Int) (-1) w'):=fun w' e1 e2=>⟨⟨qc e1 0,qc e1 1,qc e1 2,qc e1 3⟩,qc e2 2,qc e2 3⟩
 have hbx:=(dO w (cu p x bn bl)).1;have r0:(w.alloc (cu p x bn bl)).cell? ⟨w.heap.size,0,none⟩=some (.pointer (some ⟨p,0,none⟩)):=qc hbx 0;have HI:=aX hi;obtain⟨kc,pc⟩:=UE kr;have jf:=rR jL.obj m c hm kc pc hc;obtain⟨R,hR⟩:∃R,R=dH false (.un (19,0) c) s f x M:=⟨_,rfl⟩
 have HR0:Hid (R=if jR x c then aH f M else some (bU false,M)):=by show _=_;rw[hR];exact UC false c s f x M
 rw[<-hR];obtain⟨Q,hQ⟩:∃Q:Ending->World->Prop,Q=cO (gB T0 p vs x bn bl) w F aj M R:=⟨_,rfl⟩
 have HQ:Hid (∀e w',cO (gB T0 p vs x bn bl) w F aj M R e w'->Q e w'):=fun e w' h=>by rw[hQ];exact h
 rw[<-hQ];clear hrd hpo hR hQ hbx h hx hi;have n19:((op:Int)==19)=true:=by rw[beq_iff_eq];omega
 clear hop;unfold tV;simp only[Bool.false_eq_true,if_false]
 unfold dN aW cu gQ at *;unfold iM at *;dsimp only at *
 go_enter func129,ntmps129
 go_wp2_with fail
 refine jf.mono ?_
 rintro e w1 ⟨rfl,F1,i1,dU,hp1,iF⟩
 have m1:=jL.step dU hp1 iF (List.prefix_refl _) jL.good;obtain⟨⟨t0,t1,t2,t3⟩,_⟩:=dL.out _ m1.rb m1.xb
 cases hv:jR x c with
 |true=>
  have hr1:=HR0.out;rw[hv,if_pos rfl]at hr1;have HR1:Hid _:=hr1;have j2:=qX m1.obj k f (uJ.pre m1.hi) kf hS
  (try unfold iM at j2)
  clear jf hr1 hk0 dP hv
  go_wp2_with fail
  refine j2.mono ?_
  rintro e w2 ⟨F2,i2,dA,hp2,⟨L2,M2,q2,d2,hs2,rfl,iY,hO2⟩|⟨hs2,rfl,M2,iO,hO2⟩⟩
  case inr=>exact⟨rfl,HQ.out _ _ (m1.bad (by rw[HR1.out,hs2]) dA hp2 iO hO2)⟩
  have HE:Hid (Q (.returned (.slice q2 L2.length d2)) w2):=HQ.out _ _ (m1.fin (by rw[HR1.out,hs2]) dA hp2 iY hO2)
  clear j2;go_wp2;exact HE.out
 |false=>
  have hr1:=HR0.out;rw[hv,if_neg (by decide)]at hr1
  have HN:Hid (∀e w',rJ (bU false) w1 e w'->Q e w'):=fun e w' hn=>HQ.out e w' (by rw[hr1];exact(QZ (qs T0 p vs x bn bl) m1.obj hn).after m1.fr m1.hi (List.prefix_refl _))
  clear jf hr1 hk0 dP hv;have HE:Hid (Q (.returned (.slice none 0 0)) w1):=HN.out _ _ (QG _ _ (Below.refl _ _));go_wp2;exact HE.out
theorem q6c(c f:Tr)(kr:KP (.un (19,0) c))(kf:KT f)(hS:jD T0 f)(hc:uI T0 p vs x bn bl 80 c):rX T0 p vs x bn bl true (.un (19,0) c) f:=by
 intro w F aj M i k av cv s h oL hls hbs hi uJ;obtain⟨op,pp,m,hop,hx,hm⟩:∃op pp m:Nat,op=19/\aj[i]? =some ⟨op,pp,(m:Int),-1⟩/\Rep aj m c:=by cases hi with|un h h1 h2=>exact⟨_,0,_,rfl,h,h2⟩
 obtain⟨F1,_,_,_,_,hrd⟩:=id h;obtain⟨G,rest,hpo⟩:=hrd.pg.part;obtain⟨a,n,cap,g,o,c0,hidx,x0,x1,x2,x3⟩:=(hpo.up (qd w (cu p x bn bl))).at hx;obtain⟨m0,jL⟩:=qP h op pp (m:Int) (-1);have hk0:=m0.cells;have dP:=jL.cells;have dL:Hid (∀w':World,w'.heap[w.heap.size]? =some (cu p x bn bl)->w'.heap[w.heap.size+1]? =some (aW ⟨op,pp,(m:Int),(-1)⟩)->gQ p x bn bl w.heap.size (m:Int) (-1) w'):=fun w' e1 e2=>⟨⟨qc e1 0,qc e1 1,qc e1 2,qc e1 3⟩,qc e2 2,qc e2 3⟩
 have hbx:=(dO w (cu p x bn bl)).1;have r0:(w.alloc (cu p x bn bl)).cell? ⟨w.heap.size,0,none⟩=some (.pointer (some ⟨p,0,none⟩)):=qc hbx 0;have HI:=aX hi;obtain⟨kc,pc⟩:=UE kr;have jf:=rR jL.obj m c hm kc pc hc;obtain⟨R,hR⟩:∃R,R=dH true (.un (19,0) c) s f x M:=⟨_,rfl⟩
 have HR0:Hid (R=if jR x c then aH f M else some (bU true,M)):=by show _=_;rw[hR];exact UC true c s f x M
 rw[<-hR];obtain⟨Q,hQ⟩:∃Q:Ending->World->Prop,Q=cO (gB T0 p vs x bn bl) w F aj M R:=⟨_,rfl⟩
 have HQ:Hid (∀e w',cO (gB T0 p vs x bn bl) w F aj M R e w'->Q e w'):=fun e w' h=>by rw[hQ];exact h
 rw[<-hQ];clear hrd hpo hR hQ hbx h hx hi;have n19:((op:Int)==19)=true:=by rw[beq_iff_eq];omega
 clear hop;unfold tV;simp only[if_true]
 unfold dN aW cu gQ at *;unfold iM at *;dsimp only at *
 go_enter func130,ntmps130
 go_wp2_with fail
 refine jf.mono ?_
 rintro e w1 ⟨rfl,F1,i1,dU,hp1,iF⟩
 have m1:=jL.step dU hp1 iF (List.prefix_refl _) jL.good;obtain⟨⟨t0,t1,t2,t3⟩,_⟩:=dL.out _ m1.rb m1.xb
 cases hv:jR x c with
 |true=>
  have hr1:=HR0.out;rw[hv,if_pos rfl]at hr1;have HR1:Hid _:=hr1;have j2:=qX m1.obj k f (uJ.pre m1.hi) kf hS
  (try unfold iM at j2)
  clear jf hr1 hk0 dP hv
  go_wp2_with fail
  refine j2.mono ?_
  rintro e w2 ⟨F2,i2,dA,hp2,⟨L2,M2,q2,d2,hs2,rfl,iY,hO2⟩|⟨hs2,rfl,M2,iO,hO2⟩⟩
  case inr=>exact⟨rfl,HQ.out _ _ (m1.bad (by rw[HR1.out,hs2]) dA hp2 iO hO2)⟩
  have HE:Hid (Q (.returned (.slice q2 L2.length d2)) w2):=HQ.out _ _ (m1.fin (by rw[HR1.out,hs2]) dA hp2 iY hO2)
  clear j2;go_wp2;exact HE.out
 |false=>
  have hr1:=HR0.out;rw[hv,if_neg (by decide)]at hr1
  have HN:Hid (∀e w',rJ (bU true) w1 e w'->Q e w'):=fun e w' hn=>HQ.out e w' (by rw[hr1];exact(QZ (qs T0 p vs x bn bl) m1.obj hn).after m1.fr m1.hi (List.prefix_refl _))
  clear jf hr1 hk0 dP hv;have jt:=P6 w1
  go_wp2_with fail
  refine jt.mono ?_
  rintro e w2 ⟨q2,C2,rfl,iY,hb2,hf2⟩
  have HE:Hid (Q (.returned (.slice q2 [0].length C2)) w2):=HN.out _ _ ⟨q2,C2,rfl,iY,hb2,hf2⟩;clear jt iY hb2 hf2;go_wp2;exact HE.out
theorem qgO(box:Bool)(c f:Tr):iK box (.un (23,0) c) f=.bin (aO box,0) (.un (23,0) c) f::iK box c (.bin (aO box,0) (.un (23,0) c) f):=rfl
theorem qgN(box:Bool)(c d f:Tr):iK box (.bin (21,0) c d) f=iK box c f++iK box d f:=rfl
theorem qhM(box:Bool)(c d f:Tr):iK box (.bin (22,0) c d) f=.bin (aO box,0) d f::(iK box d f++iK box c (.bin (aO box,0) d f)):=rfl
theorem rT{T0:Tr}(t0:KT T0){p:Nat}{vs:Value}{x bn bl:Nat}(hx:x<256):∀n,(∀S,KT S->jD T0 S->hgt S<=n->uI T0 p vs x bn bl 80 S)/\(∀box r f,KP r->r∈bY T0->KT f->jD T0 f->(∀T,T∈iK box r f->jD T0 T)->hgt r<=n->rX T0 p vs x bn bl box r f)
 | 0=>⟨fun S _ _ h=>absurd (LY S) (by omega),fun box r f _ _ _ _ _ h=>absurd (LY r) (by omega)⟩
 |n+1=>by
  obtain⟨ih,jh⟩:=rT t0 (p:=p) (vs:=vs) (bn:=bn) (bl:=bl) hx n;refine⟨fun S kS hS hn=>?_,fun box r f kr hr kf hf hp hn=>?_⟩
  ·refine q98 kS ?_ (fun M L M' hM h=>⟨(zD hM kS h).lst,(zD hM kS h).pre⟩)
   match S,kS,hS,hn with
   | .leaf (op,q),kS,hS,hn=>
    rcases Aw kS with⟨rfl,hq⟩|⟨rfl,ho⟩
    ·exact qaP hx q hq
    ·exact qbT op (by omega)
   | .un (op,q) c,kS,hS,hn=>
    rcases ku kS with⟨rfl,⟨rfl,q,rfl⟩|⟨ho,hc⟩⟩
    ·have hq:q<=7:=(q24 _ kS.wf (2,q) (by simp[Tr.flat])).2
     exact qbQ hx q hq
    ·exact qaO op ho c kS hS
   | .bin (op,q) c d,kS,hS,hn=>
    obtain⟨rfl,ho⟩:=xG kS;obtain⟨ic,id,hsub⟩:=ML hS;have h2:max (hgt c) (hgt d)+1<=n+1:=hn;by_cases hw:op=17\/op=18
    ·obtain⟨kc,kd⟩:=uP kS hw
     refine qbS op hw c d kS (ih d kd id (by omega)) fun box hbox=>?_
     have hm:op=aO box:=by rcases hw with rfl|rfl<;>subst hbox<;>rfl
     refine jh box c d kc (hsub hw) kd id ?_ (by omega)
     rw[hm]at hS;exact mH hS
    ·obtain⟨kc,kd⟩:=qB kS (by omega)
     have hc:=ih c kc ic (by omega)
     have hd:=ih d kd id (by omega)
     by_cases h11:op=11\/op=12
     ·exact qbR op h11 c d kS hc hd
     ·exact q9a op (by omega) c d kS hS hc hd
  ·match r,kr,hr,hp,hn with
   | .leaf k,kr,_,_,_=>exact(EZ kr).elim
   | .un (op,q) c,kr,hr,hp,hn=>
    rcases kC kr with⟨rfl,⟨rfl,hcw,hpl⟩|⟨rfl,hc⟩|⟨rfl,hc⟩⟩
    ·have h2:hgt c+1<=n+1:=hn
     have ha:=ih c (UE kr).1 (MK (EC hr)) (by omega)
     cases box with
     |false=>exact q5W c f kr kf hf ha
     |true=>exact q6c c f kr kf hf ha
    ·have h2:hgt c+1<=n+1:=hn
     cases box with
     |false=>exact q5X c f kr kf (ih c hc (MK (EC hr)) (by omega))
     |true=>exact q6d c f kr kf (EC hr) (ih _ (GY hc) (MJ (EC hr) hc) (by rw[yJ c hc];omega))
    ·have h2:hgt c+1<=n+1:=hn
     rw[qgO]at hp;have hT:=hp _ (List.mem_cons_self ..);have hw:=jh box c _ hc (EC hr) (zT kr kf box) hT (fun T h=>hp T (List.mem_cons_of_mem _ h)) (by omega)
     cases box with
     |false=>exact q5V c f kr kf hT hw
     |true=>exact q6b c f kr kf hT hw
   | .bin (op,q) c d,kr,hr,hp,hn=>
    obtain⟨rfl,ho,kc,kd⟩:=xH kr;have h2:max (hgt c) (hgt d)+1<=n+1:=hn;rcases ho with rfl|rfl
    ·rw[qgN]at hp
     have hc:=jh box c f kc (yg hr).1 kf hf (fun T h=>hp T (List.mem_append.2 (Or.inl h))) (by omega)
     have hd:=jh box d f kd (yg hr).2 kf hf (fun T h=>hp T (List.mem_append.2 (Or.inr h))) (by omega)
     cases box with
     |false=>exact q5U c d f kr kf hc hd
     |true=>exact q69 c d f kr kf hc hd
    ·rw[qhM]at hp
     have hT:=hp _ (List.mem_cons_self ..);have hd:=jh box d f kd (yg hr).2 kf hf (fun T h=>hp T (List.mem_cons_of_mem _ (List.mem_append.2 (Or.inl h)))) (by omega)
     have hc:=jh box c _ kc (yg hr).1 (zT kd kf box) hT (fun T h=>hp T (List.mem_cons_of_mem _ (List.mem_append.2 (Or.inr h)))) (by omega)
     cases box with
     |false=>exact q6a c d f kr kf hT hc hd
     |true=>exact q75 c d f kr kf hT hc hd
theorem q8d(t0:KT T0)(hx:x<256)(S:Tr)(kS:KT S)(hS:jD T0 S):uI T0 p vs x bn bl 80 S:=(rT t0 hx (hgt S)).1 S kS hS bZ
theorem qdA : ∃ j, prog.info? 89 = some j := by
  cases h : prog.info? 89 with
  |some j=> exact ⟨j, rfl⟩
  | none => exact absurd h (by have : (prog.info? 89).isSome = true := by kernel_rfl
                               intro e; rw [e] at this; cases this)
theorem q9g(a:Addr)(w:World):(binOp .eql 55 (.pointer (some a)) (.pointer (some a))).run prog w=.ok (.bool true) w:=by
 obtain⟨j,hj⟩:=qdA;exact run_eql_ptr_same w a underlying55 hj
theorem U8(h:iE T0 w F p vs aj M):Calls prog 39 #[.pointer (some ⟨p,0,none⟩)] w fun e w'=>e=.returned (.bool true)/\w'=w:=by
 obtain⟨G,mn,vm,met,hr,hF⟩:=h.ex;have c3:=hr.c3;have hp:=fun w=>q9g ⟨p,0,none⟩ w
 clear h hr hF;go_enter func39,ntmps39
 go_wp2;go_ret
 exact⟨rfl,rfl⟩
theorem q8h{c:Nat}{l0:List Nat}(h:iE T0 w F p (.slice a l0.length c) aj M)(hU:US w F a l0.length c l0)(hl:l0.length<=1024):Calls prog 27 #[.pointer (some ⟨p,0,none⟩)] w (Dj l0 w):=by
 have hm:=U8 h;obtain⟨G,mn,vm,met,hr,hF⟩:=h.ex;have c6:=hr.c6;have jc:=lw a l0.length c l0 w hU.sl (by omega)
 clear h hr hF hU;generalize l0.length=L at *;go_enter func27,ntmps27
 go_wp2_with fail
 refine hm.mono ?_
 rintro e w1 ⟨rfl,hw1⟩
 obtain rfl:=hw1.symm
 clear hm
 go_wp2_with fail
 refine jc.mono ?_
 intro e w2 hq;have HQ:Hid _:=hq;obtain⟨_,⟨_,q,rfl⟩|⟨G2,t,_,rfl,_⟩⟩:=hq
 ·clear jc
  go_wp2;go_ret
  exact HQ.out
 ·clear jc
  go_wp2;go_ret
  exact HQ.out
theorem Nb(op pp:Nat)(xa xb:Int)(a:Option Addr)(n c:Nat)(w:World)(ho:op=0\/op=5\/op=6\/op=8\/op=16\/op=23):
  Calls prog 65 #[iV ⟨op,pp,xa,xb⟩,.slice a n c] w fun e w'=>e=.returned (.bool true)/\w'=w.alloc (aW ⟨op,pp,xa,xb⟩):=by
 rcases ho with ho|ho|ho|ho|ho|ho
 ·have n0:((op:Int)==0)=true:=by rw[beq_iff_eq];omega
  clear ho;unfold aW iV at *;dsimp only at *
  go_enter func65,ntmps65
  go_wp2;go_ret
  exact⟨rfl,rfl⟩
 ·have n0:=aP op 0 (by omega)
  have n5:((op:Int)==5)=true:=by rw[beq_iff_eq];omega
  clear ho;unfold aW iV at *;dsimp only at *
  go_enter func65,ntmps65
  go_wp2;go_ret
  exact⟨rfl,rfl⟩
 ·have n0:=aP op 0 (by omega)
  have n5:=aP op 5 (by omega)
  have n6:((op:Int)==6)=true:=by rw[beq_iff_eq];omega
  clear ho;unfold aW iV at *;dsimp only at *
  go_enter func65,ntmps65
  go_wp2;go_ret
  exact⟨rfl,rfl⟩
 ·have n0:=aP op 0 (by omega)
  have n5:=aP op 5 (by omega)
  have n6:=aP op 6 (by omega)
  have n8:((op:Int)==8)=true:=by rw[beq_iff_eq];omega
  clear ho;unfold aW iV at *;dsimp only at *
  go_enter func65,ntmps65
  go_wp2;go_ret
  exact⟨rfl,rfl⟩
 ·have n0:=aP op 0 (by omega)
  have n5:=aP op 5 (by omega)
  have n6:=aP op 6 (by omega)
  have n8:=aP op 8 (by omega)
  have n16:((op:Int)==16)=true:=by rw[beq_iff_eq];omega
  clear ho;unfold aW iV at *;dsimp only at *
  go_enter func65,ntmps65
  go_wp2;go_ret
  exact⟨rfl,rfl⟩
 ·have n0:=aP op 0 (by omega)
  have n5:=aP op 5 (by omega)
  have n6:=aP op 6 (by omega)
  have n8:=aP op 8 (by omega)
  have n16:=aP op 16 (by omega)
  have n23:((op:Int)==23)=true:=by rw[beq_iff_eq];omega
  clear ho;unfold aW iV at *;dsimp only at *
  go_enter func65,ntmps65
  go_wp2;go_ret
  exact⟨rfl,rfl⟩
theorem Zl(op pp:Nat)(xa xb:Int)(a:Option Addr)(n c g:Nat)(w:World)(ho:op=11\/op=17\/op=22)(ia ib:Nat)(va vb:Bool)(ha:(Instr.indexAt 66 (.slice a n c) (.int .i64 xa)).run prog (w.alloc (aW ⟨op,pp,xa,xb⟩))=.ok (.pointer (some ⟨g,ia,none⟩)) (w.alloc (aW ⟨op,pp,xa,xb⟩)))(ca:(w.alloc (aW ⟨op,pp,xa,xb⟩)).cell? ⟨g,ia,none⟩=some (.bool va))(hb:(Instr.indexAt 66 (.slice a n c) (.int .i64 xb)).run prog (w.alloc (aW ⟨op,pp,xa,xb⟩))=.ok (.pointer (some ⟨g,ib,none⟩)) (w.alloc (aW ⟨op,pp,xa,xb⟩)))(cb:(w.alloc (aW ⟨op,pp,xa,xb⟩)).cell? ⟨g,ib,none⟩=some (.bool vb)):
  Calls prog 65 #[iV ⟨op,pp,xa,xb⟩,.slice a n c] w fun e w'=>e=.returned (.bool (va&&vb))/\w'=w.alloc (aW ⟨op,pp,xa,xb⟩):=by
 rcases ho with ho|ho|ho
 ·have n0:=aP op 0 (by omega)
  have n5:=aP op 5 (by omega)
  have n6:=aP op 6 (by omega)
  have n8:=aP op 8 (by omega)
  have n16:=aP op 16 (by omega)
  have n23:=aP op 23 (by omega)
  have n11:((op:Int)==11)=true:=by rw[beq_iff_eq];omega
  clear ho;unfold aW iV at *;dsimp only at *
  cases va<;>cases vb <;>
  ·go_enter func65,ntmps65
   go_wp2;go_ret
   exact⟨rfl,rfl⟩
 ·have n0:=aP op 0 (by omega)
  have n5:=aP op 5 (by omega)
  have n6:=aP op 6 (by omega)
  have n8:=aP op 8 (by omega)
  have n16:=aP op 16 (by omega)
  have n23:=aP op 23 (by omega)
  have n11:=aP op 11 (by omega)
  have n17:((op:Int)==17)=true:=by rw[beq_iff_eq];omega
  clear ho;unfold aW iV at *;dsimp only at *
  cases va<;>cases vb <;>
  ·go_enter func65,ntmps65
   go_wp2;go_ret
   exact⟨rfl,rfl⟩
 ·have n0:=aP op 0 (by omega)
  have n5:=aP op 5 (by omega)
  have n6:=aP op 6 (by omega)
  have n8:=aP op 8 (by omega)
  have n16:=aP op 16 (by omega)
  have n23:=aP op 23 (by omega)
  have n11:=aP op 11 (by omega)
  have n17:=aP op 17 (by omega)
  have n22:((op:Int)==22)=true:=by rw[beq_iff_eq];omega
  clear ho;unfold aW iV at *;dsimp only at *
  cases va<;>cases vb <;>
  ·go_enter func65,ntmps65
   go_wp2;go_ret
   exact⟨rfl,rfl⟩
theorem r6(op pp:Nat)(xa xb:Int)(a:Option Addr)(n c g:Nat)(w:World)(ho:op=12\/op=21)(ia ib:Nat)(va vb:Bool)(ha:(Instr.indexAt 66 (.slice a n c) (.int .i64 xa)).run prog (w.alloc (aW ⟨op,pp,xa,xb⟩))=.ok (.pointer (some ⟨g,ia,none⟩)) (w.alloc (aW ⟨op,pp,xa,xb⟩)))(ca:(w.alloc (aW ⟨op,pp,xa,xb⟩)).cell? ⟨g,ia,none⟩=some (.bool va))(hb:(Instr.indexAt 66 (.slice a n c) (.int .i64 xb)).run prog (w.alloc (aW ⟨op,pp,xa,xb⟩))=.ok (.pointer (some ⟨g,ib,none⟩)) (w.alloc (aW ⟨op,pp,xa,xb⟩)))(cb:(w.alloc (aW ⟨op,pp,xa,xb⟩)).cell? ⟨g,ib,none⟩=some (.bool vb)):
  Calls prog 65 #[iV ⟨op,pp,xa,xb⟩,.slice a n c] w fun e w'=>e=.returned (.bool (va || vb))/\w'=w.alloc (aW ⟨op,pp,xa,xb⟩):=by
 rcases ho with ho|ho
 ·have n0:=aP op 0 (by omega)
  have n5:=aP op 5 (by omega)
  have n6:=aP op 6 (by omega)
  have n8:=aP op 8 (by omega)
  have n16:=aP op 16 (by omega)
  have n23:=aP op 23 (by omega)
  have n11:=aP op 11 (by omega)
  have n17:=aP op 17 (by omega)
  have n22:=aP op 22 (by omega)
  have n12:((op:Int)==12)=true:=by rw[beq_iff_eq];omega
  clear ho;unfold aW iV at *;dsimp only at *
  cases va<;>cases vb <;>
  ·go_enter func65,ntmps65
   go_wp2;go_ret
   exact⟨rfl,rfl⟩
 ·have n0:=aP op 0 (by omega)
  have n5:=aP op 5 (by omega)
  have n6:=aP op 6 (by omega)
  have n8:=aP op 8 (by omega)
  have n16:=aP op 16 (by omega)
  have n23:=aP op 23 (by omega)
  have n11:=aP op 11 (by omega)
  have n17:=aP op 17 (by omega)
  have n22:=aP op 22 (by omega)
  have n12:=aP op 12 (by omega)
  have n21:((op:Int)==21)=true:=by rw[beq_iff_eq];omega
  clear ho;unfold aW iV at *;dsimp only at *
  cases va<;>cases vb <;>
  ·go_enter func65,ntmps65
   go_wp2;go_ret
   exact⟨rfl,rfl⟩
theorem q99(op pp:Nat)(xa xb:Int)(a:Option Addr)(n c g:Nat)(w:World)(ho:op=18)(ia ib:Nat)(va vb:Bool)(ha:(Instr.indexAt 66 (.slice a n c) (.int .i64 xa)).run prog (w.alloc (aW ⟨op,pp,xa,xb⟩))=.ok (.pointer (some ⟨g,ia,none⟩)) (w.alloc (aW ⟨op,pp,xa,xb⟩)))(ca:(w.alloc (aW ⟨op,pp,xa,xb⟩)).cell? ⟨g,ia,none⟩=some (.bool va))(hb:(Instr.indexAt 66 (.slice a n c) (.int .i64 xb)).run prog (w.alloc (aW ⟨op,pp,xa,xb⟩))=.ok (.pointer (some ⟨g,ib,none⟩)) (w.alloc (aW ⟨op,pp,xa,xb⟩)))(cb:(w.alloc (aW ⟨op,pp,xa,xb⟩)).cell? ⟨g,ib,none⟩=some (.bool vb)):
  Calls prog 65 #[iV ⟨op,pp,xa,xb⟩,.slice a n c] w fun e w'=>e=.returned (.bool (!va || vb))/\w'=w.alloc (aW ⟨op,pp,xa,xb⟩):=by
 have n0:=aP op 0 (by omega)
 have n5:=aP op 5 (by omega)
 have n6:=aP op 6 (by omega)
 have n8:=aP op 8 (by omega)
 have n16:=aP op 16 (by omega)
 have n23:=aP op 23 (by omega)
 have n11:=aP op 11 (by omega)
 have n17:=aP op 17 (by omega)
 have n22:=aP op 22 (by omega)
 have n12:=aP op 12 (by omega)
 have n21:=aP op 21 (by omega)
 have n18:((op:Int)==18)=true:=by rw[beq_iff_eq];omega
 clear ho;unfold aW iV at *;dsimp only at *
 cases va<;>cases vb <;>
 ·go_enter func65,ntmps65
  go_wp2;go_ret
  exact⟨rfl,rfl⟩
theorem q8f(op pp:Nat)(xa xb:Int)(a:Option Addr)(n c g:Nat)(w:World)(ho:op=20)(ia:Nat)(va:Bool)(ha:(Instr.indexAt 66 (.slice a n c) (.int .i64 xa)).run prog (w.alloc (aW ⟨op,pp,xa,xb⟩))=.ok (.pointer (some ⟨g,ia,none⟩)) (w.alloc (aW ⟨op,pp,xa,xb⟩)))(ca:(w.alloc (aW ⟨op,pp,xa,xb⟩)).cell? ⟨g,ia,none⟩=some (.bool va)):
  Calls prog 65 #[iV ⟨op,pp,xa,xb⟩,.slice a n c] w fun e w'=>e=.returned (.bool va)/\w'=w.alloc (aW ⟨op,pp,xa,xb⟩):=by
 have n0:=aP op 0 (by omega)
 have n5:=aP op 5 (by omega)
 have n6:=aP op 6 (by omega)
 have n8:=aP op 8 (by omega)
 have n16:=aP op 16 (by omega)
 have n23:=aP op 23 (by omega)
 have n11:=aP op 11 (by omega)
 have n17:=aP op 17 (by omega)
 have n22:=aP op 22 (by omega)
 have n12:=aP op 12 (by omega)
 have n21:=aP op 21 (by omega)
 have n18:=aP op 18 (by omega)
 have n20:((op:Int)==20)=true:=by rw[beq_iff_eq];omega
 clear ho;unfold aW iV at *;dsimp only at *
 go_enter func65,ntmps65
 go_wp2;go_ret
 exact⟨rfl,rfl⟩
theorem Nc(op pp:Nat)(xa xb:Int)(a:Option Addr)(n c:Nat)(w:World)(ho:op≠0/\op≠5/\op≠6/\op≠8/\op≠16/\op≠23/\op≠11/\op≠17/\op≠22/\op≠12/\op≠21/\op≠18/\op≠20):
  Calls prog 65 #[iV ⟨op,pp,xa,xb⟩,.slice a n c] w fun e w'=>e=.returned (.bool false)/\w'=w.alloc (aW ⟨op,pp,xa,xb⟩):=by
 have n0:=aP op 0 (by omega)
 have n5:=aP op 5 (by omega)
 have n6:=aP op 6 (by omega)
 have n8:=aP op 8 (by omega)
 have n16:=aP op 16 (by omega)
 have n23:=aP op 23 (by omega)
 have n11:=aP op 11 (by omega)
 have n17:=aP op 17 (by omega)
 have n22:=aP op 22 (by omega)
 have n12:=aP op 12 (by omega)
 have n21:=aP op 21 (by omega)
 have n18:=aP op 18 (by omega)
 have n20:=aP op 20 (by omega)
 clear ho;unfold aW iV at *;dsimp only at *
 go_enter func65,ntmps65
 go_wp2;go_ret
 exact⟨rfl,rfl⟩
theorem qgk{base e n cap:Nat}{xs:List Value}(h:w.ownsRow base e 1 (.slice a n cap) n xs):∀k,k<n->base<=(aG a k).block:=fun k hk=>by
 rcases h.2 with⟨e,e0⟩|⟨g,cap',cur,e,hg,_⟩
 ·omega
 ·injection e with e1 _ _
  subst e1;simp[aG,qi]
  exact hg
def INR(r:List Nat)(w:World)(e:Ending)(w':World):Prop:=∃(a:Option Addr) (c:Nat),e=.returned (.slice a r.length c)/\MF w' a r.length c r/\Below w.heap.size w w'/\∀k,k<r.length->w.heap.size<=(aG a k).block
theorem q93(s:Nat)(hs:s<2 ^ 64)(w:World)(hT:fK w):Calls prog 79 #[.int .u64 s] w (INR (aY s) w):=by
 have HT:=aX hT;have Hs:=aX hs;clear hT hs;go_enter func79,ntmps79
 go_wp2
 go_loopw [3,4] (fun v r wr=>∃(x:Nat) (acc:List Nat),r=.int .u64 x/\Hid (x<2 ^ 64)/\Hid (aY s=acc++aY x)/\Hid (wr.ownsRow w.heap.size 3 1 v acc.length ((iU acc).map (Value.int .i64)))/\Hid (Below w.heap.size w wr)) (fun _ r _=>(intOf r).toNat)
 case atStart=>exact⟨s,[],rfl,Hs,rfl,⟨rfl,Or.inl ⟨rfl,rfl⟩⟩,Below.refl _ _⟩
 case round=>
  obtain⟨x,acc,rfl,HX,HE,HO,HB⟩:=hrel;by_cases h0:x=0
  ·subst h0
   have HE2:Hid (aY s=acc):=by show _=_;rw[HE.out,A7,List.append_nil]
   obtain⟨va,vc,rfl,hU⟩:=me HO.out;have HU:Hid _:=hU;have AP:Hid (∀k,k<acc.length->w.heap.size<=(aG va k).block):=qgk HO.out;clear hU HO HE;go_wp2;go_ret
   exact⟨va,vc,by rw[HE2.out];rfl,by rw[HE2.out];exact HU.out,HB.out,by rw[HE2.out];exact AP.out⟩
  ·have htz:=ZS x HX.out h0 wr (HT.out.up HB.out)
   obtain⟨hk,hb,_⟩:=eD x h0 HX.out;have hlt:=Be hk hb;have HS:=Bi h0 HX.out;have HE2:Hid (aY s=(acc++[Lib.ctz 64 x])++aY (oH x (Lib.ctz 64 x))):=by show _=_;rw[HE.out,HS];simp
   have hln:acc.length<=64:=by have:=eC s;rw[HE.out,List.length_append]at this;omega
   have hne:((x:Int)==0)=false:=by simp;omega
   have hp:2 ^ Lib.ctz 64 x<18446744073709551616:=Nat.pow_lt_pow_right (by decide) hk
   have hdr:bits .andNot .u64 (x:Int) (IntKind.u64.wrap ((2:Int) ^ Lib.ctz 64 x))=((oH x (Lib.ctz 64 x):Nat):Int):=by
    have e1:IntKind.u64.wrap ((2:Int) ^ Lib.ctz 64 x)=((2 ^ Lib.ctz 64 x:Nat):Int):=by
     rw[show (2:Int) ^ Lib.ctz 64 x=((2 ^ Lib.ctz 64 x:Nat):Int) by simp,IntKind.wrap_u64]
     generalize 2 ^ Lib.ctz 64 x=q at *
     omega
    rw[e1];exact u64_andNot_nat x _ HX.out hp
   have Uk:Hid (oH x (Lib.ctz 64 x)<2 ^ 64):=Nat.lt_of_le_of_lt (eE _ _) HX.out;obtain⟨va,vc,rfl⟩:=PX HO.out;clear HS hb HE HX;generalize oH x (Lib.ctz 64 x)=y at *;generalize Lib.ctz 64 x=k at *
   go_wp2_with fail
   refine htz.mono ?_
   rintro e w3 ⟨rfl,hw⟩
   obtain rfl:wr=w3:=hw.symm
   have vY:Hid ((wr.alloc (.cells #[.int .i64 k] 3)).ownsRow w.heap.size 3 1 (.slice va acc.length vc) acc.length ((iU acc).map (Value.int .i64))):=World.ownsRow.alloc HO.out _;have rE:Hid ((wr.alloc (.cells #[.int .i64 k] 3)).cell? ⟨wr.heap.size,0,none⟩=some (.int .i64 k)):=qc (dO wr _).1 0;have rF:Hid (Below w.heap.size w (wr.alloc (.cells #[.int .i64 k] 3))):=HB.out.alloc HB.out.size _;have hszA:w.heap.size<=(wr.alloc (.cells #[.int .i64 k] 3)).heap.size:=rF.out.size;have o8:Hid (∀q,(Value.slice va acc.length vc).ownBlock=some q->w.heap.size<=q):=vO HO.out;clear HO HB htz
   go_wp2_with (at_builtin;refine l8 rfl _ _ rfl w.heap.size _ acc.length (iU acc) rfl vY.out wr.heap.size (k:Int) rfl rE.out (by omega) hszA ?_)
   intro v7 w7 jC mD;have FK:Hid (w7.ownsRow w.heap.size 3 1 v7 (acc.length+1) ((iU acc++[(k:Int)]).map (Value.int .i64))):=by show World.ownsRow _ _ _ _ _ _ _;simpa using jC
   have FM:Hid (Below w.heap.size w w7):=rF.out.grown mD hszA (fun q e=>o8.out q e)
   clear jC mD vY rE rF hszA o8;go_wp2
   go_roundw
   case rel=>
    refine⟨y,acc++[k],rfl,Uk,HE2,?_,FM⟩
    show World.ownsRow _ _ _ _ _ _ _
    rw[List.length_append,Ux];exact FK.out
   case measure=>simp[intOf];omega
def yD:Nat:=0
theorem fK.fr{F':Nat->Prop}(h:fK w)(fr:Fr w w' F F')(hn:¬F yD):fK w':=fun j hj=>fr.cell (h j hj) hn
structure pO(T0:Tr)(p:Nat)(vs:Value)(x bn bl:Nat)(w:World)(F:Nat->Prop)(aj:List It)(M:Mt)(B:Nat)(wj:World)(Fj:Nat->Prop)(ij:List It)(Mj:Mt):Prop where
 obj:gB T0 p vs x bn bl wj Fj ij Mj
 fr:Fr w wj F Fj
 hi:aj <+: ij
 hM:M <+: Mj
 good:dM Mj
 rb:wj.heap[B]? =some (cu p x bn bl)
 rn:¬Fj B
 tab:fK wj
 tn:¬Fj yD
section
variable {T0:Tr}{p:Nat}{vs:Value}{x bn bl:Nat}{w:World}{F:Nat->Prop}{aj:List It}{M:Mt}{B:Nat}{wj wk:World}{Fj Fk:Nat->Prop}{ij ik:List It}{Mj Mk:Mt}
theorem pO.step(h:pO T0 p vs x bn bl w F aj M B wj Fj ij Mj)(fr:Fr wj wk Fj Fk)(hp:ij <+: ik)(hO:gB T0 p vs x bn bl wk Fk ik Mk)(hm:Mj <+: Mk)(hg:dM Mk):pO T0 p vs x bn bl w F aj M B wk Fk ik Mk :=
 ⟨hO,h.fr.trans fr,h.hi.trans hp,h.hM.trans hm,hg,(qj h.rb h.rn fr).1,(qj h.rb h.rn fr).2,h.tab.fr fr h.tn,fr.out h.tn (World.block_lt_of_cell? _ _ (h.tab 0 (by decide)))⟩
theorem pO.up(h:pO T0 p vs x bn bl w F aj M B wj Fj ij Mj)(hb:Below wj.heap.size wj wk):pO T0 p vs x bn bl w F aj M B wk Fj ij Mj:=h.step (Fr.au hb) (List.prefix_refl _) ((qs T0 p vs x bn bl).up h.obj hb) (List.prefix_refl _) h.good
theorem pO.bad(h:pO T0 p vs x bn bl w F aj M B wj Fj ij Mj)(hR:R=none)(fr:Fr wj wk Fj Fk)(hp:ij <+: ik)(hm:Mj <+: Mk)(hO:gB T0 p vs x bn bl wk Fk ik Mk):cO (gB T0 p vs x bn bl) w F aj M R (.panicked gK) wk :=
 ⟨Fk,ik,h.fr.trans fr,h.hi.trans hp,Or.inr ⟨hR,rfl,Mk,h.hM.trans hm,hO⟩⟩
theorem pO.met(h:pO T0 p vs x bn bl w F aj M B wj Fj ij Mj)(k:Nat)(hk:k<Mj.length):∃a n cap g o j S,wj.cell? ⟨p,5,none⟩=some (.slice a n cap)/\(∀w',(Instr.indexAt 71 (.slice a n cap) (.int .i64 k)).run prog w'=.ok (.pointer (some ⟨g,o,none⟩)) w')/\wj.cell? ⟨g,o,none⟩=some (.int .i64 (j:Nat))/\Rep ij j S/\KT S/\jD T0 S/\Mj[k]? =some S.flat:=by
 obtain⟨F1,kn,kl,fn,fl,hr⟩:=h.obj;obtain⟨G,mn,vm,met,hg,hF⟩:=hr.pg.ex;have hml:=hg.met.1;have hkm:k<met.length:=by omega
 obtain⟨S,hrep,yE⟩:=hg.met.2 k met[k] (kU hkm);obtain⟨S2,k2,i2,e2⟩:=hr.pg.of S.flat (List.mem_of_getElem? yE)
 have hw:S.WF:=by
  obtain⟨S3,h3,h4⟩:=hg.po.BJ _ hrep.lt;have:=Rep.tree hrep h3
  subst this;rcases MN hg.po.t0.kt h4 with q|q<;>exact q.wf
 have e:=Wj hw k2.wf e2;subst e;rcases hg.row.2 with⟨e,e0⟩|⟨g,cap,cur,rfl,_,hcell,hnc,hcm,hsz,htk⟩
 ·omega
 ·refine⟨some ⟨g,0,none⟩,met.length,cap,g,k,met[k],S,hg.c5,fun w'=>?_,?_,hrep,k2,i2,yE⟩
  ·simp[Instr.indexAt,run_underlying underlying71,asIntOf,qU (show (prog.info? 3).map (·.size)=some 1 by kernel_rfl),hkm,Result.andThen,go_sem,qi]
  ·rw[qc hcell k]
   have:cur.toList[k]? =(iZ met)[k]? := by rw[<-htk,List.getElem?_take,if_pos (by omega)]
   rw[<-Array.getElem?_toList,this];simp[iZ,hkm]
end
end Go.Proofs.YtoioiellaomonaaGreatDoor
