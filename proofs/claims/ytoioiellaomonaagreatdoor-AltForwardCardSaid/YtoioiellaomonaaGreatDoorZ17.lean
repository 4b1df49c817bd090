import Derived.Deep.RegionHeld2
import Derived.Test.YtoioiellaomonaaGreatDoorZ16
set_option maxRecDepth 100000
set_option maxHeartbeats 16000000
namespace Go.Proofs.YtoioiellaomonaaGreatDoor
open Go.RowKit Go.Maps Proofs.Tryz
variable {w w' w2:World}{F F1:Nat->Prop}{aj aI:List It}{M M':Mt}{l k ks L:List Nat}{e:Ending}{r:Option (List Nat)}{a:Option Addr}{b c d p x i bn bl:Nat}{T0 S:Tr}{vs:Value}{f:Nat->Option Value}{R:Rt}
abbrev Gm:=World->(Nat->Prop)->List It->Mt->Prop
structure Bf(Obj:Gm):Prop where
 lt:∀{w F aj M},Obj w F aj M->∀k,F k->k<w.heap.size
 up:∀{w w' F aj M},Obj w F aj M->Below w.heap.size w w'->Obj w' F aj M
def cO(Obj:Gm)(w:World)(F:Nat->Prop)(aj:List It)(M:Mt)(r:Rt)(e:Ending)(w':World):Prop :=
 ∃F' aI,Fr w w' F F'/\aj <+: aI/\((∃(L:List Nat) (M':Mt) (q:Option Addr) (d:Nat),r=some (L,M')/\e=.returned (.slice q L.length d)/\US w' F' q L.length d L/\Obj w' F' aI M')\/(r=none/\e=.panicked gK/\∃M',M <+: M'/\Obj w' F' aI M'))
theorem QZ{Obj:Gm}(C:Bf Obj)(h:Obj w F aj M)(hn:rJ l w e w'):cO Obj w F aj M (some (l,M)) e w':=by
 obtain⟨q,d,rfl,hU,hb,hf⟩:=hn;exact⟨F,aj,Fr.au hb,List.prefix_refl _,Or.inl ⟨l,M,q,d,rfl,rfl,⟨hU,fun k hk hF=>by have:=hf k hk;have:=C.lt h _ hF;omega⟩,C.up h hb⟩⟩
theorem cO.after{Obj:Gm}{w1:World}{dS:List It}{M1:Mt}{r:Rt}(fr:Fr w w1 F F1)(hi:aj <+: dS)(hM:M <+: M1)(h:cO Obj w1 F1 dS M1 r e w2):cO Obj w F aj M r e w2:=by
 obtain⟨F',i',h1,h2,h3⟩:=h;refine⟨F',i',fr.trans h1,hi.trans h2,h3.imp id ?_⟩
 rintro⟨a,b,M',c,d⟩
 exact⟨a,b,M',hM.trans c,d⟩
theorem U2{Obj:Gm}(C:Bf Obj)(h:Obj w F aj M)(hn:Gh r w e w'):cO Obj w F aj M (r.map fun l=>(l,M)) e w':=by
 obtain⟨hb,⟨L,q,d,rfl,rfl,hU,hf⟩|⟨rfl,rfl⟩⟩:=hn
 ·exact⟨F,aj,Fr.au hb,List.prefix_refl _,Or.inl ⟨L,M,q,d,rfl,rfl,⟨hU,fun k hk hF=>by have:=hf.1 k hk;have:=C.lt h _ hF;omega⟩,C.up h hb⟩⟩
 ·exact⟨F,aj,Fr.au hb,List.prefix_refl _,Or.inr ⟨rfl,rfl,M,List.prefix_refl _,C.up h hb⟩⟩
structure nN(L:List Nat):Prop where
 sm:Sm L
 few:L.length<=1024
def vk(and:Bool):FuncId:=if and then 76 else 77
theorem qL{Obj:Gm}(C:Bf Obj)(and:Bool)(h:Obj w F aj M){b:Option Addr}(hA:US w F a l.length c l)(hB:US w F b k.length d k)(la:nN l)(lb:nN k):
  Calls prog (vk and) #[.slice a l.length c,.slice b k.length d] w (cO Obj w F aj M (bF and l k M)):=by
 cases and with
 |true=>exact(pC a l.length c l b k.length d k w hA.sl hB.sl la.sm lb.sm (Nat.le_trans la.few (by decide)) (Nat.le_trans lb.few (by decide))).mono fun e w' hq=>U2 C h hq
 |false=>exact(pD a l.length c l b k.length d k w hA.sl hB.sl la.sm lb.sm (Nat.le_trans la.few (by decide)) (Nat.le_trans lb.few (by decide))).mono fun e w' hq=>U2 C h hq
def rM(w w':World)(e:Ending):Prop:=∀q n d,e=.returned (.slice q n d)->(∀k,k<n->w.heap.size<=(aG q k).block)/\zo w' q n
theorem Y6{c:List PanicEntry}:rM w w' (.panicked c):=fun q n d h=>by cases h
theorem rM.at(h:rM w' w2 e)(hs:w.heap.size<=w'.heap.size):rM w w2 e:=fun q n d he=>⟨fun k hk=>Nat.le_trans hs ((h q n d he).1 k hk),(h q n d he).2⟩
theorem ry(hn:Gh r w e w'):rM w w' e:=by
 obtain⟨hb,⟨L,q,d,rfl,rfl,hU,hf⟩|⟨rfl,rfl⟩⟩:=hn
 ·intro q' n' d' h
  injection h with h;injection h with h1 h2 h3;subst h1 h2 h3;exact hf
 ·exact fun q n d h=>by cases h
theorem qeB{Obj:Gm}(C:Bf Obj)(and:Bool)(h:Obj w F aj M){b:Option Addr}(hA:US w F a l.length c l)(hB:US w F b k.length d k)(la:nN l)(lb:nN k):
  Calls prog (vk and) #[.slice a l.length c,.slice b k.length d] w (fun e w'=>cO Obj w F aj M (bF and l k M) e w'/\rM w w' e):=by
 cases and with
 |true=>exact(pC a l.length c l b k.length d k w hA.sl hB.sl la.sm lb.sm (Nat.le_trans la.few (by decide)) (Nat.le_trans lb.few (by decide))).mono fun e w' hq=>⟨U2 C h hq,ry hq⟩
 |false=>exact(pD a l.length c l b k.length d k w hA.sl hB.sl la.sm lb.sm (Nat.le_trans la.few (by decide)) (Nat.le_trans lb.few (by decide))).mono fun e w' hq=>⟨U2 C h hq,ry hq⟩
theorem U3(T0:Tr)(p:Nat)(vs:Value):Bf (fun w F aj M=>iE T0 w F p vs aj M):=⟨fun h=>h.lt,fun h hb=>h.up hb⟩
def Ag(T0:Tr)(p:Nat)(vs:Value)(S:Tr):Prop:=∀(w:World)(F:Nat->Prop)(aj:List It)(M:Mt)(i:Nat),iE T0 w F p vs aj M->Rep aj i S->Calls prog 47 #[.pointer (some ⟨p,0,none⟩),.int .i64 i] w (cO (fun w F aj M=>iE T0 w F p vs aj M) w F aj M (aH S M))
theorem iE.part(h:iE T0 w F p vs aj M):∃G rest,kW T0 w G p 89 rest aj:=by
 obtain⟨G,mn,vm,met,hr,hF⟩:=h.ex;exact⟨G,_,hr.po⟩
theorem q9c(op pp:Nat)(ho:op=11\/op=12)(c d:Tr)(hT:KT (.bin (op,pp) c d))(hc:Ag T0 p vs c)(hd:Ag T0 p vs d):Ag T0 p vs (.bin (op,pp) c d):=by
 intro w F aj M i h hi;obtain⟨kc,kd⟩:=qB hT (by omega)
 obtain⟨m,l,hx,hm,hl⟩:∃m l:Nat,aj[i]? =some ⟨op,pp,(m:Int),(l:Int)⟩/\Rep aj m c/\Rep aj l d:=by cases hi with|bin h h1 h2 h3 h4=>exact⟨_,_,h,h3,h4⟩
 obtain⟨G,rest,hpo⟩:=h.part;obtain⟨a,n,cap,g,o,c0,hidx,x0,x1,x2,x3⟩:=hpo.at hx;have hb:=qd w (aW ⟨op,pp,(m:Int),(l:Int)⟩);have hbx:=(dO w (aW ⟨op,pp,(m:Int),(l:Int)⟩)).1;have iF:=h.up hb.drew;have j1:=hc _ F aj M m iF hm;obtain⟨r1,hr1⟩:∃r,r=aH c M:=⟨_,rfl⟩
 rw[<-hr1]at j1;have HR1:=aX hr1;have cells:∀w':World,w'.heap[w.heap.size]? =some (aW ⟨op,pp,(m:Int),(l:Int)⟩)->w'.cell? ⟨w.heap.size,2,none⟩=some (.int .i64 m)/\w'.cell? ⟨w.heap.size,3,none⟩=some (.int .i64 l):=fun w' e=>⟨qc e 2,qc e 3⟩
 have hk0:=cells (w.alloc (aW ⟨op,pp,(m:Int),(l:Int)⟩)).drew hbx;have dP:=cells _ hbx;have dL:Hid _:=cells;have JI:Hid ((w.alloc (aW ⟨op,pp,(m:Int),(l:Int)⟩)).drew.heap[w.heap.size]? =some (aW ⟨op,pp,(m:Int),(l:Int)⟩)):=hbx;have Q7:Hid (¬F w.heap.size):=fun e=>Nat.lt_irrefl _ (h.lt _ e)
 have HD:=aX hd;have HL:=aX hl;have HG:Hid (dM M):=h.good;have HK:Hid (KT c/\KT d):=⟨kc,kd⟩;have rW:Hid (Fr w (w.alloc (aW ⟨op,pp,(m:Int),(l:Int)⟩)).drew F F):=Fr.au hb.drew;obtain⟨R,hR⟩:∃R,R=aH (.bin (op,pp) c d) M:=⟨_,rfl⟩
 have HR:Hid (R=bindM (aH c M) fun a M1=>bindM (aH d M1) fun b M2=>bF (op==11) a b M2):=by show _=_;rw[hR,aH,if_pos ho]
 rw[<-hR];obtain⟨Q,hQ⟩:∃Q:Ending->World->Prop,Q=cO (fun w F aj M=>iE T0 w F p vs aj M) w F aj M R:=⟨_,rfl⟩
 have HQ:Hid (∀e w',cO (fun w F aj M=>iE T0 w F p vs aj M) w F aj M R e w'->Q e w'):=fun e w' h=>by rw[hQ];exact h
 rw[<-hQ];have HO:=aX h;clear h hi hT hc hd hx hm hl hpo hb hbx iF hr1 cells kc kd hR hQ;have n0:=aP op 0 (by omega)
 have n1:=aP op 1 (by omega)
 rcases ho with ho|ho
 ·have n11:((op:Int)==11)=true:=by rw[beq_iff_eq];omega
  have hob:(op==11)=true:=by simp[ho]
  rw[hob]at HR;clear ho hob;unfold aW at *;dsimp only at *
  go_enter func47,ntmps47
  go_wp2_with fail
  go_region_held2 (fun w'=>w'.cell? ⟨w.heap.size,2,none⟩=some (.int .i64 m)/\w'.cell? ⟨w.heap.size,3,none⟩=some (.int .i64 l)) (first|exact hk0|exact dP|assumption|fail) (first
   | (revert j1;intro j1;go_at_call 47;(with_reducible refine j1.mono ?_);rintro e w1 ⟨F1,i1,dU,hp1,⟨L1,M1,q1,d1,hs1,rfl,lZ,hO2⟩|⟨hs1,rfl,M1,hpm,hO2⟩⟩;(case inr=>exact⟨rfl,HQ.out _ _ ⟨F1,i1,rW.out.trans dU,hp1,Or.inr ⟨by rw[HR.out,<-HR1.out,hs1];rfl,rfl,M1,hpm,hO2⟩⟩⟩);have hbk1:=qj JI.out Q7.out dU;have hk1:=dL.out _ hbk1.1;have j2:=HD.out _ F1 i1 M1 l hO2 (HL.out.pre hp1);have DT:=(xI c HG.out HK.out.1 (HR1.out.symm.trans hs1)).1;have Y7:=G5 c (HR1.out.symm.trans hs1))
   | (revert j2;intro j2;go_at_call 47;(with_reducible refine j2.mono ?_);rintro e w2 ⟨F2,i2,dA,hp2,⟨L2,M2,q2,d2,hs2,rfl,iY,hO3⟩|⟨hs2,rfl,M2,hpm,hO3⟩⟩;(case inr=>exact⟨rfl,HQ.out _ _ ⟨F2,i2,(rW.out.trans dU).trans dA,hp1.trans hp2,Or.inr ⟨by rw[HR.out,<-HR1.out,hs1];show bindM (aH d M1) _=none;rw[hs2];rfl,rfl,M2,DT.pre.trans hpm,hO3⟩⟩⟩);have hbk2:=qj hbk1.1 hbk1.2 dA;have hk2:=dL.out _ hbk2.1;have J9:=(xI d DT.good HK.out.2 hs2).1;have Y8:=G5 d hs2;have j3:=qL (U3 T0 p vs) true hO3 (lZ.fr dA) iY ⟨yU DT.bd DT.good.few,Y7⟩ ⟨yU J9.bd J9.good.few,Y8⟩;unfold vk at j3;simp only[if_true]at j3)
   | (revert j3;intro j3;go_at_call 76;(with_reducible refine j3.mono ?_);rintro e w3 ⟨F3,i3,eF,hp3,⟨L3,M3,q3,d3,hs3,rfl,nT,hO4⟩|⟨hs3,rfl,M3,hpm,hO4⟩⟩;(case inr=>exact⟨rfl,HQ.out _ _ ⟨F3,i3,((rW.out.trans dU).trans dA).trans eF,(hp1.trans hp2).trans hp3,Or.inr ⟨by rw[HR.out,<-HR1.out,hs1];show bindM (aH d M1) _=none;rw[hs2];exact hs3,rfl,M3,(DT.pre.trans J9.pre).trans hpm,hO4⟩⟩⟩);have hk3:=dL.out _ (qj hbk2.1 hbk2.2 eF).1;have HE:Hid (Q (.returned (.slice q3 L3.length d3)) w3):=(HQ.out _ _ ⟨F3,i3,((rW.out.trans dU).trans dA).trans eF,(hp1.trans hp2).trans hp3,Or.inl ⟨L3,M3,q3,d3,by rw[HR.out,<-HR1.out,hs1];show bindM (aH d M1) _=_;rw[hs2];exact hs3,rfl,nT,hO4⟩⟩))
   |fail)
  all_goals
   clear j1 j2 j3;go_wp2;exact HE.out
 ·have n11:=aP op 11 (by omega)
  have n12:((op:Int)==12)=true:=by rw[beq_iff_eq];omega
  have hob:(op==11)=false:=by simp[ho]
  rw[hob]at HR;clear ho hob;unfold aW at *;dsimp only at *
  go_enter func47,ntmps47
  go_wp2_with fail
  go_region_held2 (fun w'=>w'.cell? ⟨w.heap.size,2,none⟩=some (.int .i64 m)/\w'.cell? ⟨w.heap.size,3,none⟩=some (.int .i64 l)) (first|exact hk0|exact dP|assumption|fail) (first
   | (revert j1;intro j1;go_at_call 47;(with_reducible refine j1.mono ?_);rintro e w1 ⟨F1,i1,dU,hp1,⟨L1,M1,q1,d1,hs1,rfl,lZ,hO2⟩|⟨hs1,rfl,M1,hpm,hO2⟩⟩;(case inr=>exact⟨rfl,HQ.out _ _ ⟨F1,i1,rW.out.trans dU,hp1,Or.inr ⟨by rw[HR.out,<-HR1.out,hs1];rfl,rfl,M1,hpm,hO2⟩⟩⟩);have hbk1:=qj JI.out Q7.out dU;have hk1:=dL.out _ hbk1.1;have j2:=HD.out _ F1 i1 M1 l hO2 (HL.out.pre hp1);have DT:=(xI c HG.out HK.out.1 (HR1.out.symm.trans hs1)).1;have Y7:=G5 c (HR1.out.symm.trans hs1))
   | (revert j2;intro j2;go_at_call 47;(with_reducible refine j2.mono ?_);rintro e w2 ⟨F2,i2,dA,hp2,⟨L2,M2,q2,d2,hs2,rfl,iY,hO3⟩|⟨hs2,rfl,M2,hpm,hO3⟩⟩;(case inr=>exact⟨rfl,HQ.out _ _ ⟨F2,i2,(rW.out.trans dU).trans dA,hp1.trans hp2,Or.inr ⟨by rw[HR.out,<-HR1.out,hs1];show bindM (aH d M1) _=none;rw[hs2];rfl,rfl,M2,DT.pre.trans hpm,hO3⟩⟩⟩);have hbk2:=qj hbk1.1 hbk1.2 dA;have hk2:=dL.out _ hbk2.1;have J9:=(xI d DT.good HK.out.2 hs2).1;have Y8:=G5 d hs2;have j3:=qL (U3 T0 p vs) false hO3 (lZ.fr dA) iY ⟨yU DT.bd DT.good.few,Y7⟩ ⟨yU J9.bd J9.good.few,Y8⟩;unfold vk at j3;simp only[Bool.false_eq_true,if_false]at j3)
   | (revert j3;intro j3;go_at_call 77;(with_reducible refine j3.mono ?_);rintro e w3 ⟨F3,i3,eF,hp3,⟨L3,M3,q3,d3,hs3,rfl,nT,hO4⟩|⟨hs3,rfl,M3,hpm,hO4⟩⟩;(case inr=>exact⟨rfl,HQ.out _ _ ⟨F3,i3,((rW.out.trans dU).trans dA).trans eF,(hp1.trans hp2).trans hp3,Or.inr ⟨by rw[HR.out,<-HR1.out,hs1];show bindM (aH d M1) _=none;rw[hs2];exact hs3,rfl,M3,(DT.pre.trans J9.pre).trans hpm,hO4⟩⟩⟩);have hk3:=dL.out _ (qj hbk2.1 hbk2.2 eF).1;have HE:Hid (Q (.returned (.slice q3 L3.length d3)) w3):=(HQ.out _ _ ⟨F3,i3,((rW.out.trans dU).trans dA).trans eF,(hp1.trans hp2).trans hp3,Or.inl ⟨L3,M3,q3,d3,by rw[HR.out,<-HR1.out,hs1];show bindM (aH d M1) _=_;rw[hs2];exact hs3,rfl,nT,hO4⟩⟩))
   |fail)
  all_goals
   clear j1 j2 j3;go_wp2;exact HE.out
theorem q9d(i op pp:Nat)(xa xb:Int)(S:Tr)(h:iE T0 w F p vs aj M)(hx:aj[i]? =some ⟨op,pp,xa,xb⟩)(ho:op=0\/op=1)(hs:aH S M=some (bU (op==0),M)):
  Calls prog 47 #[.pointer (some ⟨p,0,none⟩),.int .i64 i] w (cO (fun w F aj M=>iE T0 w F p vs aj M) w F aj M (aH S M)):=by
 obtain⟨G,rest,hpo⟩:=h.part;obtain⟨a,n,cap,g,o,c0,hidx,x0,x1,x2,x3⟩:=hpo.at hx;have hb:=qd w (aW ⟨op,pp,xa,xb⟩);obtain⟨Q,hQ⟩:∃Q:Ending->World->Prop,Q=cO (fun w F aj M=>iE T0 w F p vs aj M) w F aj M (aH S M):=⟨_,rfl⟩
 have HQ:Hid (∀e w',cO (fun w F aj M=>iE T0 w F p vs aj M) w F aj M (aH S M) e w'->Q e w'):=fun e w' h=>by rw[hQ];exact h
 rw[<-hQ];have rW:Hid (Fr w (w.alloc (aW ⟨op,pp,xa,xb⟩)) F F):=Fr.au hb;have HN:Hid (∀l e w',rJ l (w.alloc (aW ⟨op,pp,xa,xb⟩)) e w'->l=bU (op==0)->Q e w'):=fun l e w' hn hl=>HQ.out e w' (by rw[hs,<-hl];exact(QZ (U3 T0 p vs) (h.up hb) hn).after rW.out (List.prefix_refl _) (List.prefix_refl _))
 have jj:=P6 (w.alloc (aW ⟨op,pp,xa,xb⟩));clear h hx hpo hb hQ HQ hs rW;rcases ho with rfl|rfl
 ·unfold aW at *
  dsimp only at *
  go_enter func47,ntmps47
  go_wp2_with fail
  refine jj.mono ?_
  rintro e w1 ⟨q,C,rfl,hU,hbb,hf⟩
  have HE:Hid (Q (.returned (.slice q [0].length C)) w1):=HN.out [0] _ _ ⟨q,C,rfl,hU,hbb,hf⟩ rfl;clear jj hU hbb hf;go_wp2;exact HE.out
 ·have HE:Hid (Q (.returned (.slice none 0 0)) (w.alloc (aW ⟨1,pp,xa,xb⟩))):=HN.out [] _ _ (QG _ _ (Below.refl _ _)) rfl
  unfold aW at *;dsimp only at *
  clear jj;go_enter func47,ntmps47
  go_wp2;exact HE.out
theorem qbO(n:Nat)(w:World):rJ [2 ^ n] w (.returned (.slice (some ⟨w.heap.size,0,none⟩) 1 1)) (w.alloc (.cells #[.int .u64 (2 ^ n:Nat)] 37)) :=
 ⟨_,1,rfl,OB [2 ^ n] w (by simp),qd _ _,fun k hk=>by simp[aG,qi]⟩
theorem Y9(i op pp:Nat)(xa xb:Int)(S:Tr)(h:iE T0 w F p vs aj M)(hx:aj[i]? =some ⟨op,pp,xa,xb⟩)(ho:op≠0/\op≠1/\op≠11/\op≠12)(hi:Rep aj i S)(hS:jD T0 S)(kS:KT S)(hs:aH S M=dQ S.flat M):
  Calls prog 47 #[.pointer (some ⟨p,0,none⟩),.int .i64 i] w (cO (fun w F aj M=>iE T0 w F p vs aj M) w F aj M (aH S M)):=by
 obtain⟨G,rest,hpo⟩:=h.part;obtain⟨a,n,cap,g,o,c0,hidx,x0,x1,x2,x3⟩:=hpo.at hx;have hb:=qd w (aW ⟨op,pp,xa,xb⟩);obtain⟨Q,hQ⟩:∃Q:Ending->World->Prop,Q=cO (fun w F aj M=>iE T0 w F p vs aj M) w F aj M (aH S M):=⟨_,rfl⟩
 have HQ:Hid (∀e w',cO (fun w F aj M=>iE T0 w F p vs aj M) w F aj M (aH S M) e w'->Q e w'):=fun e w' h=>by rw[hQ];exact h
 rw[<-hQ];have rW:Hid (Fr w (w.alloc (aW ⟨op,pp,xa,xb⟩)) F F):=Fr.au hb;have jm:=q9b (h.up hb) i S hi hS kS;have n0:=aP op 0 (by omega)
 have n1:=aP op 1 (by omega)
 have n11:=aP op 11 (by omega)
 have n12:=aP op 12 (by omega)
 rw[hs]at HQ;clear h hx hpo hb hQ hs ho hi hS kS;unfold aW at *;dsimp only at *
 go_enter func47,ntmps47
 go_wp2_with fail
 refine jm.mono ?_
 rintro e w1 ⟨F1,dU,⟨k,M1,hm,hk,rfl,hO⟩|⟨hm,rfl,hO⟩⟩
 ·have HE:Hid (Q (.returned (.slice (some ⟨w1.heap.size,0,none⟩) 1 1)) (w1.alloc (.cells #[.int .u64 (2 ^ k:Nat)] 37))):=HQ.out _ _ (by
   rw[hm];obtain⟨F2,i2,f2,p2,h2⟩:=QZ (U3 T0 p vs) hO (qbO k w1);refine⟨F2,i2,(rW.out.trans dU).trans f2,p2,Or.inl ?_⟩
   rcases h2 with⟨L,M',q,d,e,h3⟩|⟨e,_⟩
   ·exact⟨L,M',q,d,e,h3⟩
   ·cases e)
  have hpw:IntKind.u64.wrap (2 ^ k)=((2 ^ k:Nat):Int):=by
   have:(2:Nat) ^ k<2 ^ 64:=Nat.pow_lt_pow_right (by decide) hk
   rw[IntKind.wrap_u64,show ((2:Int) ^ k)=((2 ^ k:Nat):Int) by simp]
   generalize 2 ^ k=y at this ⊢
   omega
  have HPW:Hid _:=hpw;clear jm hm dU hO hpw;go_wp2;have e:=HPW.out;rw[e];exact HE.out
 ·exact⟨rfl,HQ.out _ _ ⟨F1,aj,rW.out.trans dU,List.prefix_refl _,Or.inr ⟨hm,rfl,M,List.prefix_refl _,hO⟩⟩⟩
theorem U4{T0:Tr}{p:Nat}{vs:Value}:∀(S:Tr),KT S->jD T0 S->Ag T0 p vs S
 | .leaf (op,pp),kS,hS=>by
  intro w F aj M i h hi;have hx:aj[i]? =some ⟨op,pp,-1,-1⟩:=by cases hi with|leaf h=>exact h
  by_cases ho:op=0\/op=1
  ·refine q9d i op pp (-1) (-1) _ h hx ho ?_
   unfold aH;rcases ho with rfl|rfl
   ·rfl
   ·rfl
  ·have h4:op≠0/\op≠1/\op≠11/\op≠12:=by rcases Aw kS with⟨rfl,_⟩|⟨_,hh⟩<;>omega
   refine Y9 i op pp (-1) (-1) _ h hx h4 hi hS kS ?_
   unfold aH;rw[if_neg (by dsimp only;omega),if_neg (by dsimp only;omega)]
 | .un (op,pp) c,kS,hS=>by
  intro w F aj M i h hi;obtain⟨m,hx⟩:∃m:Nat,aj[i]? =some ⟨op,pp,(m:Int),-1⟩:=by cases hi with|un h h1 h2=>exact⟨_,h⟩
  have h4:op≠0/\op≠1/\op≠11/\op≠12:=by rcases ku kS with⟨_,⟨rfl,_⟩|⟨hh,_⟩⟩<;>omega
  exact Y9 i op pp (m:Int) (-1) _ h hx h4 hi hS kS rfl
 | .bin (op,pp) c d,kS,hS=>by
  by_cases ho:op=11\/op=12
  ·obtain⟨kc,kd⟩:=qB kS (by omega)
   obtain⟨ic,id,_⟩:=ML hS;exact q9c op pp ho c d kS (U4 c kc ic) (U4 d kd id)
  ·intro w F aj M i h hi
   obtain⟨m,l,hx⟩:∃m l:Nat,aj[i]? =some ⟨op,pp,(m:Int),(l:Int)⟩:=by cases hi with|bin h h1 h2 h3 h4=>exact⟨_,_,h⟩
   obtain⟨_,hh⟩:=xG kS;refine Y9 i op pp (m:Int) (l:Int) _ h hx (by omega) hi hS kS ?_
   rw[aH,if_neg ho]
def wF(v:Value):Option (DataW Value×List MemPlace):=some (.held v,[])
def DU(i:Nat):Lit:=.int .i64 i
theorem rA:Keyed prog 3:=int_keyed underlying3
theorem rB(i:Nat)(h:i<=100000000):keyOf prog 3 (.int .i64 i)=some (DU i):=keyOf_int_mk underlying3 (WalkArith.wf_i64 (by omega))
theorem qhu{y:Nat}(h:DU x=DU y):x=y:=by
 injection h with _ h
 omega
theorem Za(i:Nat):WideAt.IsKeyLit (DU i):=trivial
def lH(w:World)(b:Nat)(ks:List Nat)(f:Nat->Option Value):Prop :=
 ∃D:DataW Value,w.ownsMap prog 3 wF b ks.length D/\Tidy D/\Maps.size D=ks.length/\ks.Nodup/\(∀i,(f i).isSome=true↔i∈ks)/\∀i,i<=100000000->has D (DU i)=(f i).isSome/\∀v,f i=some v->D.atKey (DU i) (.held (.slice none 0 0))=.held v
theorem lH.lt(h:lH w b ks f):b<w.heap.size:=by
 obtain⟨D,h,_⟩:=h;exact h.lt
theorem lH.far(h:lH w b ks f)(hb:w'.heap[b]? =w.heap[b]?):lH w' b ks f:=by
 obtain⟨D,⟨es,clock,h1,h2⟩,r⟩:=h;exact⟨D,⟨es,clock,hb.trans h1,h2⟩,r⟩
theorem lH.isMap(h:lH w b ks f):∃es c,w.heap[b]? =some (.map es c):=by
 obtain⟨D,⟨es,clock,h1,h2⟩,r⟩:=h;exact⟨es,clock,h1⟩
theorem rI(w:World):lH (w.alloc (.map #[] 0)) w.heap.size [] (fun _=>none) :=
 ⟨.map [],World.ownsMap_made _ _ _ _,tidy_empty,rfl,by simp,fun i=>by simp,fun i _=>⟨rfl,fun v hv=>by cases hv⟩⟩
theorem qco(w:World):(zeroValue 36).run prog w=.ok (.slice none 0 0) w:=by kernel_rfl
theorem lH.look(h:lH w b ks f)(hi:i<=100000000):
  (Instr.lookup 98 (.map (some b)) (.int .i64 i) true).run prog w=.ok (.tuple #[(f i).getD (.slice none 0 0),.bool (f i).isSome]) w:=by
 obtain⟨D,h1,h2,_,h3,_,h4⟩:=h;obtain⟨hh,ha⟩:=h4 i hi;obtain⟨v,ps,hrun,hv⟩:=h1.look_ok rA underlying98 (qco w) (zd:=.held (.slice none 0 0)) (zp:=[]) rfl (rB i hi)
 have hc:D.atKey (DU i) (.held (.slice none 0 0))=.held v:=by
  unfold wF at hv;injection hv with hv;injection hv with hv _;exact hv.symm
 rw[hrun,hh]
 cases hf:f i with
 |none=>
  rw[hf]at hh;rw[atKey_of_not_has hh]at hc;injection hc with hc;subst hc
  rfl
 |some u=>
  rw[ha u hf]at hc;injection hc with hc;subst hc
  rfl
def Bg(ks:List Nat)(i:Nat):List Nat:=if i∈ks then ks else i::ks
theorem lH.put{w:World}{b:Nat}{ks:List Nat}{f:Nat->Option Value}(h:lH w b ks f)(hn:ks.length<=100000000){i:Nat}(hi:i<=100000000)(v:Value):
  ∃w',(Instr.mapUpdate 98 (.map (some b)) (.int .i64 i) v).run prog w=.ok () w'/\lH w' b (Bg ks i) (fun y=>if y=i then some v else f y)/\w.grownBy w' (some b):=by
 obtain⟨D,h1,h2,h6,h3,h5,h4⟩:=h;obtain⟨w',hrun,hown,hg⟩:=h1.update rA underlying98 (by unfold maxLen;omega) (rB i hi) (val:=v) (d:=.held v) (ps:=[]) rfl
 have hsz:Maps.size (D.put (DU i) (.held v))=(Bg ks i).length:=by
  rw[size_put h2,(h4 i hi).1,h6];unfold Bg;by_cases hm:i∈ks
  ·rw[if_pos hm,(h5 i).2 hm];rfl
  ·have:(f i).isSome=false:=by
    cases hq:(f i).isSome with
    |false=>rfl
    |true=>exact absurd ((h5 i).1 hq) hm
   rw[if_neg hm,this];rfl
 have hown':w'.ownsMap prog 3 wF b (Bg ks i).length (D.put (DU i) (.held v)):=by
  obtain⟨es,clock,g1,g2,g3,g4⟩:=hown;refine⟨es,clock,g1,g2,?_,g4⟩
  rw[<-hsz,g4];simp[Maps.size,length_sorted]
 refine⟨w',hrun,⟨_,hown',h2.put (Za i) _,hsz,?_,fun y=>?_,fun y hy=>?_⟩,hg⟩
 ·unfold Bg
  by_cases hm:i∈ks
  ·rw[if_pos hm];exact h3
  ·rw[if_neg hm];exact List.nodup_cons.2 ⟨hm,h3⟩
 ·dsimp only
  unfold Bg;by_cases e:y=i
  ·subst e
   by_cases hm:y∈ks
   ·rw[if_pos rfl,if_pos hm];simp[hm]
   ·rw[if_pos rfl,if_neg hm];simp
  ·rw[if_neg e,h5 y]
   by_cases hm:i∈ks
   ·rw[if_pos hm]
   ·rw[if_neg hm];simp[e]
 ·dsimp only
  by_cases e:y=i
  ·subst e
   rw[if_pos rfl];refine⟨has_put_same h2.isMap (Za y) _,fun u hu=>?_⟩
   injection hu with hu;subst hu;exact atKey_put_same h2.isMap (Za y) _ _
  ·have ne:DU y≠DU i:=fun he=>e (qhu he)
   rw[if_neg e,has_put_other ne];refine⟨(h4 y hy).1,fun u hu=>?_⟩
   rw[atKey_put_other ne];exact(h4 y hy).2 u hu
def lD(F:FuncId):Prop:=∀args w,(callFunc F args).run prog w=.ok (.enter F args) w
theorem rK(b i fid:Nat)(u v:Value)(w:World)(hlook:(Instr.lookup 98 (.map (some b)) (.int .i64 i) true).run prog w=.ok (.tuple #[v,.bool true]) w):
  Calls prog 103 #[.map (some b),.int .i64 i,.func (.func fid) #[u] #[]] w fun e w'=>e=.returned v/\w'=w:=by
 go_enter func103,ntmps103
 go_wp2;go_ret
 exact⟨rfl,rfl⟩
theorem rL(b i fid:Nat)(u:Value)(w:World)(Q:Ending->World->Prop)(hE:lD fid)(hlook:(Instr.lookup 98 (.map (some b)) (.int .i64 i) true).run prog w=.ok (.tuple #[.slice none 0 0,.bool false]) w)
  (jw:Calls prog fid #[u,.int .i64 i] w fun e w'=>(∃v w'',e=.returned v/\(Instr.mapUpdate 98 (.map (some b)) (.int .i64 i) v).run prog w'=.ok () w''/\Q (.returned v) w'')\/(e=.panicked gK/\Q (.panicked gK) w')):
  Calls prog 103 #[.map (some b),.int .i64 i,.func (.func fid) #[u] #[]] w Q:=by
 unfold lD at hE;go_enter func103,ntmps103
 go_wp2_with fail
 refine jw.mono ?_
 rintro e w1 (⟨v,w2,rfl,hrun,hq⟩|⟨rfl,hq⟩)
 ·have HQ:Hid _:=hq
  clear jw hq;go_wp2;exact HQ.out
 ·exact⟨rfl,hq⟩
def Told(w:World)(F:Nat->Prop)(aj:List It)(M:Mt)(g:Tr->Mt->Rt)(i:Nat)(v:Value):Prop :=
 ∃(a:Option Addr) (c:Nat) (l:List Nat) (S:Tr),v=.slice a l.length c/\US w F a l.length c l/\nN l/\Rep aj i S/\∀M2,M <+: M2->g S M2=some (l,M2)
theorem Told.go{F':Nat->Prop}{g:Tr->Mt->Rt}{v:Value}(h:Told w F aj M g i v)(fr:Fr w w' F F')(hi:aj <+: aI)(hM:M <+: M'):Told w' F' aI M' g i v:=by
 obtain⟨a,c,l,S,h1,h2,h3,h4,h5⟩:=h;exact⟨a,c,l,S,h1,h2.fr fr,h3,h4.pre hi,fun M2 h=>h5 M2 (hM.trans h)⟩
structure yB(T0:Tr)(p:Nat)(vs:Value)(x bn bl:Nat)(w:World)(F F1:Nat->Prop)(aj:List It)(M:Mt)(kn kl:List Nat)(fn fl:Nat->Option Value):Prop where
 pg:iE T0 w F1 p vs aj M
 mn:lH w bn kn fn
 ml:lH w bl kl fl
 ne:bn≠bl
 nn:¬F1 bn
 nl:¬F1 bl
 ff:∀k,F k↔(F1 k\/k=bn\/k=bl)
 tn:∀i v,fn i=some v->Told w F aj M aH i v
 tl:∀i v,fl i=some v->Told w F aj M (fun S=>bK S x) i v
def gB(T0:Tr)(p:Nat)(vs:Value)(x bn bl:Nat):Gm:=fun w F aj M=>∃F1 kn kl fn fl,yB T0 p vs x bn bl w F F1 aj M kn kl fn fl
theorem yB.lt{T0:Tr}{p:Nat}{vs:Value}{x bn bl:Nat}{w:World}{F F1:Nat->Prop}{aj:List It}{M:Mt}{kn kl:List Nat}{fn fl:Nat->Option Value}(h:yB T0 p vs x bn bl w F F1 aj M kn kl fn fl):∀k,F k->k<w.heap.size:=fun k hk=>by
 rcases (h.ff k).1 hk with e|e|e
 ·exact h.pg.lt k e
 ·rw[e];exact h.mn.lt
 ·rw[e];exact h.ml.lt
theorem yB.up{T0:Tr}{p:Nat}{vs:Value}{x bn bl:Nat}{w w':World}{F F1:Nat->Prop}{aj:List It}{M:Mt}{kn kl:List Nat}{fn fl:Nat->Option Value}(h:yB T0 p vs x bn bl w F F1 aj M kn kl fn fl)(hb:Below w.heap.size w w'):yB T0 p vs x bn bl w' F F1 aj M kn kl fn fl :=
 ⟨h.pg.up hb,h.mn.far (hb.block _ h.mn.lt),h.ml.far (hb.block _ h.ml.lt),h.ne,h.nn,h.nl,h.ff,fun i v hv=>(h.tn i v hv).go (Fr.au hb) (List.prefix_refl _) (List.prefix_refl _),fun i v hv=>(h.tl i v hv).go (Fr.au hb) (List.prefix_refl _) (List.prefix_refl _)⟩
theorem qs(T0:Tr)(p:Nat)(vs:Value)(x bn bl:Nat):Bf (gB T0 p vs x bn bl) :=
 ⟨fun⟨_,_,_,_,_,h⟩=>h.lt,fun⟨F1,kn,kl,fn,fl,h⟩ hb=>⟨F1,kn,kl,fn,fl,h.up hb⟩⟩
theorem yB.prog{IC:Nat->Prop}{kn kl:List Nat}{fn fl:Nat->Option Value}(h:yB T0 p vs x bn bl w F F1 aj M kn kl fn fl)(hp:iE T0 w' IC p vs aI M')(fr:Fr w w' F1 IC)(hi:aj <+: aI)(hM:M <+: M'):
  yB T0 p vs x bn bl w' (fun k=>IC k\/k=bn\/k=bl) IC aI M' kn kl fn fl/\Fr w w' F (fun k=>IC k\/k=bn\/k=bl):=by
 have dA:Fr w w' F (fun k=>IC k\/k=bn\/k=bl):=⟨fr.os,fr.tape,fr.output,fr.size,fun k hk hF=>fr.keep k hk fun e=>hF ((h.ff k).2 (Or.inl e)),fun k hk=>by
  rcases hk with e|e|e
  ·exact(fr.foot k e).imp (fun e=>(h.ff k).2 (Or.inl e)) id
  ·exact Or.inl ((h.ff k).2 (Or.inr (Or.inl e)))
  ·exact Or.inl ((h.ff k).2 (Or.inr (Or.inr e)))⟩
 exact⟨⟨hp,h.mn.far (fr.keep _ h.mn.lt h.nn),h.ml.far (fr.keep _ h.ml.lt h.nl),h.ne,fr.out h.nn h.mn.lt,fr.out h.nl h.ml.lt,fun k=>Iff.rfl,fun i v hv=>(h.tn i v hv).go dA hi hM,fun i v hv=>(h.tl i v hv).go dA hi hM⟩,dA⟩
theorem rN(hn:ks.Nodup)(h:∀i∈ks,i<aj.length):ks.length<=aj.length:=by
 have:=Yc (m:=List.range aj.length) hn fun i hi=>List.mem_range.2 (h i hi)
 simpa using this
section
variable {T0:Tr}{p:Nat}{vs:Value}{x bn bl:Nat}{w w':World}{F F1:Nat->Prop}{aj:List It}{M:Mt}{kn kl U5:List Nat}{fn fl fn':Nat->Option Value}
theorem yB.Zb(h:yB T0 p vs x bn bl w F F1 aj M kn kl fn fl)(hm:lH w' bn U5 fn')(hg:w.grownBy w' (some bn))(ht:∀i v,fn' i=some v->Told w F aj M aH i v):yB T0 p vs x bn bl w' F F1 aj M U5 kl fn' fl/\Fr w w' F F:=by
 have st:∀k,k<w.heap.size->k≠bn->w'.heap[k]? =w.heap[k]? := fun k hk hne=>hg.block k hk (fun e=>hne (by injection e))
 have fr:Fr w w' F F:=⟨hg.os,hg.tape,hg.output,hg.size,fun k hk hF=>st k hk fun e=>hF ((h.ff k).2 (Or.inr (Or.inl e))),fun _ hk=>Or.inl hk⟩
 exact⟨⟨h.pg.far fun k hk=>st k (h.pg.lt k hk) (fun e=>h.nn (e ▸ hk)),hm,h.ml.far (st bl h.ml.lt (fun e=>h.ne e.symm)),h.ne,h.nn,h.nl,h.ff,fun i v hv=>(ht i v hv).go fr (List.prefix_refl _) (List.prefix_refl _),fun i v hv=>(h.tl i v hv).go fr (List.prefix_refl _) (List.prefix_refl _)⟩,fr⟩
theorem yB.Zc(h:yB T0 p vs x bn bl w F F1 aj M kn kl fn fl)(hm:lH w' bl U5 fn')(hg:w.grownBy w' (some bl))(ht:∀i v,fn' i=some v->Told w F aj M (fun S=>bK S x) i v):yB T0 p vs x bn bl w' F F1 aj M kn U5 fn fn'/\Fr w w' F F:=by
 have st:∀k,k<w.heap.size->k≠bl->w'.heap[k]? =w.heap[k]? := fun k hk hne=>hg.block k hk (fun e=>hne (by injection e))
 have fr:Fr w w' F F:=⟨hg.os,hg.tape,hg.output,hg.size,fun k hk hF=>st k hk fun e=>hF ((h.ff k).2 (Or.inr (Or.inr e))),fun _ hk=>Or.inl hk⟩
 exact⟨⟨h.pg.far fun k hk=>st k (h.pg.lt k hk) (fun e=>h.nl (e ▸ hk)),h.mn.far (st bn h.mn.lt h.ne),hm,h.ne,h.nn,h.nl,h.ff,fun i v hv=>(h.tn i v hv).go fr (List.prefix_refl _) (List.prefix_refl _),fun i v hv=>(ht i v hv).go fr (List.prefix_refl _) (List.prefix_refl _)⟩,fr⟩
theorem yB.small(h:yB T0 p vs x bn bl w F F1 aj M kn kl fn fl):aj.length<=20000000/\kn.length<=20000000/\kl.length<=20000000:=by
 obtain⟨G,rest,hpo⟩:=h.pg.part;have hf:=hpo.few;obtain⟨D,_,_,_,nd1,k1,_⟩:=h.mn;obtain⟨D2,_,_,_,nd2,k2,_⟩:=h.ml
 have a:=rN (aj:=aj) nd1 fun i hi=>by
  obtain⟨v,hv⟩:=Option.isSome_iff_exists.1 ((k1 i).2 hi);obtain⟨_,_,_,_,_,_,_,hr,_⟩:=h.tn i v hv;exact hr.lt
 have b:=rN (aj:=aj) nd2 fun i hi=>by
  obtain⟨v,hv⟩:=Option.isSome_iff_exists.1 ((k2 i).2 hi);obtain⟨_,_,_,_,_,_,_,hr,_⟩:=h.tl i v hv;exact hr.lt
 omega
end
theorem qav:lD 47:=fun _ _=>rfl
theorem q81:lD 104:=fun _ _=>rfl
theorem qgA(hM:dM M)(hS:KT S)(h:aH S M=some (L,M')):nN L/\M <+: M':=by
 have ex:=(xI S hM hS h).1;exact⟨⟨yU ex.bd ex.good.few,G5 S h⟩,ex.pre⟩
theorem qX(h:gB T0 p vs x bn bl w F aj M)(i:Nat)(S:Tr)(hi:Rep aj i S)(kS:KT S)(hS:jD T0 S):
  Calls prog 127 #[iM p x bn bl,.int .i64 i] w (cO (gB T0 p vs x bn bl) w F aj M (aH S M)):=by
 obtain⟨F1,kn,kl,fn,fl,hr⟩:=h;have hb:=qd w (cu p x bn bl);have hr1:=hr.up hb;have hbx:=(dO w (cu p x bn bl)).1;have hsm:=hr.small;have hil:=hi.lt;have hlk:=hr1.mn.look (i:=i) (by omega)
 have jj:Calls prog 103 #[.map (some bn),.int .i64 i,.func (.func 47) #[.pointer (some ⟨p,0,none⟩)] #[]] (w.alloc (cu p x bn bl)) (cO (gB T0 p vs x bn bl) w F aj M (aH S M)):=by
  cases hf:fn i with
  |some v=>
   rw[hf]at hlk;obtain⟨a,c,l,S',rfl,hU,hl,hrep,hag⟩:=hr1.tn i v hf;have e:=Rep.tree hrep hi;subst e;refine (rK bn i _ _ _ _ hlk).mono ?_
   rintro e w' ⟨rfl,rfl⟩
   exact⟨F,aj,Fr.au hb,List.prefix_refl _,Or.inl ⟨l,M,a,c,hag M (List.prefix_refl _),rfl,hU,F1,kn,kl,fn,fl,hr1⟩⟩
  |none=>
   rw[hf]at hlk;refine rL bn i _ _ _ _ qav hlk ?_
   refine (U4 S kS hS _ F1 aj M i hr1.pg hi).mono ?_
   rintro e w1 ⟨IC,i1,dU,hp1,⟨L,M1,q,d,hs,rfl,hU,hO⟩|⟨hs,rfl,M1,hM1,hO⟩⟩
   ·obtain⟨hL,hpre⟩:=qgA hr.pg.good kS hs
    obtain⟨hr2,dA⟩:=hr1.prog hO dU hp1 hpre;obtain⟨w2,hrun,hm2,hg2⟩:=hr2.mn.put (by have:=hr2.small;omega) (i:=i) (by omega) (.slice q L.length d)
    have iY:US w1 (fun k=>IC k\/k=bn\/k=bl) q L.length d L:=⟨hU.sl,fun k hk hF=>by
     rcases hF with e|e|e
     ·exact hU.nf k hk e
     ·have hc:=hU.sl.cell k hk
      obtain⟨es,cl,hmap⟩:=hr2.mn.isMap;rw[<-e]at hmap;unfold World.cell? at hc;rw[hmap]at hc;simp at hc
     ·have hc:=hU.sl.cell k hk
      obtain⟨es,cl,hmap⟩:=hr2.ml.isMap;rw[<-e]at hmap;unfold World.cell? at hc;rw[hmap]at hc;simp at hc⟩
    obtain⟨hr3,eF⟩:=hr2.Zb hm2 hg2 fun y v hv=>by
     by_cases e:y=i
     ·subst e
      simp at hv
      subst hv;exact⟨q,d,L,S,rfl,iY,hL,hi.pre hp1,fun M2 h2=>(q1z S M L M1 hs).2 M2 h2⟩
     ·simp[e]at hv
      exact hr2.tn y v hv
    exact Or.inl ⟨_,w2,rfl,hrun,_,i1,((Fr.au hb).trans dA).trans eF,hp1,Or.inl ⟨L,M1,q,d,hs,rfl,iY.fr eF,_,_,_,_,_,hr3⟩⟩
   ·obtain⟨hr2,dA⟩:=hr1.prog hO dU hp1 hM1
    exact Or.inr ⟨rfl,_,i1,(Fr.au hb).trans dA,hp1,Or.inr ⟨hs,rfl,M1,hM1,_,_,_,_,_,hr2⟩⟩
 have b0:(w.alloc (cu p x bn bl)).cell? ⟨w.heap.size,0,none⟩=some (.pointer (some ⟨p,0,none⟩)):=qc hbx 0;have b2:(w.alloc (cu p x bn bl)).cell? ⟨w.heap.size,2,none⟩=some (.map (some bn)):=qc hbx 2;generalize aH S M=r at *;clear hr hr1 hb hbx hsm hil hlk hi kS hS;obtain⟨Q,hQ⟩:∃Q:Ending->World->Prop,Q=cO (gB T0 p vs x bn bl) w F aj M r:=⟨_,rfl⟩
 rw[<-hQ];have HQ:=aX hQ;clear hQ;unfold cu iM at *;go_enter func127,ntmps127
 go_wp2_with fail
 refine jj.mono ?_
 intro e w1 hq;have hq':=hq;obtain⟨F',i',_,_,⟨L,M',q,d,_,rfl,_⟩|⟨_,rfl,_⟩⟩:=hq'
 ·have HE:Hid (Q (.returned (.slice q L.length d)) w1):=by show Q _ _;rw[HQ.out];exact hq
  clear jj hq;go_wp2;exact HE.out
 ·refine⟨rfl,?_⟩
  rw[HQ.out];exact hq
theorem Zd(b:Bool):(bU b).length<=1024:=by cases b<;>decide
theorem Ze(x:Nat):∀n,(∀T M L M',eu n T x M=some (L,M')->L.length<=1024)/\(∀box r s f M L M',fO n box r s f x M=some (L,M')->L.length<=1024)
 | 0=>⟨fun T M L M' h=>(by rw[Jb]at h;cases h),fun box r s f M L M' h=>(by rw[LQ]at h;cases h)⟩
 |n+1=>by
  obtain⟨ih,jh⟩:=Ze x n;refine⟨fun T M L M' h=>?_,fun box r s f M L M' h=>?_⟩
  ·match T,h with
   | .leaf k,h=>
    rw[EX]at h;injection h with h;injection h with h1 _;subst h1;exact Zd _
   | .un k c,h=>
    rw[CJ]at h
    split at h
    ·injection h with h;injection h with h1 _;subst h1;exact Zd _
    ·split at h
     ·obtain⟨_,_,_,h2⟩:=qg h
      obtain⟨_,_,_,h3⟩:=qg h2;exact Es h3
     ·obtain⟨_,_,_,h2⟩:=qg h
      obtain⟨_,_,_,h3⟩:=qg h2;exact Es h3
   | .bin k c d,h=>
    rw[zS]at h
    split at h
    ·obtain⟨_,_,_,h2⟩:=qg h
     obtain⟨_,_,_,h3⟩:=qg h2;exact Es h3
    ·split at h
     ·obtain⟨_,_,_,h2⟩:=qg h
      obtain⟨_,_,_,h3⟩:=qg h2;obtain⟨_,_,_,h4⟩:=qg h3;obtain⟨_,_,_,h5⟩:=qg h4;exact Es h5
     ·obtain⟨_,_,_,h2⟩:=qg h
      exact jh _ _ _ _ _ _ _ h2
  ·match r,h with
   | .leaf k,h=>rw[Ou]at h;cases h
   | .un k c,h=>
    rw[BD]at h
    split at h
    ·split at h
     ·exact G5 f h
     ·injection h with h;injection h with h1 _;subst h1;exact Zd _
    ·split at h
     ·obtain⟨_,_,_,h2⟩:=qg h
      exact Es h2
     ·obtain⟨_,_,_,h2⟩:=qg h
      exact Es h2
   | .bin k c d,h=>
    rw[CO]at h
    split at h
    ·obtain⟨_,_,_,h2⟩:=qg h
     obtain⟨_,_,_,h3⟩:=qg h2;exact Es h3
    ·obtain⟨_,_,_,h2⟩:=qg h
     exact jh _ _ _ _ _ _ _ h2
def uI(T0:Tr)(p:Nat)(vs:Value)(x bn bl:Nat)(f:FuncId)(S:Tr):Prop:=∀(w:World)(F:Nat->Prop)(aj:List It)(M:Mt)(i:Nat),gB T0 p vs x bn bl w F aj M->Rep aj i S->Calls prog f #[iM p x bn bl,.int .i64 i] w (cO (gB T0 p vs x bn bl) w F aj M (bK S x M))
theorem q98(kS:KT S)(hlv:uI T0 p vs x bn bl 104 S)(hlen:∀M L M',dM M->bK S x M=some (L,M')->nN L/\M <+: M'):uI T0 p vs x bn bl 80 S:=by
 intro w F aj M i h hi;obtain⟨F1,kn,kl,fn,fl,hr⟩:=h;have hb:=qd w (cu p x bn bl);have hr1:=hr.up hb;have hbx:=(dO w (cu p x bn bl)).1;have hsm:=hr.small;have hil:=hi.lt;have hlk:=hr1.ml.look (i:=i) (by omega)
 have jj:Calls prog 103 #[.map (some bl),.int .i64 i,.func (.func 104) #[iM p x bn bl] #[]] (w.alloc (cu p x bn bl)) (cO (gB T0 p vs x bn bl) w F aj M (bK S x M)):=by
  cases hf:fl i with
  |some v=>
   rw[hf]at hlk;obtain⟨a,c,l,S',rfl,hU,hl,hrep,hag⟩:=hr1.tl i v hf;have e:=Rep.tree hrep hi;subst e;refine (rK bl i _ _ _ _ hlk).mono ?_
   rintro e w' ⟨rfl,rfl⟩
   exact⟨F,aj,Fr.au hb,List.prefix_refl _,Or.inl ⟨l,M,a,c,hag M (List.prefix_refl _),rfl,hU,F1,kn,kl,fn,fl,hr1⟩⟩
  |none=>
   rw[hf]at hlk;refine rL bl i _ _ _ _ q81 hlk ?_
   refine (hlv _ F aj M i ⟨F1,kn,kl,fn,fl,hr1⟩ hi).mono ?_
   rintro e w1 ⟨F',i1,dU,hp1,⟨L,M1,q,d,hs,rfl,hU,F2,kn2,kl2,fn2,fl2,hr2⟩|⟨hs,rfl,M1,hM1,hO⟩⟩
   ·obtain⟨hL,hpre⟩:=hlen M L M1 hr.pg.good hs
    obtain⟨w2,hrun,hm2,hg2⟩:=hr2.ml.put (by have:=hr2.small;omega) (i:=i) (by omega) (.slice q L.length d)
    obtain⟨hr3,eF⟩:=hr2.Zc hm2 hg2 fun y v hv=>by
     by_cases e:y=i
     ·subst e
      simp at hv
      subst hv;exact⟨q,d,L,S,rfl,hU,hL,hi.pre hp1,fun M2 h2=>(qfd S x M L M1 hs).2 M2 h2⟩
     ·simp[e]at hv
      exact hr2.tl y v hv
    exact Or.inl ⟨_,w2,rfl,hrun,_,i1,((Fr.au hb).trans dU).trans eF,hp1,Or.inl ⟨L,M1,q,d,hs,rfl,hU.fr eF,_,_,_,_,_,hr3⟩⟩
   ·exact Or.inr ⟨rfl,F',i1,(Fr.au hb).trans dU,hp1,Or.inr ⟨hs,rfl,M1,hM1,hO⟩⟩
 have b0:(w.alloc (cu p x bn bl)).cell? ⟨w.heap.size,0,none⟩=some (.pointer (some ⟨p,0,none⟩)):=qc hbx 0;have b1:(w.alloc (cu p x bn bl)).cell? ⟨w.heap.size,1,none⟩=some (.int .u8 x):=qc hbx 1;have b2:(w.alloc (cu p x bn bl)).cell? ⟨w.heap.size,2,none⟩=some (.map (some bn)):=qc hbx 2;have b3:(w.alloc (cu p x bn bl)).cell? ⟨w.heap.size,3,none⟩=some (.map (some bl)):=qc hbx 3;generalize bK S x M=r at *;clear hr hr1 hb hbx hsm hil hlk hi kS hlv hlen;obtain⟨Q,hQ⟩:∃Q:Ending->World->Prop,Q=cO (gB T0 p vs x bn bl) w F aj M r:=⟨_,rfl⟩
 rw[<-hQ];have HQ:=aX hQ;clear hQ;unfold cu iM at *;go_enter func80,ntmps80
 go_wp2_with fail
 refine jj.mono ?_
 intro e w1 hq;have hq':=hq;obtain⟨F',i',_,_,⟨L,M',q,d,_,rfl,_⟩|⟨_,rfl,_⟩⟩:=hq'
 ·have HE:Hid (Q (.returned (.slice q L.length d)) w1):=by show Q _ _;rw[HQ.out];exact hq
  clear jj hq;go_wp2;exact HE.out
 ·refine⟨rfl,?_⟩
  rw[HQ.out];exact hq
structure LG(M:Mt)(L:List Nat)(M':Mt):Prop where
 bd:jJ L M'.length
 len:L.length<=1024
 pre:M <+: M'
 good:dM M'
theorem LG.lst(h:LG M L M'):nN L:=⟨yU h.bd h.good.few,h.len⟩
theorem MZ(hM:dM M)(kS:KT S)(h:aH S M=some (L,M')):LG M L M':=by
 have ex:=(xI S hM kS h).1;exact⟨ex.bd,G5 S h,ex.pre,ex.good⟩
theorem zD(hM:dM M)(kS:KT S)(h:bK S x M=some (L,M')):LG M L M':=by
 have ex:=((Jf (hgt S)).1 S x M M' L hM kS h).1;exact⟨ex.bd,(Ze x (hgt S)).1 S M L M' h,ex.pre,ex.good⟩
theorem IE{box:Bool}{r f:Tr}{s:List Nat}(hM:dM M)(kr:KP r)(kf:KT f)(hs:jJ s M.length)(h:dH box r s f x M=some (L,M')):LG M L M':=by
 have ex:=((Jf (hgt r)).2 box r f s x M M' L hM kr kf hs h).1;exact⟨ex.bd,(Ze x (hgt r)).2 box r s f M L M' h,ex.pre,ex.good⟩
theorem U6{and:Bool}{a b:List Nat}(hM:dM M)(ha:jJ a M.length)(hb:jJ b M.length)(h:bF and a b M=some (l,M')):LG M l M':=by
 have e:=(qu h).1;have hl:=Es h;have hbd:=LU h ha hb;subst e;exact⟨hbd,hl,List.prefix_refl _,hM⟩
theorem LG.mono{M M' M'':Mt}{L:List Nat}(h:LG M L M')(hp:M' <+: M''):jJ L M''.length:=h.bd.mono hp.length_le
structure oU(T0:Tr)(p:Nat)(vs:Value)(x bn bl:Nat)(w:World)(F:Nat->Prop)(aj:List It)(M:Mt)(B:Nat)(o:Obj)(wj:World)(Fj:Nat->Prop)(ij:List It)(Mj:Mt):Prop where
 obj:gB T0 p vs x bn bl wj Fj ij Mj
 fr:Fr w wj F Fj
 hi:aj <+: ij
 hM:M <+: Mj
 good:dM Mj
 rb:wj.heap[B]? =some (cu p x bn bl)
 rn:¬Fj B
 xb:wj.heap[B+1]? =some o
 xn:¬Fj (B+1)
section
variable {T0:Tr}{p:Nat}{vs:Value}{x bn bl:Nat}{w:World}{F:Nat->Prop}{aj:List It}{M:Mt}{B:Nat}{o:Obj}{wj wk:World}{Fj Fk:Nat->Prop}{ij ik:List It}{Mj Mk:Mt}
theorem oU.step(h:oU T0 p vs x bn bl w F aj M B o wj Fj ij Mj)(fr:Fr wj wk Fj Fk)(hp:ij <+: ik)(hO:gB T0 p vs x bn bl wk Fk ik Mk)(hm:Mj <+: Mk)(hg:dM Mk):oU T0 p vs x bn bl w F aj M B o wk Fk ik Mk :=
 ⟨hO,h.fr.trans fr,h.hi.trans hp,h.hM.trans hm,hg,(qj h.rb h.rn fr).1,(qj h.rb h.rn fr).2,(qj h.xb h.xn fr).1,(qj h.xb h.xn fr).2⟩
theorem oU.bad(h:oU T0 p vs x bn bl w F aj M B o wj Fj ij Mj)(hR:R=none)(fr:Fr wj wk Fj Fk)(hp:ij <+: ik)(hm:Mj <+: Mk)(hO:gB T0 p vs x bn bl wk Fk ik Mk):cO (gB T0 p vs x bn bl) w F aj M R (.panicked gK) wk :=
 ⟨Fk,ik,h.fr.trans fr,h.hi.trans hp,Or.inr ⟨hR,rfl,Mk,h.hM.trans hm,hO⟩⟩
theorem oU.fin(h:oU T0 p vs x bn bl w F aj M B o wj Fj ij Mj){q:Option Addr}(hR:R=some (L,Mk))(fr:Fr wj wk Fj Fk)(hp:ij <+: ik)(hU:US wk Fk q L.length d L)(hO:gB T0 p vs x bn bl wk Fk ik Mk):cO (gB T0 p vs x bn bl) w F aj M R (.returned (.slice q L.length d)) wk :=
 ⟨Fk,ik,h.fr.trans fr,h.hi.trans hp,Or.inl ⟨L,Mk,q,d,hR,rfl,hU,hO⟩⟩
def gQ(p x bn bl B:Nat)(xa xb:Int)(w':World):Prop:=(w'.cell? ⟨B,0,none⟩=some (.pointer (some ⟨p,0,none⟩))/\w'.cell? ⟨B,1,none⟩=some (.int .u8 x)/\w'.cell? ⟨B,2,none⟩=some (.map (some bn))/\w'.cell? ⟨B,3,none⟩=some (.map (some bl)))/\w'.cell? ⟨B+1,2,none⟩=some (.int .i64 xa)/\w'.cell? ⟨B+1,3,none⟩=some (.int .i64 xb)
theorem oU.cells{op pp:Nat}{xa xb:Int}(h:oU T0 p vs x bn bl w F aj M B (aW ⟨op,pp,xa,xb⟩) wj Fj ij Mj):gQ p x bn bl B xa xb wj:=⟨⟨qc h.rb 0,qc h.rb 1,qc h.rb 2,qc h.rb 3⟩,qc h.xb 2,qc h.xb 3⟩
end
def dN(w:World)(p x bn bl op pp:Nat)(xa xb:Int):World:=((w.alloc (cu p x bn bl)).alloc (aW ⟨op,pp,xa,xb⟩))
theorem qP(h:gB T0 p vs x bn bl w F aj M)(op pp:Nat)(xa xb:Int):
  oU T0 p vs x bn bl w F aj M w.heap.size (aW ⟨op,pp,xa,xb⟩) (dN w p x bn bl op pp xa xb).drew F aj M/\oU T0 p vs x bn bl w F aj M w.heap.size (aW ⟨op,pp,xa,xb⟩) (dN w p x bn bl op pp xa xb) F aj M:=by
 have hb1:=qd w (cu p x bn bl);have hb2:=qd (w.alloc (cu p x bn bl)) (aW ⟨op,pp,xa,xb⟩);have hb:Below w.heap.size w (dN w p x bn bl op pp xa xb):=qe hb1 hb2;have hz:(w.alloc (cu p x bn bl)).heap.size=w.heap.size+1:=by simp
 have hg:dM M:=by obtain⟨_,_,_,_,_,hr⟩:=h;exact hr.pg.good
 have hlt:=(qs T0 p vs x bn bl).lt h;have r1:(dN w p x bn bl op pp xa xb).heap[w.heap.size]? =some (cu p x bn bl):=(hb2.block _ (by omega)).trans (dO w _).1
 have r2:(dN w p x bn bl op pp xa xb).heap[w.heap.size+1]? =some (aW ⟨op,pp,xa,xb⟩):=by
  have:=(dO (w.alloc (cu p x bn bl)) (aW ⟨op,pp,xa,xb⟩)).1
  rw[hz]at this;exact this
 have n1:¬F w.heap.size:=fun e=>by have:=hlt _ e;omega
 have n2:¬F (w.heap.size+1):=fun e=>by have:=hlt _ e;omega
 exact⟨⟨(qs T0 p vs x bn bl).up h hb.drew,Fr.au hb.drew,List.prefix_refl _,List.prefix_refl _,hg,r1,n1,r2,n2⟩,⟨(qs T0 p vs x bn bl).up h hb,Fr.au hb,List.prefix_refl _,List.prefix_refl _,hg,r1,n1,r2,n2⟩⟩
def pY(T0:Tr)(p:Nat)(vs:Value)(x bn bl:Nat)(w:World)(F:Nat->Prop)(aj:List It)(M:Mt)(S:Tr)(e:Ending)(w':World):Prop :=
 ∃(j:Nat) (aI:List It) (F':Nat->Prop),e=.returned (.int .i64 j)/\aj <+: aI/\Rep aI j S/\Fr w w' F F'/\gB T0 p vs x bn bl w' F' aI M
theorem Ko{S:Tr}{f:FuncId}{args:Array Value}(h:gB T0 p vs x bn bl w F aj M)
  (hc:∀G rest,kW T0 w G p 89 rest aj->Calls prog f args w (jE T0 w G p 89 rest aj (sV S))):Calls prog f args w (pY T0 p vs x bn bl w F aj M S):=by
 obtain⟨F1,kn,kl,fn,fl,hr⟩:=h;obtain⟨G,mn,vm,met,hg,hF⟩:=hr.pg.ex;refine (hc G _ hg.po).mono ?_
 rintro e w' ⟨j,rfl,i',G',hp,⟨m,rfl,hrep⟩,hpo,fr⟩
 obtain⟨hg2,dA⟩:=hg.part hpo hp fr;have hpg:iE T0 w' (FQ G' mn vm) p vs i' M:=⟨hr.pg.few,hr.pg.nd,hr.pg.of,G',mn,vm,met,hg2,fun k=>Iff.rfl⟩
 obtain⟨hr2,eF⟩:=hr.prog hpg (dA.alike (fun k hk=>(hF k).2 hk) (fun k hk=>hk)) hp (List.prefix_refl _)
 exact⟨m,i',_,rfl,hp,hrep,eF,_,_,_,_,_,hr2⟩
theorem qbR(op:Nat)(ho:op=11\/op=12)(c d:Tr)(kS:KT (.bin (op,0) c d))(hc:uI T0 p vs x bn bl 80 c)(hd:uI T0 p vs x bn bl 80 d):uI T0 p vs x bn bl 104 (.bin (op,0) c d):=by
 intro w F aj M i h hi;obtain⟨pp,m,l,hx,hm,hl⟩:∃pp m l:Nat,aj[i]? =some ⟨op,pp,(m:Int),(l:Int)⟩/\Rep aj m c/\Rep aj l d:=by cases hi with|bin h h1 h2 h3 h4=>exact⟨0,_,_,h,h3,h4⟩
 obtain⟨F1,_,_,_,_,hrd⟩:=id h;obtain⟨G,rest,hpo⟩:=hrd.pg.part;obtain⟨a,n,cap,g,o,c0,hidx,x0,x1,x2,x3⟩:=(hpo.up (qd w (cu p x bn bl))).at hx;obtain⟨m0,jL⟩:=qP h op pp (m:Int) ((l:Int));have hk0:=m0.cells;have dP:=jL.cells;have dL:Hid (∀w':World,w'.heap[w.heap.size]? =some (cu p x bn bl)->w'.heap[w.heap.size+1]? =some (aW ⟨op,pp,(m:Int),(l:Int)⟩)->gQ p x bn bl w.heap.size (m:Int) ((l:Int)) w'):=fun w' e1 e2=>⟨⟨qc e1 0,qc e1 1,qc e1 2,qc e1 3⟩,qc e2 2,qc e2 3⟩
 have hbx:=(dO w (cu p x bn bl)).1;have r0:(w.alloc (cu p x bn bl)).cell? ⟨w.heap.size,0,none⟩=some (.pointer (some ⟨p,0,none⟩)):=qc hbx 0;obtain⟨kc,kd⟩:=qB kS (by omega)
 have j1:=hc _ F aj M m m0.obj hm;obtain⟨R,hR⟩:∃R,R=bK (.bin (op,0) c d) x M:=⟨_,rfl⟩
 have HR0:Hid (R=bindM (bK c x M) fun a M1=>bindM (bK d x M1) fun b M2=>bF (op==11) a b M2):=by show _=_;rw[hR];exact P8 kS ho x M
 rw[<-hR];obtain⟨Q,hQ⟩:∃Q:Ending->World->Prop,Q=cO (gB T0 p vs x bn bl) w F aj M R:=⟨_,rfl⟩
 have HQ:Hid (∀e w',cO (gB T0 p vs x bn bl) w F aj M R e w'->Q e w'):=fun e w' h=>by rw[hQ];exact h
 rw[<-hQ];clear hrd hpo hR hQ hbx h hx;have n0:=aP op 0 (by omega)
 have n4:=aP op 4 (by omega)
 have n1:=aP op 1 (by omega)
 have n5:=aP op 5 (by omega)
 have n2:=aP op 2 (by omega)
 have n6:=aP op 6 (by omega)
 have n7:=aP op 7 (by omega)
 have n8:=aP op 8 (by omega)
 have n15:=aP op 15 (by omega)
 have n16:=aP op 16 (by omega)
 have n17:=aP op 17 (by omega)

 rcases ho with ho|ho
 ·have n11:((op:Int)==11)=true:=by rw[beq_iff_eq];omega
  have DV:(op==11)=true:=by simp[ho]
  rw[DV]at HR0;clear ho DV;unfold dN aW cu gQ at *;unfold iM at *;dsimp only at *
  go_enter func104,ntmps104
  go_wp2_with fail
  go_region_held2 (fun w'=>(w'.cell? ⟨w.heap.size,0,none⟩=some (.pointer (some ⟨p,0,none⟩))/\w'.cell? ⟨w.heap.size,1,none⟩=some (.int .u8 x)/\w'.cell? ⟨w.heap.size,2,none⟩=some (.map (some bn))/\w'.cell? ⟨w.heap.size,3,none⟩=some (.map (some bl)))/\w'.cell? ⟨w.heap.size+1,2,none⟩=some (.int .i64 m)/\w'.cell? ⟨w.heap.size+1,3,none⟩=some (.int .i64 l)) (first|exact hk0|exact dP|assumption|fail) (first
   | (revert j1;intro j1;go_at_call 80;(with_reducible refine j1.mono ?_);rintro e w1 ⟨F1,i1,dU,hp1,⟨L1,M1,q1,d1,hs1,rfl,lZ,iF⟩|⟨hs1,rfl,M1,kX,iF⟩⟩;(case inr=>exact⟨rfl,HQ.out _ _ (m0.bad (by rw[HR0.out,hs1];first|done|rfl) dU hp1 kX iF)⟩);have hr1:=HR0.out;rw[hs1]at hr1;dsimp only[bindM]at hr1;have HR1:Hid _:=hr1;clear hr1;have l1:=zD m0.good kc hs1;have m1:=m0.step dU hp1 iF l1.pre l1.good;have hk1:=dL.out _ m1.rb m1.xb;have j2:=hd _ F1 i1 M1 l m1.obj (hl.pre m1.hi);unfold iM at j2)
   | (revert j2;intro j2;go_at_call 80;(with_reducible refine j2.mono ?_);rintro e w2 ⟨F2,i2,dA,hp2,⟨L2,M2,q2,d2,hs2,rfl,iY,hO2⟩|⟨hs2,rfl,M2,iO,hO2⟩⟩;(case inr=>exact⟨rfl,HQ.out _ _ (m1.bad (by rw[HR1.out,hs2];first|done|rfl) dA hp2 iO hO2)⟩);have hr2:=HR1.out;rw[hs2]at hr2;dsimp only[bindM]at hr2;have HR2:Hid _:=hr2;clear hr2;have l2:=zD m1.good kd hs2;have m2:=m1.step dA hp2 hO2 l2.pre l2.good;have hk2:=dL.out _ m2.rb m2.xb;have j3:=qL (qs T0 p vs x bn bl) true m2.obj (lZ.fr dA) (iY) l1.lst l2.lst;unfold vk at j3;simp only[if_true]at j3)
   | (revert j3;intro j3;go_at_call 76;(with_reducible refine j3.mono ?_);rintro e w3 ⟨F3,i3,eF,hp3,⟨L3,M3,q3,d3,hs3,rfl,nT,hO3⟩|⟨hs3,rfl,M3,jX,hO3⟩⟩;(case inr=>exact⟨rfl,HQ.out _ _ (m2.bad (by rw[HR2.out,hs3];first|done|rfl) eF hp3 jX hO3)⟩);have hk3:Hid (Q (.returned (.slice q3 L3.length d3)) w3):=(HQ.out _ _ (m2.fin (by rw[HR2.out,hs3];first|done|rfl) eF hp3 nT hO3));have zF:=dL.out _ (qj m2.rb m2.rn eF).1 (qj m2.xb m2.xn eF).1)
   |fail)
  all_goals
   clear j1 j2 j3;go_wp2;exact hk3.out
 ·have n11:=aP op 11 (by omega)
  have n12:((op:Int)==12)=true:=by rw[beq_iff_eq];omega
  have DV:(op==11)=false:=by simp[ho]
  rw[DV]at HR0;clear ho DV;unfold dN aW cu gQ at *;unfold iM at *;dsimp only at *
  go_enter func104,ntmps104
  go_wp2_with fail
  go_region_held2 (fun w'=>(w'.cell? ⟨w.heap.size,0,none⟩=some (.pointer (some ⟨p,0,none⟩))/\w'.cell? ⟨w.heap.size,1,none⟩=some (.int .u8 x)/\w'.cell? ⟨w.heap.size,2,none⟩=some (.map (some bn))/\w'.cell? ⟨w.heap.size,3,none⟩=some (.map (some bl)))/\w'.cell? ⟨w.heap.size+1,2,none⟩=some (.int .i64 m)/\w'.cell? ⟨w.heap.size+1,3,none⟩=some (.int .i64 l)) (first|exact hk0|exact dP|assumption|fail) (first
   | (revert j1;intro j1;go_at_call 80;(with_reducible refine j1.mono ?_);rintro e w1 ⟨F1,i1,dU,hp1,⟨L1,M1,q1,d1,hs1,rfl,lZ,iF⟩|⟨hs1,rfl,M1,kX,iF⟩⟩;(case inr=>exact⟨rfl,HQ.out _ _ (m0.bad (by rw[HR0.out,hs1];first|done|rfl) dU hp1 kX iF)⟩);have hr1:=HR0.out;rw[hs1]at hr1;dsimp only[bindM]at hr1;have HR1:Hid _:=hr1;clear hr1;have l1:=zD m0.good kc hs1;have m1:=m0.step dU hp1 iF l1.pre l1.good;have hk1:=dL.out _ m1.rb m1.xb;have j2:=hd _ F1 i1 M1 l m1.obj (hl.pre m1.hi);unfold iM at j2)
   | (revert j2;intro j2;go_at_call 80;(with_reducible refine j2.mono ?_);rintro e w2 ⟨F2,i2,dA,hp2,⟨L2,M2,q2,d2,hs2,rfl,iY,hO2⟩|⟨hs2,rfl,M2,iO,hO2⟩⟩;(case inr=>exact⟨rfl,HQ.out _ _ (m1.bad (by rw[HR1.out,hs2];first|done|rfl) dA hp2 iO hO2)⟩);have hr2:=HR1.out;rw[hs2]at hr2;dsimp only[bindM]at hr2;have HR2:Hid _:=hr2;clear hr2;have l2:=zD m1.good kd hs2;have m2:=m1.step dA hp2 hO2 l2.pre l2.good;have hk2:=dL.out _ m2.rb m2.xb;have j3:=qL (qs T0 p vs x bn bl) false m2.obj (lZ.fr dA) (iY) l1.lst l2.lst;unfold vk at j3;simp only[Bool.false_eq_true,if_false]at j3)
   | (revert j3;intro j3;go_at_call 77;(with_reducible refine j3.mono ?_);rintro e w3 ⟨F3,i3,eF,hp3,⟨L3,M3,q3,d3,hs3,rfl,nT,hO3⟩|⟨hs3,rfl,M3,jX,hO3⟩⟩;(case inr=>exact⟨rfl,HQ.out _ _ (m2.bad (by rw[HR2.out,hs3];first|done|rfl) eF hp3 jX hO3)⟩);have hk3:Hid (Q (.returned (.slice q3 L3.length d3)) w3):=(HQ.out _ _ (m2.fin (by rw[HR2.out,hs3];first|done|rfl) eF hp3 nT hO3));have zF:=dL.out _ (qj m2.rb m2.rn eF).1 (qj m2.xb m2.xn eF).1)
   |fail)
  all_goals
   clear j1 j2 j3;go_wp2;exact hk3.out
theorem q9a(op:Nat)(ho:op=15\/op=16)(c d:Tr)(kS:KT (.bin (op,0) c d))(hS:jD T0 (.bin (op,0) c d))(hc:uI T0 p vs x bn bl 80 c)(hd:uI T0 p vs x bn bl 80 d):uI T0 p vs x bn bl 104 (.bin (op,0) c d):=by
 intro w F aj M i h hi;obtain⟨pp,m,l,hx,hm,hl⟩:∃pp m l:Nat,aj[i]? =some ⟨op,pp,(m:Int),(l:Int)⟩/\Rep aj m c/\Rep aj l d:=by cases hi with|bin h h1 h2 h3 h4=>exact⟨0,_,_,h,h3,h4⟩
 obtain⟨F1,_,_,_,_,hrd⟩:=id h;obtain⟨G,rest,hpo⟩:=hrd.pg.part;obtain⟨a,n,cap,g,o,c0,hidx,x0,x1,x2,x3⟩:=(hpo.up (qd w (cu p x bn bl))).at hx;obtain⟨m0,jL⟩:=qP h op pp (m:Int) ((l:Int));have hk0:=m0.cells;have dP:=jL.cells;have dL:Hid (∀w':World,w'.heap[w.heap.size]? =some (cu p x bn bl)->w'.heap[w.heap.size+1]? =some (aW ⟨op,pp,(m:Int),(l:Int)⟩)->gQ p x bn bl w.heap.size (m:Int) ((l:Int)) w'):=fun w' e1 e2=>⟨⟨qc e1 0,qc e1 1,qc e1 2,qc e1 3⟩,qc e2 2,qc e2 3⟩
 have hbx:=(dO w (cu p x bn bl)).1;have r0:(w.alloc (cu p x bn bl)).cell? ⟨w.heap.size,0,none⟩=some (.pointer (some ⟨p,0,none⟩)):=qc hbx 0;obtain⟨kc,kd⟩:=qB kS (by omega)
 have HI:=aX hi;have zG:Hid (KT (.bin (op,0) c d)/\jD T0 (.bin (op,0) c d)):=⟨kS,hS⟩;have j1:=hd _ F aj M l m0.obj hl;obtain⟨R,hR⟩:∃R,R=bK (.bin (op,0) c d) x M:=⟨_,rfl⟩
 have HR0:Hid (R=bindM (bK d x M) fun b M1=>bindM (bK c x M1) fun a M2=>bindM (aH (.bin (op,0) c d) M2) fun u M3=>bindM (bF (op==15) a u M3) fun v M4=>bF (op==16) b v M4):=by show _=_;rw[hR];exact X3 kS ho x M
 rw[<-hR];obtain⟨Q,hQ⟩:∃Q:Ending->World->Prop,Q=cO (gB T0 p vs x bn bl) w F aj M R:=⟨_,rfl⟩
 have HQ:Hid (∀e w',cO (gB T0 p vs x bn bl) w F aj M R e w'->Q e w'):=fun e w' h=>by rw[hQ];exact h
 rw[<-hQ];clear hrd hpo hR hQ hbx h hx;have n0:=aP op 0 (by omega)
 have n4:=aP op 4 (by omega)
 have n1:=aP op 1 (by omega)
 have n5:=aP op 5 (by omega)
 have n2:=aP op 2 (by omega)
 have n6:=aP op 6 (by omega)
 have n11:=aP op 11 (by omega)
 have n12:=aP op 12 (by omega)
 have n7:=aP op 7 (by omega)
 have n8:=aP op 8 (by omega)
 have n17:=aP op 17 (by omega)

 rcases ho with ho|ho
 ·have n15:((op:Int)==15)=true:=by rw[beq_iff_eq];omega
  have DW:(op==15)=true:=by simp[ho]
  have DX:(op==16)=false:=by simp[ho]
  rw[DW,DX]at HR0;clear ho DW DX;unfold dN aW cu gQ at *;unfold iM at *;dsimp only at *
  go_enter func104,ntmps104
  go_wp2_with fail
  go_region_held2 (fun w'=>(w'.cell? ⟨w.heap.size,0,none⟩=some (.pointer (some ⟨p,0,none⟩))/\w'.cell? ⟨w.heap.size,1,none⟩=some (.int .u8 x)/\w'.cell? ⟨w.heap.size,2,none⟩=some (.map (some bn))/\w'.cell? ⟨w.heap.size,3,none⟩=some (.map (some bl)))/\w'.cell? ⟨w.heap.size+1,2,none⟩=some (.int .i64 m)/\w'.cell? ⟨w.heap.size+1,3,none⟩=some (.int .i64 l)) (first|exact hk0|exact dP|assumption|fail) (first
   | (revert j1;intro j1;go_at_call 80;(with_reducible refine j1.mono ?_);rintro e w1 ⟨F1,i1,dU,hp1,⟨L1,M1,q1,d1,hs1,rfl,lZ,iF⟩|⟨hs1,rfl,M1,kX,iF⟩⟩;(case inr=>exact⟨rfl,HQ.out _ _ (m0.bad (by rw[HR0.out,hs1];first|done|rfl) dU hp1 kX iF)⟩);have hr1:=HR0.out;rw[hs1]at hr1;dsimp only[bindM]at hr1;have HR1:Hid _:=hr1;clear hr1;have l1:=zD m0.good kd hs1;have m1:=m0.step dU hp1 iF l1.pre l1.good;have hk1:=dL.out _ m1.rb m1.xb;have j2:=hc _ F1 i1 M1 m m1.obj (hm.pre m1.hi);unfold iM at j2)
   | (revert j2;intro j2;go_at_call 80;(with_reducible refine j2.mono ?_);rintro e w2 ⟨F2,i2,dA,hp2,⟨L2,M2,q2,d2,hs2,rfl,iY,hO2⟩|⟨hs2,rfl,M2,iO,hO2⟩⟩;(case inr=>exact⟨rfl,HQ.out _ _ (m1.bad (by rw[HR1.out,hs2];first|done|rfl) dA hp2 iO hO2)⟩);have hr2:=HR1.out;rw[hs2]at hr2;dsimp only[bindM]at hr2;have HR2:Hid _:=hr2;clear hr2;have l2:=zD m1.good kc hs2;have m2:=m1.step dA hp2 hO2 l2.pre l2.good;have hk2:=dL.out _ m2.rb m2.xb;have j3:=qX m2.obj i _ (HI.out.pre m2.hi) zG.out.1 zG.out.2;unfold iM at j3)
   | (revert j3;intro j3;go_at_call 127;(with_reducible refine j3.mono ?_);rintro e w3 ⟨F3,i3,eF,hp3,⟨L3,M3,q3,d3,hs3,rfl,nT,hO3⟩|⟨hs3,rfl,M3,jX,hO3⟩⟩;(case inr=>exact⟨rfl,HQ.out _ _ (m2.bad (by rw[HR2.out,hs3];first|done|rfl) eF hp3 jX hO3)⟩);have hr3:=HR2.out;rw[hs3]at hr3;dsimp only[bindM]at hr3;have HR3:Hid _:=hr3;clear hr3;have l3:=MZ m2.good zG.out.1 hs3;have m3:=m2.step eF hp3 hO3 l3.pre l3.good;have hk3:=dL.out _ m3.rb m3.xb;have j4:=qL (qs T0 p vs x bn bl) true m3.obj (iY.fr eF) (nT) l2.lst l3.lst;unfold vk at j4;simp only[if_true]at j4)
   | (revert j4;intro j4;go_at_call 76;(with_reducible refine j4.mono ?_);rintro e w4 ⟨F4,i4,nK,rV,⟨L4,M4,q4,d4,hs4,rfl,BQ,hO4⟩|⟨hs4,rfl,M4,tN,hO4⟩⟩;(case inr=>exact⟨rfl,HQ.out _ _ (m3.bad (by rw[HR3.out,hs4];first|done|rfl) nK rV tN hO4)⟩);have hr4:=HR3.out;rw[hs4]at hr4;dsimp only[bindM]at hr4;have HR4:Hid _:=hr4;clear hr4;have l4:=U6 m3.good (l2.mono l3.pre) (l3.bd) hs4;have m4:=m3.step nK rV hO4 l4.pre l4.good;have hk4:=dL.out _ m4.rb m4.xb;have j5:=qL (qs T0 p vs x bn bl) false m4.obj (((lZ.fr dA).fr eF).fr nK) (BQ) l1.lst l4.lst;unfold vk at j5;simp only[Bool.false_eq_true,if_false]at j5)
   | (revert j5;intro j5;go_at_call 77;(with_reducible refine j5.mono ?_);rintro e w5 ⟨F5,i5,yA,xZ,⟨L5,M5,q5,d5,hs5,rfl,Na,BU⟩|⟨hs5,rfl,M5,DY,BU⟩⟩;(case inr=>exact⟨rfl,HQ.out _ _ (m4.bad (by rw[HR4.out,hs5];first|done|rfl) yA xZ DY BU)⟩);have hk5:Hid (Q (.returned (.slice q5 L5.length d5)) w5):=(HQ.out _ _ (m4.fin (by rw[HR4.out,hs5];first|done|rfl) yA xZ Na BU));have Zf:=dL.out _ (qj m4.rb m4.rn yA).1 (qj m4.xb m4.xn yA).1)
   |fail)
  all_goals
   clear j1 j2 j3 j4 j5;go_wp2;exact hk5.out
 ·have n15:=aP op 15 (by omega)
  have n16:((op:Int)==16)=true:=by rw[beq_iff_eq];omega
  have DW:(op==15)=false:=by simp[ho]
  have DX:(op==16)=true:=by simp[ho]
  rw[DW,DX]at HR0;clear ho DW DX;unfold dN aW cu gQ at *;unfold iM at *;dsimp only at *
  go_enter func104,ntmps104
  go_wp2_with fail
  go_region_held2 (fun w'=>(w'.cell? ⟨w.heap.size,0,none⟩=some (.pointer (some ⟨p,0,none⟩))/\w'.cell? ⟨w.heap.size,1,none⟩=some (.int .u8 x)/\w'.cell? ⟨w.heap.size,2,none⟩=some (.map (some bn))/\w'.cell? ⟨w.heap.size,3,none⟩=some (.map (some bl)))/\w'.cell? ⟨w.heap.size+1,2,none⟩=some (.int .i64 m)/\w'.cell? ⟨w.heap.size+1,3,none⟩=some (.int .i64 l)) (first|exact hk0|exact dP|assumption|fail) (first
   | (revert j1;intro j1;go_at_call 80;(with_reducible refine j1.mono ?_);rintro e w1 ⟨F1,i1,dU,hp1,⟨L1,M1,q1,d1,hs1,rfl,lZ,iF⟩|⟨hs1,rfl,M1,kX,iF⟩⟩;(case inr=>exact⟨rfl,HQ.out _ _ (m0.bad (by rw[HR0.out,hs1];first|done|rfl) dU hp1 kX iF)⟩);have hr1:=HR0.out;rw[hs1]at hr1;dsimp only[bindM]at hr1;have HR1:Hid _:=hr1;clear hr1;have l1:=zD m0.good kd hs1;have m1:=m0.step dU hp1 iF l1.pre l1.good;have hk1:=dL.out _ m1.rb m1.xb;have j2:=hc _ F1 i1 M1 m m1.obj (hm.pre m1.hi);unfold iM at j2)
   | (revert j2;intro j2;go_at_call 80;(with_reducible refine j2.mono ?_);rintro e w2 ⟨F2,i2,dA,hp2,⟨L2,M2,q2,d2,hs2,rfl,iY,hO2⟩|⟨hs2,rfl,M2,iO,hO2⟩⟩;(case inr=>exact⟨rfl,HQ.out _ _ (m1.bad (by rw[HR1.out,hs2];first|done|rfl) dA hp2 iO hO2)⟩);have hr2:=HR1.out;rw[hs2]at hr2;dsimp only[bindM]at hr2;have HR2:Hid _:=hr2;clear hr2;have l2:=zD m1.good kc hs2;have m2:=m1.step dA hp2 hO2 l2.pre l2.good;have hk2:=dL.out _ m2.rb m2.xb;have j3:=qX m2.obj i _ (HI.out.pre m2.hi) zG.out.1 zG.out.2;unfold iM at j3)
   | (revert j3;intro j3;go_at_call 127;(with_reducible refine j3.mono ?_);rintro e w3 ⟨F3,i3,eF,hp3,⟨L3,M3,q3,d3,hs3,rfl,nT,hO3⟩|⟨hs3,rfl,M3,jX,hO3⟩⟩;(case inr=>exact⟨rfl,HQ.out _ _ (m2.bad (by rw[HR2.out,hs3];first|done|rfl) eF hp3 jX hO3)⟩);have hr3:=HR2.out;rw[hs3]at hr3;dsimp only[bindM]at hr3;have HR3:Hid _:=hr3;clear hr3;have l3:=MZ m2.good zG.out.1 hs3;have m3:=m2.step eF hp3 hO3 l3.pre l3.good;have hk3:=dL.out _ m3.rb m3.xb;have j4:=qL (qs T0 p vs x bn bl) false m3.obj (iY.fr eF) (nT) l2.lst l3.lst;unfold vk at j4;simp only[Bool.false_eq_true,if_false]at j4)
   | (revert j4;intro j4;go_at_call 77;(with_reducible refine j4.mono ?_);rintro e w4 ⟨F4,i4,nK,rV,⟨L4,M4,q4,d4,hs4,rfl,BQ,hO4⟩|⟨hs4,rfl,M4,tN,hO4⟩⟩;(case inr=>exact⟨rfl,HQ.out _ _ (m3.bad (by rw[HR3.out,hs4];first|done|rfl) nK rV tN hO4)⟩);have hr4:=HR3.out;rw[hs4]at hr4;dsimp only[bindM]at hr4;have HR4:Hid _:=hr4;clear hr4;have l4:=U6 m3.good (l2.mono l3.pre) (l3.bd) hs4;have m4:=m3.step nK rV hO4 l4.pre l4.good;have hk4:=dL.out _ m4.rb m4.xb;have j5:=qL (qs T0 p vs x bn bl) true m4.obj (((lZ.fr dA).fr eF).fr nK) (BQ) l1.lst l4.lst;unfold vk at j5;simp only[if_true]at j5)
   | (revert j5;intro j5;go_at_call 76;(with_reducible refine j5.mono ?_);rintro e w5 ⟨F5,i5,yA,xZ,⟨L5,M5,q5,d5,hs5,rfl,Na,BU⟩|⟨hs5,rfl,M5,DY,BU⟩⟩;(case inr=>exact⟨rfl,HQ.out _ _ (m4.bad (by rw[HR4.out,hs5];first|done|rfl) yA xZ DY BU)⟩);have hk5:Hid (Q (.returned (.slice q5 L5.length d5)) w5):=(HQ.out _ _ (m4.fin (by rw[HR4.out,hs5];first|done|rfl) yA xZ Na BU));have Zf:=dL.out _ (qj m4.rb m4.rn yA).1 (qj m4.xb m4.xn yA).1)
   |fail)
  all_goals
   clear j1 j2 j3 j4 j5;go_wp2;exact hk5.out
def tV(box:Bool):FuncId:=if box then 130 else 129
def rX(T0:Tr)(p:Nat)(vs:Value)(x bn bl:Nat)(box:Bool)(r f:Tr):Prop:=∀(w:World)(F:Nat->Prop)(aj:List It)(M:Mt)(i k:Nat)(a:Option Addr)(c:Nat)(s:List Nat),gB T0 p vs x bn bl w F aj M->US w F a s.length c s->s.length<=1024->jJ s M.length->Rep aj i r->Rep aj k f ->
 Calls prog (tV box) #[iM p x bn bl,.int .i64 i,.slice a s.length c,.int .i64 k] w (cO (gB T0 p vs x bn bl) w F aj M (dH box r s f x M))
theorem qbS(op:Nat)(ho:op=17\/op=18)(c d:Tr)(kS:KT (.bin (op,0) c d))(hd:uI T0 p vs x bn bl 80 d)(hw:∀box,box=(op==18)->rX T0 p vs x bn bl box c d):uI T0 p vs x bn bl 104 (.bin (op,0) c d):=by
 intro w F aj M i h hi;obtain⟨pp,m,l,hx,hm,hl⟩:∃pp m l:Nat,aj[i]? =some ⟨op,pp,(m:Int),(l:Int)⟩/\Rep aj m c/\Rep aj l d:=by cases hi with|bin h h1 h2 h3 h4=>exact⟨0,_,_,h,h3,h4⟩
 obtain⟨F1,_,_,_,_,hrd⟩:=id h;obtain⟨G,rest,hpo⟩:=hrd.pg.part;obtain⟨a,n,cap,g,o,c0,hidx,x0,x1,x2,x3⟩:=(hpo.up (qd w (cu p x bn bl))).at hx;obtain⟨m0,jL⟩:=qP h op pp (m:Int) ((l:Int));have hk0:=m0.cells;have dP:=jL.cells;have dL:Hid (∀w':World,w'.heap[w.heap.size]? =some (cu p x bn bl)->w'.heap[w.heap.size+1]? =some (aW ⟨op,pp,(m:Int),(l:Int)⟩)->gQ p x bn bl w.heap.size (m:Int) ((l:Int)) w'):=fun w' e1 e2=>⟨⟨qc e1 0,qc e1 1,qc e1 2,qc e1 3⟩,qc e2 2,qc e2 3⟩
 have hbx:=(dO w (cu p x bn bl)).1;have r0:(w.alloc (cu p x bn bl)).cell? ⟨w.heap.size,0,none⟩=some (.pointer (some ⟨p,0,none⟩)):=qc hbx 0;obtain⟨kc,kd⟩:=uP kS (by omega)
 have HW:Hid ((op=17->rX T0 p vs x bn bl false c d)/\(op=18->rX T0 p vs x bn bl true c d)):=⟨fun h=>hw false (by rw[h];rfl),fun h=>hw true (by rw[h];rfl)⟩
 have j1:=hd _ F aj M l m0.obj hl;obtain⟨R,hR⟩:∃R,R=bK (.bin (op,0) c d) x M:=⟨_,rfl⟩
 have HR0:Hid (R=bindM (bK d x M) fun s M1=>dH (op==18) c s d x M1):=by show _=_;rw[hR];exact X6 kS ho x M
 rw[<-hR];obtain⟨Q,hQ⟩:∃Q:Ending->World->Prop,Q=cO (gB T0 p vs x bn bl) w F aj M R:=⟨_,rfl⟩
 have HQ:Hid (∀e w',cO (gB T0 p vs x bn bl) w F aj M R e w'->Q e w'):=fun e w' h=>by rw[hQ];exact h
 rw[<-hQ];clear hrd hpo hR hQ hbx h hx;have n0:=aP op 0 (by omega)
 have n4:=aP op 4 (by omega)
 have n1:=aP op 1 (by omega)
 have n5:=aP op 5 (by omega)
 have n2:=aP op 2 (by omega)
 have n6:=aP op 6 (by omega)
 have n11:=aP op 11 (by omega)
 have n12:=aP op 12 (by omega)
 have n7:=aP op 7 (by omega)
 have n8:=aP op 8 (by omega)
 have n15:=aP op 15 (by omega)
 have n16:=aP op 16 (by omega)

 rcases ho with ho|ho
 ·have n17:((op:Int)==17)=true:=by rw[beq_iff_eq];omega
  have DZ:(op==18)=false:=by simp[ho]
  rw[DZ]at HR0;have HW1:Hid _:=HW.out.1 ho;clear ho DZ;unfold dN aW cu gQ at *;unfold iM at *;dsimp only at *
  go_enter func104,ntmps104
  go_wp2_with fail
  go_region_held2 (fun w'=>(w'.cell? ⟨w.heap.size,0,none⟩=some (.pointer (some ⟨p,0,none⟩))/\w'.cell? ⟨w.heap.size,1,none⟩=some (.int .u8 x)/\w'.cell? ⟨w.heap.size,2,none⟩=some (.map (some bn))/\w'.cell? ⟨w.heap.size,3,none⟩=some (.map (some bl)))/\w'.cell? ⟨w.heap.size+1,2,none⟩=some (.int .i64 m)/\w'.cell? ⟨w.heap.size+1,3,none⟩=some (.int .i64 l)) (first|exact hk0|exact dP|assumption|fail) (first
   | (revert j1;intro j1;go_at_call 80;(with_reducible refine j1.mono ?_);rintro e w1 ⟨F1,i1,dU,hp1,⟨L1,M1,q1,d1,hs1,rfl,lZ,iF⟩|⟨hs1,rfl,M1,kX,iF⟩⟩;(case inr=>exact⟨rfl,HQ.out _ _ (m0.bad (by rw[HR0.out,hs1];first|done|rfl) dU hp1 kX iF)⟩);have hr1:=HR0.out;rw[hs1]at hr1;dsimp only[bindM]at hr1;have HR1:Hid _:=hr1;clear hr1;have l1:=zD m0.good kd hs1;have m1:=m0.step dU hp1 iF l1.pre l1.good;have hk1:=dL.out _ m1.rb m1.xb;have j2:=HW1.out _ F1 i1 M1 m l _ _ L1 m1.obj lZ l1.len l1.bd (hm.pre m1.hi) (hl.pre m1.hi);(try unfold tV at j2);(try unfold iM at j2);simp only[Bool.false_eq_true,if_false]at j2)
   | (revert j2;intro j2;go_at_call 129;(with_reducible refine j2.mono ?_);rintro e w2 ⟨F2,i2,dA,hp2,⟨L2,M2,q2,d2,hs2,rfl,iY,hO2⟩|⟨hs2,rfl,M2,iO,hO2⟩⟩;(case inr=>exact⟨rfl,HQ.out _ _ (m1.bad (by rw[HR1.out,hs2];first|done|rfl) dA hp2 iO hO2)⟩);have hk2:Hid (Q (.returned (.slice q2 L2.length d2)) w2):=(HQ.out _ _ (m1.fin (by rw[HR1.out,hs2];first|done|rfl) dA hp2 iY hO2));have Zg:=dL.out _ (qj m1.rb m1.rn dA).1 (qj m1.xb m1.xn dA).1)
   |fail)
  all_goals
   clear j1 j2;go_wp2;exact hk2.out
 ·have n17:=aP op 17 (by omega)
  have n18:((op:Int)==18)=true:=by rw[beq_iff_eq];omega
  have DZ:(op==18)=true:=by simp[ho]
  rw[DZ]at HR0;have HW1:Hid _:=HW.out.2 ho;clear ho DZ;unfold dN aW cu gQ at *;unfold iM at *;dsimp only at *
  go_enter func104,ntmps104
  go_wp2_with fail
  go_region_held2 (fun w'=>(w'.cell? ⟨w.heap.size,0,none⟩=some (.pointer (some ⟨p,0,none⟩))/\w'.cell? ⟨w.heap.size,1,none⟩=some (.int .u8 x)/\w'.cell? ⟨w.heap.size,2,none⟩=some (.map (some bn))/\w'.cell? ⟨w.heap.size,3,none⟩=some (.map (some bl)))/\w'.cell? ⟨w.heap.size+1,2,none⟩=some (.int .i64 m)/\w'.cell? ⟨w.heap.size+1,3,none⟩=some (.int .i64 l)) (first|exact hk0|exact dP|assumption|fail) (first
   | (revert j1;intro j1;go_at_call 80;(with_reducible refine j1.mono ?_);rintro e w1 ⟨F1,i1,dU,hp1,⟨L1,M1,q1,d1,hs1,rfl,lZ,iF⟩|⟨hs1,rfl,M1,kX,iF⟩⟩;(case inr=>exact⟨rfl,HQ.out _ _ (m0.bad (by rw[HR0.out,hs1];first|done|rfl) dU hp1 kX iF)⟩);have hr1:=HR0.out;rw[hs1]at hr1;dsimp only[bindM]at hr1;have HR1:Hid _:=hr1;clear hr1;have l1:=zD m0.good kd hs1;have m1:=m0.step dU hp1 iF l1.pre l1.good;have hk1:=dL.out _ m1.rb m1.xb;have j2:=HW1.out _ F1 i1 M1 m l _ _ L1 m1.obj lZ l1.len l1.bd (hm.pre m1.hi) (hl.pre m1.hi);(try unfold tV at j2);(try unfold iM at j2);simp only[if_true]at j2)
   | (revert j2;intro j2;go_at_call 130;(with_reducible refine j2.mono ?_);rintro e w2 ⟨F2,i2,dA,hp2,⟨L2,M2,q2,d2,hs2,rfl,iY,hO2⟩|⟨hs2,rfl,M2,iO,hO2⟩⟩;(case inr=>exact⟨rfl,HQ.out _ _ (m1.bad (by rw[HR1.out,hs2];first|done|rfl) dA hp2 iO hO2)⟩);have hk2:Hid (Q (.returned (.slice q2 L2.length d2)) w2):=(HQ.out _ _ (m1.fin (by rw[HR1.out,hs2];first|done|rfl) dA hp2 iY hO2));have Zg:=dL.out _ (qj m1.rb m1.rn dA).1 (qj m1.xb m1.xn dA).1)
   |fail)
  all_goals
   clear j1 j2;go_wp2;exact hk2.out
theorem qaO(op:Nat)(ho:op=7\/op=8)(c:Tr)(kS:KT (.un (op,0) c))(hS:jD T0 (.un (op,0) c)):uI T0 p vs x bn bl 104 (.un (op,0) c):=by
 intro w F aj M i h hi;obtain⟨pp,m,hx,hm⟩:∃pp m:Nat,aj[i]? =some ⟨op,pp,(m:Int),-1⟩/\Rep aj m c:=by cases hi with|un h h1 h2=>exact⟨0,_,h,h2⟩
 obtain⟨F1,_,_,_,_,hrd⟩:=id h;obtain⟨G,rest,hpo⟩:=hrd.pg.part;obtain⟨a,n,cap,g,o,c0,hidx,x0,x1,x2,x3⟩:=(hpo.up (qd w (cu p x bn bl))).at hx;obtain⟨m0,jL⟩:=qP h op pp (m:Int) ((-1));have hk0:=m0.cells;have dP:=jL.cells;have dL:Hid (∀w':World,w'.heap[w.heap.size]? =some (cu p x bn bl)->w'.heap[w.heap.size+1]? =some (aW ⟨op,pp,(m:Int),(-1)⟩)->gQ p x bn bl w.heap.size (m:Int) ((-1)) w'):=fun w' e1 e2=>⟨⟨qc e1 0,qc e1 1,qc e1 2,qc e1 3⟩,qc e2 2,qc e2 3⟩
 have hbx:=(dO w (cu p x bn bl)).1;have r0:(w.alloc (cu p x bn bl)).cell? ⟨w.heap.size,0,none⟩=some (.pointer (some ⟨p,0,none⟩)):=qc hbx 0
 have kc:KT c:=by
  rcases ku kS with⟨_,⟨h6,_⟩|⟨_,hc⟩⟩
  ·omega
  ·exact hc
 have zG:Hid (KT c/\jD T0 c):=⟨kc,Ya hS⟩;obtain⟨R,hR⟩:∃R,R=bK (.un (op,0) c) x M:=⟨_,rfl⟩
 have HR0:Hid (R=bindM (aH (.leaf (if op=7 then 4 else 5,0)) M) fun a M1=>bindM (aH c M1) fun b M2=>bF (op==7) a b M2):=by show _=_;rw[hR];exact X0 ho c x M
 rw[<-hR];obtain⟨Q,hQ⟩:∃Q:Ending->World->Prop,Q=cO (gB T0 p vs x bn bl) w F aj M R:=⟨_,rfl⟩
 have HQ:Hid (∀e w',cO (gB T0 p vs x bn bl) w F aj M R e w'->Q e w'):=fun e w' h=>by rw[hQ];exact h
 rw[<-hQ];clear hrd hpo hR hQ hbx h hx;have n0:=aP op 0 (by omega)
 have n4:=aP op 4 (by omega)
 have n1:=aP op 1 (by omega)
 have n5:=aP op 5 (by omega)
 have n2:=aP op 2 (by omega)
 have n6:=aP op 6 (by omega)
 have n11:=aP op 11 (by omega)
 have n12:=aP op 12 (by omega)
 have n15:=aP op 15 (by omega)
 have n16:=aP op 16 (by omega)
 have n17:=aP op 17 (by omega)

 rcases ho with ho|ho
 ·have n7:((op:Int)==7)=true:=by rw[beq_iff_eq];omega
  have Q8:(op==7)=true:=by simp[ho]
  rw[Q8]at HR0;have j1:Calls prog 128 #[.pointer (some ⟨p,0,none⟩),.int .u8 4] (dN w p x bn bl op pp (m:Int) (-1)).drew (pY T0 p vs x bn bl (dN w p x bn bl op pp (m:Int) (-1)).drew F aj M (.leaf (4,0))):=Ko m0.obj fun G rest hpo=>nz hpo 4 (by simp)
  rw[show (if op=7 then 4 else 5)=4 by simp[ho]]at HR0
  clear ho Q8;unfold dN aW cu gQ at *;unfold iM at *;dsimp only at *
  go_enter func104,ntmps104
  go_wp2_with fail
  go_region_held2 (fun w'=>(w'.cell? ⟨w.heap.size,0,none⟩=some (.pointer (some ⟨p,0,none⟩))/\w'.cell? ⟨w.heap.size,1,none⟩=some (.int .u8 x)/\w'.cell? ⟨w.heap.size,2,none⟩=some (.map (some bn))/\w'.cell? ⟨w.heap.size,3,none⟩=some (.map (some bl)))/\w'.cell? ⟨w.heap.size+1,2,none⟩=some (.int .i64 m)/\w'.cell? ⟨w.heap.size+1,3,none⟩=some (.int .i64 (-1))) (first|exact hk0|exact dP|assumption|fail) (first
   | (revert j1;intro j1;go_at_call 128;(with_reducible refine j1.mono ?_);rintro e w1 ⟨n1,i1,F1,rfl,hp1,tX,dU,iF⟩;have m1:=m0.step dU hp1 iF (List.prefix_refl _) m0.good;have hk1:=dL.out _ m1.rb m1.xb;have HR1:Hid _:=HR0.out;have j2:=qX m1.obj n1 _ tX (GX 4 (by simp)) (Qc (by simp));unfold iM at j2)
   | (revert j2;intro j2;go_at_call 127;(with_reducible refine j2.mono ?_);rintro e w2 ⟨F2,i2,dA,hp2,⟨L2,M2,q2,d2,hs2,rfl,iY,hO2⟩|⟨hs2,rfl,M2,iO,hO2⟩⟩;(case inr=>exact⟨rfl,HQ.out _ _ (m1.bad (by rw[HR1.out,hs2];first|done|rfl) dA hp2 iO hO2)⟩);have hr2:=HR1.out;rw[hs2]at hr2;dsimp only[bindM]at hr2;have HR2:Hid _:=hr2;clear hr2;have l2:=MZ m1.good (GX 4 (by simp)) hs2;have m2:=m1.step dA hp2 hO2 l2.pre l2.good;have hk2:=dL.out _ m2.rb m2.xb;have j3:=qX m2.obj m _ (hm.pre m2.hi) zG.out.1 zG.out.2;unfold iM at j3)
   | (revert j3;intro j3;go_at_call 127;(with_reducible refine j3.mono ?_);rintro e w3 ⟨F3,i3,eF,hp3,⟨L3,M3,q3,d3,hs3,rfl,nT,hO3⟩|⟨hs3,rfl,M3,jX,hO3⟩⟩;(case inr=>exact⟨rfl,HQ.out _ _ (m2.bad (by rw[HR2.out,hs3];first|done|rfl) eF hp3 jX hO3)⟩);have hr3:=HR2.out;rw[hs3]at hr3;dsimp only[bindM]at hr3;have HR3:Hid _:=hr3;clear hr3;have l3:=MZ m2.good zG.out.1 hs3;have m3:=m2.step eF hp3 hO3 l3.pre l3.good;have hk3:=dL.out _ m3.rb m3.xb;have j4:=qL (qs T0 p vs x bn bl) true m3.obj (iY.fr eF) (nT) l2.lst l3.lst;unfold vk at j4;simp only[if_true]at j4)
   | (revert j4;intro j4;go_at_call 76;(with_reducible refine j4.mono ?_);rintro e w4 ⟨F4,i4,nK,rV,⟨L4,M4,q4,d4,hs4,rfl,BQ,hO4⟩|⟨hs4,rfl,M4,tN,hO4⟩⟩;(case inr=>exact⟨rfl,HQ.out _ _ (m3.bad (by rw[HR3.out,hs4];first|done|rfl) nK rV tN hO4)⟩);have hk4:Hid (Q (.returned (.slice q4 L4.length d4)) w4):=(HQ.out _ _ (m3.fin (by rw[HR3.out,hs4];first|done|rfl) nK rV BQ hO4));have Q9:=dL.out _ (qj m3.rb m3.rn nK).1 (qj m3.xb m3.xn nK).1)
   |fail)
  all_goals
   clear j1 j2 j3 j4;go_wp2;exact hk4.out
 ·have n7:=aP op 7 (by omega)
  have n8:((op:Int)==8)=true:=by rw[beq_iff_eq];omega
  have Q8:(op==7)=false:=by simp[ho]
  rw[Q8]at HR0;have j1:Calls prog 128 #[.pointer (some ⟨p,0,none⟩),.int .u8 5] (dN w p x bn bl op pp (m:Int) (-1)).drew (pY T0 p vs x bn bl (dN w p x bn bl op pp (m:Int) (-1)).drew F aj M (.leaf (5,0))):=Ko m0.obj fun G rest hpo=>nz hpo 5 (by simp)
  rw[show (if op=7 then 4 else 5)=5 by simp[ho]]at HR0
  clear ho Q8;unfold dN aW cu gQ at *;unfold iM at *;dsimp only at *
  go_enter func104,ntmps104
  go_wp2_with fail
  go_region_held2 (fun w'=>(w'.cell? ⟨w.heap.size,0,none⟩=some (.pointer (some ⟨p,0,none⟩))/\w'.cell? ⟨w.heap.size,1,none⟩=some (.int .u8 x)/\w'.cell? ⟨w.heap.size,2,none⟩=some (.map (some bn))/\w'.cell? ⟨w.heap.size,3,none⟩=some (.map (some bl)))/\w'.cell? ⟨w.heap.size+1,2,none⟩=some (.int .i64 m)/\w'.cell? ⟨w.heap.size+1,3,none⟩=some (.int .i64 (-1))) (first|exact hk0|exact dP|assumption|fail) (first
   | (revert j1;intro j1;go_at_call 128;(with_reducible refine j1.mono ?_);rintro e w1 ⟨n1,i1,F1,rfl,hp1,tX,dU,iF⟩;have m1:=m0.step dU hp1 iF (List.prefix_refl _) m0.good;have hk1:=dL.out _ m1.rb m1.xb;have HR1:Hid _:=HR0.out;have j2:=qX m1.obj n1 _ tX (GX 5 (by simp)) (Qc (by simp));unfold iM at j2)
   | (revert j2;intro j2;go_at_call 127;(with_reducible refine j2.mono ?_);rintro e w2 ⟨F2,i2,dA,hp2,⟨L2,M2,q2,d2,hs2,rfl,iY,hO2⟩|⟨hs2,rfl,M2,iO,hO2⟩⟩;(case inr=>exact⟨rfl,HQ.out _ _ (m1.bad (by rw[HR1.out,hs2];first|done|rfl) dA hp2 iO hO2)⟩);have hr2:=HR1.out;rw[hs2]at hr2;dsimp only[bindM]at hr2;have HR2:Hid _:=hr2;clear hr2;have l2:=MZ m1.good (GX 5 (by simp)) hs2;have m2:=m1.step dA hp2 hO2 l2.pre l2.good;have hk2:=dL.out _ m2.rb m2.xb;have j3:=qX m2.obj m _ (hm.pre m2.hi) zG.out.1 zG.out.2;unfold iM at j3)
   | (revert j3;intro j3;go_at_call 127;(with_reducible refine j3.mono ?_);rintro e w3 ⟨F3,i3,eF,hp3,⟨L3,M3,q3,d3,hs3,rfl,nT,hO3⟩|⟨hs3,rfl,M3,jX,hO3⟩⟩;(case inr=>exact⟨rfl,HQ.out _ _ (m2.bad (by rw[HR2.out,hs3];first|done|rfl) eF hp3 jX hO3)⟩);have hr3:=HR2.out;rw[hs3]at hr3;dsimp only[bindM]at hr3;have HR3:Hid _:=hr3;clear hr3;have l3:=MZ m2.good zG.out.1 hs3;have m3:=m2.step eF hp3 hO3 l3.pre l3.good;have hk3:=dL.out _ m3.rb m3.xb;have j4:=qL (qs T0 p vs x bn bl) false m3.obj (iY.fr eF) (nT) l2.lst l3.lst;unfold vk at j4;simp only[Bool.false_eq_true,if_false]at j4)
   | (revert j4;intro j4;go_at_call 77;(with_reducible refine j4.mono ?_);rintro e w4 ⟨F4,i4,nK,rV,⟨L4,M4,q4,d4,hs4,rfl,BQ,hO4⟩|⟨hs4,rfl,M4,tN,hO4⟩⟩;(case inr=>exact⟨rfl,HQ.out _ _ (m3.bad (by rw[HR3.out,hs4];first|done|rfl) nK rV tN hO4)⟩);have hk4:Hid (Q (.returned (.slice q4 L4.length d4)) w4):=(HQ.out _ _ (m3.fin (by rw[HR3.out,hs4];first|done|rfl) nK rV BQ hO4));have Q9:=dL.out _ (qj m3.rb m3.rn nK).1 (qj m3.xb m3.xn nK).1)
   |fail)
  all_goals
   clear j1 j2 j3 j4;go_wp2;exact hk4.out
end Go.Proofs.YtoioiellaomonaaGreatDoor
