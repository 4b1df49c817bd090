/- Texts of the proof, put together: what it uses. -/
import Derived.Deep.RegionHeld2
import Derived.Defers
import Derived.Recover
import Derived.Test.YtailhklbmenaoaaGreatDoorX09
set_option maxRecDepth 100000
set_option maxHeartbeats 16000000
namespace Go.Proofs.YtailhklbmenaoaaGreatDoor
open Go.RowKit Go.Maps
abbrev ObjP:=World->(Nat->Prop)->List It->Mt->Prop
structure ObjC (Obj:ObjP):Prop where
 lt:∀{w F items M},Obj w F items M->∀k,F k->k<w.heap.size
 up:∀{w w' F items M},Obj w F items M->Below w.heap.size w w'->Obj w' F items M
def RetQ (Obj:ObjP) (w:World) (F:Nat->Prop) (items:List It) (M:Mt) (r:Rt) (e:Ending) (w':World):Prop :=
 ∃F' items',Fr w w' F F'/\items <+: items'/\((∃(L:List Nat) (M':Mt) (q:Option Addr) (d:Nat),r=some (L,M')/\e=.returned (.slice q L.length d)/\US w' F' q L.length d L/\Obj w' F' items' M')\/(r=none/\e=.panicked thrownP/\∃M',M <+: M'/\Obj w' F' items' M'))
theorem q4O{Obj:ObjP}(C:ObjC Obj){w w':World}{F:Nat->Prop}{items:List It}{M:Mt}(h:Obj w F items M){l:List Nat}{e:Ending}(hn:NewL l w e w'):RetQ Obj w F items M (some (l,M)) e w':=by
 obtain⟨q,d,rfl,hU,hb,hf⟩:=hn;exact⟨F,items,Fr.ofBelow hb,List.prefix_refl _,Or.inl ⟨l,M,q,d,rfl,rfl,⟨hU,fun k hk hF=>by have:=hf k hk;have:=C.lt h _ hF;omega⟩,C.up h hb⟩⟩
theorem RetQ.after{Obj:ObjP}{w w1 w2:World}{F F1:Nat->Prop}{items items1:List It}{M M1:Mt}{r:Rt}{e:Ending}(fr:Fr w w1 F F1)(hi:items <+: items1)(hM:M <+: M1)(h:RetQ Obj w1 F1 items1 M1 r e w2):RetQ Obj w F items M r e w2:=by
 obtain⟨F',i',h1,h2,h3⟩:=h;refine⟨F',i',fr.trans h1,hi.trans h2,h3.imp id ?_⟩
 rintro⟨a,b,M',c,d⟩
 exact⟨a,b,M',hM.trans c,d⟩
theorem q6q{Obj:ObjP}(C:ObjC Obj){w w':World}{F:Nat->Prop}{items:List It}{M:Mt}(h:Obj w F items M){r:Option (List Nat)}{e:Ending}(hn:TwoR r w e w'):RetQ Obj w F items M (r.map fun l=>(l,M)) e w':=by
 obtain⟨hb,⟨L,q,d,rfl,rfl,hU,hf⟩|⟨rfl,rfl⟩⟩:=hn
 ·exact⟨F,items,Fr.ofBelow hb,List.prefix_refl _,Or.inl ⟨L,M,q,d,rfl,rfl,⟨hU,fun k hk hF=>by have:=hf k hk;have:=C.lt h _ hF;omega⟩,C.up h hb⟩⟩
 ·exact⟨F,items,Fr.ofBelow hb,List.prefix_refl _,Or.inr ⟨rfl,rfl,M,List.prefix_refl _,C.up h hb⟩⟩
structure LstH (L:List Nat):Prop where
 sm:Sm L
 few:L.length<=1024
def twF (and:Bool):FuncId:=if and then 125 else 126
theorem qH{Obj:ObjP}(C:ObjC Obj)(and:Bool){w:World}{F:Nat->Prop}{items:List It}{M:Mt}(h:Obj w F items M){a b:Option Addr}{c d:Nat}{l k:List Nat}(hA:US w F a l.length c l)(hB:US w F b k.length d k)(la:LstH l)(lb:LstH k):
  Calls Tryz.prog (twF and) #[.slice a l.length c,.slice b k.length d] w (RetQ Obj w F items M (twoM and l k M)):=by
 cases and with
 |true=>exact(q4x a l.length c l b k.length d k w hA.sl hB.sl la.sm lb.sm (Nat.le_trans la.few (by decide)) (Nat.le_trans lb.few (by decide))).mono fun e w' hq=>q6q C h hq
 |false=>exact(q3L a l.length c l b k.length d k w hA.sl hB.sl la.sm lb.sm (Nat.le_trans la.few (by decide)) (Nat.le_trans lb.few (by decide))).mono fun e w' hq=>q6q C h hq
def NewE (w:World) (e:Ending):Prop:=∀q n d,e=.returned (.slice q n d)->∀k,k<n->w.heap.size<=(adOf q k).block
theorem q5d{w:World}{c:List PanicEntry}:NewE w (.panicked c):=fun q n d h=>by cases h
theorem NewE.at{w w':World}{e:Ending}(h:NewE w' e)(hs:w.heap.size<=w'.heap.size):NewE w e:=fun q n d he k hk=>Nat.le_trans hs (h q n d he k hk)
theorem qe1{w w':World}{r:Option (List Nat)}{e:Ending}(hn:TwoR r w e w'):NewE w e:=by
 obtain⟨hb,⟨L,q,d,rfl,rfl,hU,hf⟩|⟨rfl,rfl⟩⟩:=hn
 ·intro q' n' d' h k hk
  injection h with h;injection h with h1 h2 h3;subst h1 h2 h3;exact hf k hk
 ·exact fun q n d h=>by cases h
theorem qeo{Obj:ObjP}(C:ObjC Obj)(and:Bool){w:World}{F:Nat->Prop}{items:List It}{M:Mt}(h:Obj w F items M){a b:Option Addr}{c d:Nat}{l k:List Nat}(hA:US w F a l.length c l)(hB:US w F b k.length d k)(la:LstH l)(lb:LstH k):
  Calls Tryz.prog (twF and) #[.slice a l.length c,.slice b k.length d] w (fun e w'=>RetQ Obj w F items M (twoM and l k M) e w'/\NewE w e):=by
 cases and with
 |true=>exact(q4x a l.length c l b k.length d k w hA.sl hB.sl la.sm lb.sm (Nat.le_trans la.few (by decide)) (Nat.le_trans lb.few (by decide))).mono fun e w' hq=>⟨q6q C h hq,qe1 hq⟩
 |false=>exact(q3L a l.length c l b k.length d k w hA.sl hB.sl la.sm lb.sm (Nat.le_trans la.few (by decide)) (Nat.le_trans lb.few (by decide))).mono fun e w' hq=>⟨q6q C h hq,qe1 hq⟩
theorem q6p(T0:Tr)(p:Nat)(vs:Value):ObjC (fun w F items M=>PgO T0 w F p vs items M):=⟨fun h=>h.lt,fun h hb=>h.up hb⟩
def NeedQ (T0:Tr) (p:Nat) (vs:Value) (S:Tr):Prop:=∀(w:World) (F:Nat->Prop) (items:List It) (M:Mt) (i:Nat),PgO T0 w F p vs items M->Rep items i S->Calls Tryz.prog 96 #[.pointer (some ⟨p,0,none⟩),.int .i64 (i:Int)] w (RetQ (fun w F items M=>PgO T0 w F p vs items M) w F items M (needM S M))
theorem PgO.part{T0:Tr}{w:World}{F:Nat->Prop}{p:Nat}{vs:Value}{items:List It}{M:Mt}(h:PgO T0 w F p vs items M):∃G rest,PtO T0 w G p 128 rest items:=by
 obtain⟨G,mn,vm,met,hr,hF⟩:=h.ex;exact⟨G,_,hr.po⟩
theorem q9n{T0:Tr}{p:Nat}{vs:Value}(op pp:Nat)(ho:op=11\/op=12)(c d:Tr)(hT:KT (.bin (op,pp) c d))(hc:NeedQ T0 p vs c)(hd:NeedQ T0 p vs d):NeedQ T0 p vs (.bin (op,pp) c d):=by
 intro w F items M i h hi;obtain⟨kc,kd⟩:=qD hT (by omega)
 obtain⟨m,l,hx,hm,hl⟩:∃m l:Nat,items[i]? =some ⟨op,pp,(m:Int),(l:Int)⟩/\Rep items m c/\Rep items l d:=by cases hi with|bin h h1 h2 h3 h4=>exact⟨_,_,h,h3,h4⟩
 obtain⟨G,rest,hpo⟩:=h.part;obtain⟨a,n,cap,g,o,c0,hidx,x0,x1,x2,x3⟩:=hpo.at hx;have hb:=qc w (itO ⟨op,pp,(m:Int),(l:Int)⟩);have hbx:=(mha w (itO ⟨op,pp,(m:Int),(l:Int)⟩)).1;have hO1:=h.up hb.drew;have j1:=hc _ F items M m hO1 hm;obtain⟨r1,hr1⟩:∃r,r=needM c M:=⟨_,rfl⟩
 rw[<-hr1]at j1;have HR1:Hid (r1=needM c M):=hr1;have cells:∀w':World,w'.heap[w.heap.size]? =some (itO ⟨op,pp,(m:Int),(l:Int)⟩)->w'.cell? ⟨w.heap.size,2,none⟩=some (.int .i64 (m:Int))/\w'.cell? ⟨w.heap.size,3,none⟩=some (.int .i64 (l:Int)):=fun w' e=>⟨qb e 2,qb e 3⟩
 have hk0:=cells (w.alloc (itO ⟨op,pp,(m:Int),(l:Int)⟩)).drew hbx;have hk00:=cells _ hbx;have HCL:Hid _:=cells;have HBX:Hid ((w.alloc (itO ⟨op,pp,(m:Int),(l:Int)⟩)).drew.heap[w.heap.size]? =some (itO ⟨op,pp,(m:Int),(l:Int)⟩)):=hbx;have HNF:Hid (¬F w.heap.size):=fun e=>Nat.lt_irrefl _ (h.lt _ e)
 have HD:Hid (NeedQ T0 p vs d):=hd;have HL:Hid (Rep items l d):=hl;have HG:Hid (GoodM M):=h.good;have HK:Hid (KT c/\KT d):=⟨kc,kd⟩;have HF0:Hid (Fr w (w.alloc (itO ⟨op,pp,(m:Int),(l:Int)⟩)).drew F F):=Fr.ofBelow hb.drew;obtain⟨R,hR⟩:∃R,R=needM (.bin (op,pp) c d) M:=⟨_,rfl⟩
 have HR:Hid (R=bindM (needM c M) fun a M1=>bindM (needM d M1) fun b M2=>twoM (op==11) a b M2):=by show _=_;rw[hR,needM,if_pos ho]
 rw[<-hR];obtain⟨Q,hQ⟩:∃Q:Ending->World->Prop,Q=RetQ (fun w F items M=>PgO T0 w F p vs items M) w F items M R:=⟨_,rfl⟩
 have HQ:Hid (∀e w',RetQ (fun w F items M=>PgO T0 w F p vs items M) w F items M R e w'->Q e w'):=fun e w' h=>by rw[hQ];exact h
 rw[<-hQ];have HO:Hid (PgO T0 w F p vs items M):=h;clear h hi hT hc hd hx hm hl hpo hb hbx hO1 hr1 cells kc kd hR hQ;have n0:((op:Int)==0)=false:=by rw[bqn];omega
 have n1:((op:Int)==1)=false:=by rw[bqn];omega
 rcases ho with ho|ho
 ·have n11:((op:Int)==11)=true:=by rw[beq_iff_eq];omega
  have hob:(op==11)=true:=by simp[ho]
  rw[hob]at HR;clear ho hob;unfold itO at *;dsimp only at *
  go_enter Tryz.func96,Tryz.ntmps96
  go_wp2_with fail
  go_region_held2 (fun w'=>w'.cell? ⟨w.heap.size,2,none⟩=some (.int .i64 (m:Int))/\w'.cell? ⟨w.heap.size,3,none⟩=some (.int .i64 (l:Int))) (first|exact hk0|exact hk00|assumption|fail) (first
   | (revert j1;intro j1;go_at_call 96;(with_reducible refine j1.mono ?_);rintro e w1 ⟨F1,i1,fr1,hp1,⟨L1,M1,q1,d1,hs1,rfl,hU1,hO2⟩|⟨hs1,rfl,M1,hpm,hO2⟩⟩;(case inr=>exact⟨rfl,HQ.out _ _ ⟨F1,i1,HF0.out.trans fr1,hp1,Or.inr ⟨by rw[HR.out,<-HR1.out,hs1];rfl,rfl,M1,hpm,hO2⟩⟩⟩);have hbk1:=qh HBX.out HNF.out fr1;have hk1:=HCL.out _ hbk1.1;have j2:=HD.out _ F1 i1 M1 l hO2 (HL.out.pre hp1);have ex1:=(qV c HG.out HK.out.1 (HR1.out.symm.trans hs1)).1;have nl1:=q1U c (HR1.out.symm.trans hs1))
   | (revert j2;intro j2;go_at_call 96;(with_reducible refine j2.mono ?_);rintro e w2 ⟨F2,i2,fr2,hp2,⟨L2,M2,q2,d2,hs2,rfl,hU2,hO3⟩|⟨hs2,rfl,M2,hpm,hO3⟩⟩;(case inr=>exact⟨rfl,HQ.out _ _ ⟨F2,i2,(HF0.out.trans fr1).trans fr2,hp1.trans hp2,Or.inr ⟨by rw[HR.out,<-HR1.out,hs1];show bindM (needM d M1) _=none;rw[hs2];rfl,rfl,M2,ex1.pre.trans hpm,hO3⟩⟩⟩);have hbk2:=qh hbk1.1 hbk1.2 fr2;have hk2:=HCL.out _ hbk2.1;have ex2:=(qV d ex1.good HK.out.2 hs2).1;have nl2:=q1U d hs2;have j3:=qH (q6p T0 p vs) true hO3 (hU1.fr fr2) hU2 ⟨qT ex1.bd ex1.good.few,nl1⟩ ⟨qT ex2.bd ex2.good.few,nl2⟩;unfold twF at j3;simp only[if_true]at j3)
   | (revert j3;intro j3;go_at_call 125;(with_reducible refine j3.mono ?_);rintro e w3 ⟨F3,i3,fr3,hp3,⟨L3,M3,q3,d3,hs3,rfl,hU3,hO4⟩|⟨hs3,rfl,M3,hpm,hO4⟩⟩;(case inr=>exact⟨rfl,HQ.out _ _ ⟨F3,i3,((HF0.out.trans fr1).trans fr2).trans fr3,(hp1.trans hp2).trans hp3,Or.inr ⟨by rw[HR.out,<-HR1.out,hs1];show bindM (needM d M1) _=none;rw[hs2];exact hs3,rfl,M3,(ex1.pre.trans ex2.pre).trans hpm,hO4⟩⟩⟩);have hk3:=HCL.out _ (qh hbk2.1 hbk2.2 fr3).1;have HE:Hid (Q (.returned (.slice q3 L3.length d3)) w3):=(HQ.out _ _ ⟨F3,i3,((HF0.out.trans fr1).trans fr2).trans fr3,(hp1.trans hp2).trans hp3,Or.inl ⟨L3,M3,q3,d3,by rw[HR.out,<-HR1.out,hs1];show bindM (needM d M1) _=_;rw[hs2];exact hs3,rfl,hU3,hO4⟩⟩))
   |fail)
  all_goals
   clear j1 j2 j3;go_wp2;exact HE.out
 ·have n11:((op:Int)==11)=false:=by rw[bqn];omega
  have n12:((op:Int)==12)=true:=by rw[beq_iff_eq];omega
  have hob:(op==11)=false:=by simp[ho]
  rw[hob]at HR;clear ho hob;unfold itO at *;dsimp only at *
  go_enter Tryz.func96,Tryz.ntmps96
  go_wp2_with fail
  go_region_held2 (fun w'=>w'.cell? ⟨w.heap.size,2,none⟩=some (.int .i64 (m:Int))/\w'.cell? ⟨w.heap.size,3,none⟩=some (.int .i64 (l:Int))) (first|exact hk0|exact hk00|assumption|fail) (first
   | (revert j1;intro j1;go_at_call 96;(with_reducible refine j1.mono ?_);rintro e w1 ⟨F1,i1,fr1,hp1,⟨L1,M1,q1,d1,hs1,rfl,hU1,hO2⟩|⟨hs1,rfl,M1,hpm,hO2⟩⟩;(case inr=>exact⟨rfl,HQ.out _ _ ⟨F1,i1,HF0.out.trans fr1,hp1,Or.inr ⟨by rw[HR.out,<-HR1.out,hs1];rfl,rfl,M1,hpm,hO2⟩⟩⟩);have hbk1:=qh HBX.out HNF.out fr1;have hk1:=HCL.out _ hbk1.1;have j2:=HD.out _ F1 i1 M1 l hO2 (HL.out.pre hp1);have ex1:=(qV c HG.out HK.out.1 (HR1.out.symm.trans hs1)).1;have nl1:=q1U c (HR1.out.symm.trans hs1))
   | (revert j2;intro j2;go_at_call 96;(with_reducible refine j2.mono ?_);rintro e w2 ⟨F2,i2,fr2,hp2,⟨L2,M2,q2,d2,hs2,rfl,hU2,hO3⟩|⟨hs2,rfl,M2,hpm,hO3⟩⟩;(case inr=>exact⟨rfl,HQ.out _ _ ⟨F2,i2,(HF0.out.trans fr1).trans fr2,hp1.trans hp2,Or.inr ⟨by rw[HR.out,<-HR1.out,hs1];show bindM (needM d M1) _=none;rw[hs2];rfl,rfl,M2,ex1.pre.trans hpm,hO3⟩⟩⟩);have hbk2:=qh hbk1.1 hbk1.2 fr2;have hk2:=HCL.out _ hbk2.1;have ex2:=(qV d ex1.good HK.out.2 hs2).1;have nl2:=q1U d hs2;have j3:=qH (q6p T0 p vs) false hO3 (hU1.fr fr2) hU2 ⟨qT ex1.bd ex1.good.few,nl1⟩ ⟨qT ex2.bd ex2.good.few,nl2⟩;unfold twF at j3;simp only[Bool.false_eq_true,if_false]at j3)
   | (revert j3;intro j3;go_at_call 126;(with_reducible refine j3.mono ?_);rintro e w3 ⟨F3,i3,fr3,hp3,⟨L3,M3,q3,d3,hs3,rfl,hU3,hO4⟩|⟨hs3,rfl,M3,hpm,hO4⟩⟩;(case inr=>exact⟨rfl,HQ.out _ _ ⟨F3,i3,((HF0.out.trans fr1).trans fr2).trans fr3,(hp1.trans hp2).trans hp3,Or.inr ⟨by rw[HR.out,<-HR1.out,hs1];show bindM (needM d M1) _=none;rw[hs2];exact hs3,rfl,M3,(ex1.pre.trans ex2.pre).trans hpm,hO4⟩⟩⟩);have hk3:=HCL.out _ (qh hbk2.1 hbk2.2 fr3).1;have HE:Hid (Q (.returned (.slice q3 L3.length d3)) w3):=(HQ.out _ _ ⟨F3,i3,((HF0.out.trans fr1).trans fr2).trans fr3,(hp1.trans hp2).trans hp3,Or.inl ⟨L3,M3,q3,d3,by rw[HR.out,<-HR1.out,hs1];show bindM (needM d M1) _=_;rw[hs2];exact hs3,rfl,hU3,hO4⟩⟩))
   |fail)
  all_goals
   clear j1 j2 j3;go_wp2;exact HE.out
theorem q9o{T0:Tr}{p:Nat}{vs:Value}{w:World}{F:Nat->Prop}{items:List It}{M:Mt}(i op pp:Nat)(xa xb:Int)(S:Tr)(h:PgO T0 w F p vs items M)(hx:items[i]? =some ⟨op,pp,xa,xb⟩)(ho:op=0\/op=1)(hs:needM S M=some (yesM (op==0),M)):
  Calls Tryz.prog 96 #[.pointer (some ⟨p,0,none⟩),.int .i64 (i:Int)] w (RetQ (fun w F items M=>PgO T0 w F p vs items M) w F items M (needM S M)):=by
 obtain⟨G,rest,hpo⟩:=h.part;obtain⟨a,n,cap,g,o,c0,hidx,x0,x1,x2,x3⟩:=hpo.at hx;have hb:=qc w (itO ⟨op,pp,xa,xb⟩);obtain⟨Q,hQ⟩:∃Q:Ending->World->Prop,Q=RetQ (fun w F items M=>PgO T0 w F p vs items M) w F items M (needM S M):=⟨_,rfl⟩
 have HQ:Hid (∀e w',RetQ (fun w F items M=>PgO T0 w F p vs items M) w F items M (needM S M) e w'->Q e w'):=fun e w' h=>by rw[hQ];exact h
 rw[<-hQ];have HF0:Hid (Fr w (w.alloc (itO ⟨op,pp,xa,xb⟩)) F F):=Fr.ofBelow hb;have HN:Hid (∀l e w',NewL l (w.alloc (itO ⟨op,pp,xa,xb⟩)) e w'->l=yesM (op==0)->Q e w'):=fun l e w' hn hl=>HQ.out e w' (by rw[hs,<-hl];exact(q4O (q6p T0 p vs) (h.up hb) hn).after HF0.out (List.prefix_refl _) (List.prefix_refl _))
 have jj:=q2a (w.alloc (itO ⟨op,pp,xa,xb⟩));clear h hx hpo hb hQ HQ hs HF0;rcases ho with rfl|rfl
 ·unfold itO at *
  dsimp only at *
  go_enter Tryz.func96,Tryz.ntmps96
  go_wp2_with fail
  refine jj.mono ?_
  rintro e w1 ⟨q,C,rfl,hU,hbb,hf⟩
  have HE:Hid (Q (.returned (.slice q [0].length C)) w1):=HN.out [0] _ _ ⟨q,C,rfl,hU,hbb,hf⟩ rfl;clear jj hU hbb hf;go_wp2;exact HE.out
 ·have HE:Hid (Q (.returned (.slice none 0 0)) (w.alloc (itO ⟨1,pp,xa,xb⟩))):=HN.out [] _ _ (q3U _ _ (Below.refl _ _)) rfl
  unfold itO at *;dsimp only at *
  clear jj;go_enter Tryz.func96,Tryz.ntmps96
  go_wp2;exact HE.out
theorem qc4(n:Nat)(w:World):NewL [2 ^ n] w (.returned (.slice (some ⟨w.heap.size,0,none⟩) 1 1)) (w.alloc (.cells #[.int .u64 ((2 ^ n:Nat):Int)] 55)) :=
 ⟨_,1,rfl,q3M [2 ^ n] w (by simp),qc _ _,fun k hk=>by simp[adOf,qg]⟩
theorem q2Q{T0:Tr}{p:Nat}{vs:Value}{w:World}{F:Nat->Prop}{items:List It}{M:Mt}(i op pp:Nat)(xa xb:Int)(S:Tr)(h:PgO T0 w F p vs items M)(hx:items[i]? =some ⟨op,pp,xa,xb⟩)(ho:op≠0/\op≠1/\op≠11/\op≠12)(hi:Rep items i S)(hS:InC T0 S)(kS:KT S)(hs:needM S M=meetM S.flat M):
  Calls Tryz.prog 96 #[.pointer (some ⟨p,0,none⟩),.int .i64 (i:Int)] w (RetQ (fun w F items M=>PgO T0 w F p vs items M) w F items M (needM S M)):=by
 obtain⟨G,rest,hpo⟩:=h.part;obtain⟨a,n,cap,g,o,c0,hidx,x0,x1,x2,x3⟩:=hpo.at hx;have hb:=qc w (itO ⟨op,pp,xa,xb⟩);obtain⟨Q,hQ⟩:∃Q:Ending->World->Prop,Q=RetQ (fun w F items M=>PgO T0 w F p vs items M) w F items M (needM S M):=⟨_,rfl⟩
 have HQ:Hid (∀e w',RetQ (fun w F items M=>PgO T0 w F p vs items M) w F items M (needM S M) e w'->Q e w'):=fun e w' h=>by rw[hQ];exact h
 rw[<-hQ];have HF0:Hid (Fr w (w.alloc (itO ⟨op,pp,xa,xb⟩)) F F):=Fr.ofBelow hb;have jm:=q9m (h.up hb) i S hi hS kS;have n0:((op:Int)==0)=false:=by rw[bqn];omega
 have n1:((op:Int)==1)=false:=by rw[bqn];omega
 have n11:((op:Int)==11)=false:=by rw[bqn];omega
 have n12:((op:Int)==12)=false:=by rw[bqn];omega
 rw[hs]at HQ;clear h hx hpo hb hQ hs ho hi hS kS;unfold itO at *;dsimp only at *
 go_enter Tryz.func96,Tryz.ntmps96
 go_wp2_with fail
 refine jm.mono ?_
 rintro e w1 ⟨F1,fr1,⟨k,M1,hm,hk,rfl,hO⟩|⟨hm,rfl,hO⟩⟩
 ·have HE:Hid (Q (.returned (.slice (some ⟨w1.heap.size,0,none⟩) 1 1)) (w1.alloc (.cells #[.int .u64 ((2 ^ k:Nat):Int)] 55))):=HQ.out _ _ (by
   rw[hm];obtain⟨F2,i2,f2,p2,h2⟩:=q4O (q6p T0 p vs) hO (qc4 k w1);refine⟨F2,i2,(HF0.out.trans fr1).trans f2,p2,Or.inl ?_⟩
   rcases h2 with⟨L,M',q,d,e,h3⟩|⟨e,_⟩
   ·exact⟨L,M',q,d,e,h3⟩
   ·cases e)
  have hpw:IntKind.u64.wrap (2 ^ k)=((2 ^ k:Nat):Int):=by
   have:(2:Nat) ^ k<2 ^ 64:=Nat.pow_lt_pow_right (by decide) hk
   rw[IntKind.wrap_u64,show ((2:Int) ^ k)=((2 ^ k:Nat):Int) by simp]
   generalize 2 ^ k=y at this ⊢
   omega
  have HPW:Hid _:=hpw;clear jm hm fr1 hO hpw;go_wp2;have e:=HPW.out;rw[e];exact HE.out
 ·exact⟨rfl,HQ.out _ _ ⟨F1,items,HF0.out.trans fr1,List.prefix_refl _,Or.inr ⟨hm,rfl,M,List.prefix_refl _,hO⟩⟩⟩
theorem q2k{T0:Tr}{p:Nat}{vs:Value}:∀(S:Tr),KT S->InC T0 S->NeedQ T0 p vs S
 | .leaf (op,pp),kS,hS=>by
  intro w F items M i h hi;have hx:items[i]? =some ⟨op,pp,-1,-1⟩:=by cases hi with|leaf h=>exact h
  by_cases ho:op=0\/op=1
  ·refine q9o i op pp (-1) (-1) _ h hx ho ?_
   unfold needM;rcases ho with rfl|rfl
   ·rfl
   ·rfl
  ·have h4:op≠0/\op≠1/\op≠11/\op≠12:=by rcases q1X kS with⟨rfl,_⟩|⟨_,hh⟩<;>omega
   refine q2Q i op pp (-1) (-1) _ h hx h4 hi hS kS ?_
   unfold needM;rw[if_neg (by dsimp only;omega),if_neg (by dsimp only;omega)]
 | .un (op,pp) c,kS,hS=>by
  intro w F items M i h hi;obtain⟨m,hx⟩:∃m:Nat,items[i]? =some ⟨op,pp,(m:Int),-1⟩:=by cases hi with|un h h1 h2=>exact⟨_,h⟩
  have h4:op≠0/\op≠1/\op≠11/\op≠12:=by rcases kt_un kS with⟨_,⟨rfl,_⟩|⟨hh,_⟩⟩<;>omega
  exact q2Q i op pp (m:Int) (-1) _ h hx h4 hi hS kS rfl
 | .bin (op,pp) c d,kS,hS=>by
  by_cases ho:op=11\/op=12
  ·obtain⟨kc,kd⟩:=qD kS (by omega)
   obtain⟨ic,id,_⟩:=qdX hS;exact q9n op pp ho c d kS (q2k c kc ic) (q2k d kd id)
  ·intro w F items M i h hi
   obtain⟨m,l,hx⟩:∃m l:Nat,items[i]? =some ⟨op,pp,(m:Int),(l:Int)⟩:=by cases hi with|bin h h1 h2 h3 h4=>exact⟨_,_,h⟩
   obtain⟨_,hh⟩:=q1J kS;refine q2Q i op pp (m:Int) (l:Int) _ h hx (by omega) hi hS kS ?_
   rw[needM,if_neg ho]
def anyElem (v:Value):Option (DataW Value×List MemPlace):=some (.held v,[])
def klN (i:Nat):Lit:=.int .i64 (i:Int)
theorem q5P:Keyed Tryz.prog 3:=int_keyed Tryz.underlying3
theorem q7P(i:Nat)(h:i<=100000000):keyOf Tryz.prog 3 (.int .i64 (i:Int))=some (klN i):=keyOf_int_mk Tryz.underlying3 (WalkArith.wf_i64 (by omega))
theorem qhZ{x y:Nat}(h:klN x=klN y):x=y:=by
 injection h with _ h
 omega
theorem q9Q(i:Nat):WideAt.IsKeyLit (klN i):=trivial
def MemM (w:World) (b:Nat) (ks:List Nat) (f:Nat->Option Value):Prop :=
 ∃D:DataW Value,w.ownsMap Tryz.prog 3 anyElem b ks.length D/\Tidy D/\Maps.size D=ks.length/\ks.Nodup/\(∀i,(f i).isSome=true↔i∈ks)/\∀i,i<=100000000->has D (klN i)=(f i).isSome/\∀v,f i=some v->D.atKey (klN i) (.held (.slice none 0 0))=.held v
theorem MemM.lt{w:World}{b:Nat}{ks:List Nat}{f:Nat->Option Value}(h:MemM w b ks f):b<w.heap.size:=by
 obtain⟨D,h,_⟩:=h;exact h.lt
theorem MemM.far{w w':World}{b:Nat}{ks:List Nat}{f:Nat->Option Value}(h:MemM w b ks f)(hb:w'.heap[b]? =w.heap[b]?):MemM w' b ks f:=by
 obtain⟨D,⟨es,clock,h1,h2⟩,r⟩:=h;exact⟨D,⟨es,clock,hb.trans h1,h2⟩,r⟩
theorem MemM.isMap{w:World}{b:Nat}{ks:List Nat}{f:Nat->Option Value}(h:MemM w b ks f):∃es c,w.heap[b]? =some (.map es c):=by
 obtain⟨D,⟨es,clock,h1,h2⟩,r⟩:=h;exact⟨es,clock,h1⟩
theorem qcJ(w:World):MemM (w.alloc (.map #[] 0)) w.heap.size [] (fun _=>none) :=
 ⟨.map [],World.ownsMap_made _ _ _ _,tidy_empty,rfl,by simp,fun i=>by simp,fun i _=>⟨rfl,fun v hv=>by cases hv⟩⟩
theorem qcj(w:World):(zeroValue 46).run Tryz.prog w=.ok (.slice none 0 0) w:=by kernel_rfl
theorem MemM.look{w:World}{b:Nat}{ks:List Nat}{f:Nat->Option Value}(h:MemM w b ks f){i:Nat}(hi:i<=100000000):
  (Instr.lookup 189 (.map (some b)) (.int .i64 (i:Int)) true).run Tryz.prog w=.ok (.tuple #[(f i).getD (.slice none 0 0),.bool (f i).isSome]) w:=by
 obtain⟨D,h1,h2,_,h3,_,h4⟩:=h;obtain⟨hh,ha⟩:=h4 i hi;obtain⟨v,ps,hrun,hv⟩:=h1.look_ok q5P Tryz.underlying189 (qcj w) (zd:=.held (.slice none 0 0)) (zp:=[]) rfl (q7P i hi)
 have hc:D.atKey (klN i) (.held (.slice none 0 0))=.held v:=by
  unfold anyElem at hv;injection hv with hv;injection hv with hv _;exact hv.symm
 rw[hrun,hh]
 cases hf:f i with
 |none=>
  rw[hf]at hh;rw[atKey_of_not_has hh]at hc;injection hc with hc;subst hc
  rfl
 |some u=>
  rw[ha u hf]at hc;injection hc with hc;subst hc
  rfl
def addK (ks:List Nat) (i:Nat):List Nat:=if i∈ks then ks else i::ks
theorem MemM.put{w:World}{b:Nat}{ks:List Nat}{f:Nat->Option Value}(h:MemM w b ks f)(hn:ks.length<=100000000){i:Nat}(hi:i<=100000000)(v:Value):
  ∃w',(Instr.mapUpdate 189 (.map (some b)) (.int .i64 (i:Int)) v).run Tryz.prog w=.ok () w'/\MemM w' b (addK ks i) (fun y=>if y=i then some v else f y)/\w.grownBy w' (some b):=by
 obtain⟨D,h1,h2,h6,h3,h5,h4⟩:=h;obtain⟨w',hrun,hown,hg⟩:=h1.update q5P Tryz.underlying189 (by unfold maxLen;omega) (q7P i hi) (val:=v) (d:=.held v) (ps:=[]) rfl
 have hsz:Maps.size (D.put (klN i) (.held v))=(addK ks i).length:=by
  rw[size_put h2,(h4 i hi).1,h6];unfold addK;by_cases hm:i∈ks
  ·rw[if_pos hm,(h5 i).2 hm];rfl
  ·have:(f i).isSome=false:=by
    cases hq:(f i).isSome with
    |false=>rfl
    |true=>exact absurd ((h5 i).1 hq) hm
   rw[if_neg hm,this];rfl
 have hown':w'.ownsMap Tryz.prog 3 anyElem b (addK ks i).length (D.put (klN i) (.held v)):=by
  obtain⟨es,clock,g1,g2,g3,g4⟩:=hown;refine⟨es,clock,g1,g2,?_,g4⟩
  rw[<-hsz,g4];simp[Maps.size,length_sorted]
 refine⟨w',hrun,⟨_,hown',h2.put (q9Q i) _,hsz,?_,fun y=>?_,fun y hy=>?_⟩,hg⟩
 ·unfold addK
  by_cases hm:i∈ks
  ·rw[if_pos hm];exact h3
  ·rw[if_neg hm];exact List.nodup_cons.2 ⟨hm,h3⟩
 ·dsimp only
  unfold addK;by_cases e:y=i
  ·subst e
   by_cases hm:y∈ks
   ·rw[if_pos rfl,if_pos hm];simp[hm]
   ·rw[if_pos rfl,if_neg hm];simp
  ·rw[if_neg e,h5 y]
   by_cases hm:i∈ks
   ·rw[if_pos hm]
   ·rw[if_neg hm];simp[e]
 ·dsimp only
  by_cases e:y=i
  ·subst e
   rw[if_pos rfl];refine⟨has_put_same h2.isMap (q9Q y) _,fun u hu=>?_⟩
   injection hu with hu;subst hu;exact atKey_put_same h2.isMap (q9Q y) _ _
  ·have ne:klN y≠klN i:=fun he=>e (qhZ he)
   rw[if_neg e,has_put_other ne];refine⟨(h4 y hy).1,fun u hu=>?_⟩
   rw[atKey_put_other ne];exact(h4 y hy).2 u hu
def EntersF (F:FuncId):Prop:=∀args w,(callFunc F args).run Tryz.prog w=.ok (.enter F args) w
theorem q4C(b i fid:Nat)(u v:Value)(w:World)(hlook:(Instr.lookup 189 (.map (some b)) (.int .i64 (i:Int)) true).run Tryz.prog w=.ok (.tuple #[v,.bool true]) w):
  Calls Tryz.prog 167 #[.map (some b),.int .i64 (i:Int),.func (.func fid) #[u] #[]] w fun e w'=>e=.returned v/\w'=w:=by
 go_enter Tryz.func167,Tryz.ntmps167
 go_wp2;go_ret
 exact⟨rfl,rfl⟩
theorem q47(b i fid:Nat)(u:Value)(w:World)(Q:Ending->World->Prop)(hE:EntersF fid)(hlook:(Instr.lookup 189 (.map (some b)) (.int .i64 (i:Int)) true).run Tryz.prog w=.ok (.tuple #[.slice none 0 0,.bool false]) w)
  (jw:Calls Tryz.prog fid #[u,.int .i64 (i:Int)] w fun e w'=>(∃v w'',e=.returned v/\(Instr.mapUpdate 189 (.map (some b)) (.int .i64 (i:Int)) v).run Tryz.prog w'=.ok () w''/\Q (.returned v) w'')\/(e=.panicked thrownP/\Q (.panicked thrownP) w')):
  Calls Tryz.prog 167 #[.map (some b),.int .i64 (i:Int),.func (.func fid) #[u] #[]] w Q:=by
 unfold EntersF at hE;go_enter Tryz.func167,Tryz.ntmps167
 go_wp2_with fail
 refine jw.mono ?_
 rintro e w1 (⟨v,w2,rfl,hrun,hq⟩|⟨rfl,hq⟩)
 ·have HQ:Hid _:=hq
  clear jw hq;go_wp2;exact HQ.out
 ·exact⟨rfl,hq⟩
def Told (w:World) (F:Nat->Prop) (items:List It) (M:Mt) (g:Tr->Mt->Rt) (i:Nat) (v:Value):Prop :=
 ∃(a:Option Addr) (c:Nat) (l:List Nat) (S:Tr),v=.slice a l.length c/\US w F a l.length c l/\LstH l/\Rep items i S/\∀M2,M <+: M2->g S M2=some (l,M2)
theorem Told.go{w w':World}{F F':Nat->Prop}{items items':List It}{M M':Mt}{g:Tr->Mt->Rt}{i:Nat}{v:Value}(h:Told w F items M g i v)(fr:Fr w w' F F')(hi:items <+: items')(hM:M <+: M'):Told w' F' items' M' g i v:=by
 obtain⟨a,c,l,S,h1,h2,h3,h4,h5⟩:=h;exact⟨a,c,l,S,h1,h2.fr fr,h3,h4.pre hi,fun M2 h=>h5 M2 (hM.trans h)⟩
structure RdR (T0:Tr) (p:Nat) (vs:Value) (x bn bl:Nat) (w:World) (F F1:Nat->Prop) (items:List It) (M:Mt) (kn kl:List Nat) (fn fl:Nat->Option Value):Prop where
 pg:PgO T0 w F1 p vs items M
 mn:MemM w bn kn fn
 ml:MemM w bl kl fl
 ne:bn≠bl
 nn:¬F1 bn
 nl:¬F1 bl
 ff:∀k,F k↔(F1 k\/k=bn\/k=bl)
 tn:∀i v,fn i=some v->Told w F items M needM i v
 tl:∀i v,fl i=some v->Told w F items M (fun S=>aftC S x) i v
def RdO (T0:Tr) (p:Nat) (vs:Value) (x bn bl:Nat):ObjP:=fun w F items M=>∃F1 kn kl fn fl,RdR T0 p vs x bn bl w F F1 items M kn kl fn fl
theorem RdR.lt{T0:Tr}{p:Nat}{vs:Value}{x bn bl:Nat}{w:World}{F F1:Nat->Prop}{items:List It}{M:Mt}{kn kl:List Nat}{fn fl:Nat->Option Value}(h:RdR T0 p vs x bn bl w F F1 items M kn kl fn fl):∀k,F k->k<w.heap.size:=fun k hk=>by
 rcases (h.ff k).1 hk with e|e|e
 ·exact h.pg.lt k e
 ·rw[e];exact h.mn.lt
 ·rw[e];exact h.ml.lt
theorem RdR.up{T0:Tr}{p:Nat}{vs:Value}{x bn bl:Nat}{w w':World}{F F1:Nat->Prop}{items:List It}{M:Mt}{kn kl:List Nat}{fn fl:Nat->Option Value}(h:RdR T0 p vs x bn bl w F F1 items M kn kl fn fl)(hb:Below w.heap.size w w'):RdR T0 p vs x bn bl w' F F1 items M kn kl fn fl :=
 ⟨h.pg.up hb,h.mn.far (hb.block _ h.mn.lt),h.ml.far (hb.block _ h.ml.lt),h.ne,h.nn,h.nl,h.ff,fun i v hv=>(h.tn i v hv).go (Fr.ofBelow hb) (List.prefix_refl _) (List.prefix_refl _),fun i v hv=>(h.tl i v hv).go (Fr.ofBelow hb) (List.prefix_refl _) (List.prefix_refl _)⟩
theorem qp(T0:Tr)(p:Nat)(vs:Value)(x bn bl:Nat):ObjC (RdO T0 p vs x bn bl) :=
 ⟨fun⟨_,_,_,_,_,h⟩=>h.lt,fun⟨F1,kn,kl,fn,fl,h⟩ hb=>⟨F1,kn,kl,fn,fl,h.up hb⟩⟩
theorem RdR.prog{T0:Tr}{p:Nat}{vs:Value}{x bn bl:Nat}{w w':World}{F F1 F1':Nat->Prop}{items items':List It}{M M':Mt}{kn kl:List Nat}{fn fl:Nat->Option Value}(h:RdR T0 p vs x bn bl w F F1 items M kn kl fn fl)(hp:PgO T0 w' F1' p vs items' M')(fr:Fr w w' F1 F1')(hi:items <+: items')(hM:M <+: M'):
  RdR T0 p vs x bn bl w' (fun k=>F1' k\/k=bn\/k=bl) F1' items' M' kn kl fn fl/\Fr w w' F (fun k=>F1' k\/k=bn\/k=bl):=by
 have fr2:Fr w w' F (fun k=>F1' k\/k=bn\/k=bl):=⟨fr.os,fr.tape,fr.output,fr.size,fun k hk hF=>fr.keep k hk fun e=>hF ((h.ff k).2 (Or.inl e)),fun k hk=>by
  rcases hk with e|e|e
  ·exact(fr.foot k e).imp (fun e=>(h.ff k).2 (Or.inl e)) id
  ·exact Or.inl ((h.ff k).2 (Or.inr (Or.inl e)))
  ·exact Or.inl ((h.ff k).2 (Or.inr (Or.inr e)))⟩
 exact⟨⟨hp,h.mn.far (fr.keep _ h.mn.lt h.nn),h.ml.far (fr.keep _ h.ml.lt h.nl),h.ne,fr.out h.nn h.mn.lt,fr.out h.nl h.ml.lt,fun k=>Iff.rfl,fun i v hv=>(h.tn i v hv).go fr2 hi hM,fun i v hv=>(h.tl i v hv).go fr2 hi hM⟩,fr2⟩
theorem qcF{items:List It}{ks:List Nat}(hn:ks.Nodup)(h:∀i∈ks,i<items.length):ks.length<=items.length:=by
 have:=q7s (m:=List.range items.length) hn fun i hi=>List.mem_range.2 (h i hi)
 simpa using this
section
variable {T0:Tr} {p:Nat} {vs:Value} {x bn bl:Nat} {w w':World} {F F1:Nat->Prop} {items:List It} {M:Mt} {kn kl kn':List Nat} {fn fl fn':Nat->Option Value}
theorem RdR.putN(h:RdR T0 p vs x bn bl w F F1 items M kn kl fn fl)(hm:MemM w' bn kn' fn')(hg:w.grownBy w' (some bn))(ht:∀i v,fn' i=some v->Told w F items M needM i v):RdR T0 p vs x bn bl w' F F1 items M kn' kl fn' fl/\Fr w w' F F:=by
 have st:∀k,k<w.heap.size->k≠bn->w'.heap[k]? =w.heap[k]? := fun k hk hne=>hg.block k hk (fun e=>hne (by injection e))
 have fr:Fr w w' F F:=⟨hg.os,hg.tape,hg.output,hg.size,fun k hk hF=>st k hk fun e=>hF ((h.ff k).2 (Or.inr (Or.inl e))),fun _ hk=>Or.inl hk⟩
 exact⟨⟨h.pg.far fun k hk=>st k (h.pg.lt k hk) (fun e=>h.nn (e ▸ hk)),hm,h.ml.far (st bl h.ml.lt (fun e=>h.ne e.symm)),h.ne,h.nn,h.nl,h.ff,fun i v hv=>(ht i v hv).go fr (List.prefix_refl _) (List.prefix_refl _),fun i v hv=>(h.tl i v hv).go fr (List.prefix_refl _) (List.prefix_refl _)⟩,fr⟩
theorem RdR.putL(h:RdR T0 p vs x bn bl w F F1 items M kn kl fn fl)(hm:MemM w' bl kn' fn')(hg:w.grownBy w' (some bl))(ht:∀i v,fn' i=some v->Told w F items M (fun S=>aftC S x) i v):RdR T0 p vs x bn bl w' F F1 items M kn kn' fn fn'/\Fr w w' F F:=by
 have st:∀k,k<w.heap.size->k≠bl->w'.heap[k]? =w.heap[k]? := fun k hk hne=>hg.block k hk (fun e=>hne (by injection e))
 have fr:Fr w w' F F:=⟨hg.os,hg.tape,hg.output,hg.size,fun k hk hF=>st k hk fun e=>hF ((h.ff k).2 (Or.inr (Or.inr e))),fun _ hk=>Or.inl hk⟩
 exact⟨⟨h.pg.far fun k hk=>st k (h.pg.lt k hk) (fun e=>h.nl (e ▸ hk)),h.mn.far (st bn h.mn.lt h.ne),hm,h.ne,h.nn,h.nl,h.ff,fun i v hv=>(h.tn i v hv).go fr (List.prefix_refl _) (List.prefix_refl _),fun i v hv=>(ht i v hv).go fr (List.prefix_refl _) (List.prefix_refl _)⟩,fr⟩
theorem RdR.small(h:RdR T0 p vs x bn bl w F F1 items M kn kl fn fl):items.length<=20000000/\kn.length<=20000000/\kl.length<=20000000:=by
 obtain⟨G,rest,hpo⟩:=h.pg.part;have hf:=hpo.few;obtain⟨D,_,_,_,nd1,k1,_⟩:=h.mn;obtain⟨D2,_,_,_,nd2,k2,_⟩:=h.ml
 have a:=qcF (items:=items) nd1 fun i hi=>by
  obtain⟨v,hv⟩:=Option.isSome_iff_exists.1 ((k1 i).2 hi);obtain⟨_,_,_,_,_,_,_,hr,_⟩:=h.tn i v hv;exact hr.lt
 have b:=qcF (items:=items) nd2 fun i hi=>by
  obtain⟨v,hv⟩:=Option.isSome_iff_exists.1 ((k2 i).2 hi);obtain⟨_,_,_,_,_,_,_,hr,_⟩:=h.tl i v hv;exact hr.lt
 omega
end
theorem qaU:EntersF 96:=fun _ _=>rfl
theorem q7K:EntersF 168:=fun _ _=>rfl
theorem qgM{S:Tr}{M M':Mt}{L:List Nat}(hM:GoodM M)(hS:KT S)(h:needM S M=some (L,M')):LstH L/\M <+: M':=by
 have ex:=(qV S hM hS h).1;exact⟨⟨qT ex.bd ex.good.few,q1U S h⟩,ex.pre⟩
theorem qU{T0:Tr}{p:Nat}{vs:Value}{x bn bl:Nat}{w:World}{F:Nat->Prop}{items:List It}{M:Mt}(h:RdO T0 p vs x bn bl w F items M)(i:Nat)(S:Tr)(hi:Rep items i S)(kS:KT S)(hS:InC T0 S):
  Calls Tryz.prog 176 #[rdV p x bn bl,.int .i64 (i:Int)] w (RetQ (RdO T0 p vs x bn bl) w F items M (needM S M)):=by
 obtain⟨F1,kn,kl,fn,fl,hr⟩:=h;have hb:=qc w (rdO p x bn bl);have hr1:=hr.up hb;have hbx:=(mha w (rdO p x bn bl)).1;have hsm:=hr.small;have hil:=hi.lt;have hlk:=hr1.mn.look (i:=i) (by omega)
 have jj:Calls Tryz.prog 167 #[.map (some bn),.int .i64 (i:Int),.func (.func 96) #[.pointer (some ⟨p,0,none⟩)] #[]] (w.alloc (rdO p x bn bl)) (RetQ (RdO T0 p vs x bn bl) w F items M (needM S M)):=by
  cases hf:fn i with
  |some v=>
   rw[hf]at hlk;obtain⟨a,c,l,S',rfl,hU,hl,hrep,hag⟩:=hr1.tn i v hf;have e:=Rep.tree hrep hi;subst e;refine (q4C bn i _ _ _ _ hlk).mono ?_
   rintro e w' ⟨rfl,rfl⟩
   exact⟨F,items,Fr.ofBelow hb,List.prefix_refl _,Or.inl ⟨l,M,a,c,hag M (List.prefix_refl _),rfl,hU,F1,kn,kl,fn,fl,hr1⟩⟩
  |none=>
   rw[hf]at hlk;refine q47 bn i _ _ _ _ qaU hlk ?_
   refine (q2k S kS hS _ F1 items M i hr1.pg hi).mono ?_
   rintro e w1 ⟨F1',i1,fr1,hp1,⟨L,M1,q,d,hs,rfl,hU,hO⟩|⟨hs,rfl,M1,hM1,hO⟩⟩
   ·obtain⟨hL,hpre⟩:=qgM hr.pg.good kS hs
    obtain⟨hr2,fr2⟩:=hr1.prog hO fr1 hp1 hpre;obtain⟨w2,hrun,hm2,hg2⟩:=hr2.mn.put (by have:=hr2.small;omega) (i:=i) (by omega) (.slice q L.length d)
    have hU2:US w1 (fun k=>F1' k\/k=bn\/k=bl) q L.length d L:=⟨hU.sl,fun k hk hF=>by
     rcases hF with e|e|e
     ·exact hU.nf k hk e
     ·have hc:=hU.sl.cell k hk
      obtain⟨es,cl,hmap⟩:=hr2.mn.isMap;rw[<-e]at hmap;unfold World.cell? at hc;rw[hmap]at hc;simp at hc
     ·have hc:=hU.sl.cell k hk
      obtain⟨es,cl,hmap⟩:=hr2.ml.isMap;rw[<-e]at hmap;unfold World.cell? at hc;rw[hmap]at hc;simp at hc⟩
    obtain⟨hr3,fr3⟩:=hr2.putN hm2 hg2 fun y v hv=>by
     by_cases e:y=i
     ·subst e
      simp at hv
      subst hv;exact⟨q,d,L,S,rfl,hU2,hL,hi.pre hp1,fun M2 h2=>(q1A S M L M1 hs).2 M2 h2⟩
     ·simp[e]at hv
      exact hr2.tn y v hv
    exact Or.inl ⟨_,w2,rfl,hrun,_,i1,((Fr.ofBelow hb).trans fr2).trans fr3,hp1,Or.inl ⟨L,M1,q,d,hs,rfl,hU2.fr fr3,_,_,_,_,_,hr3⟩⟩
   ·obtain⟨hr2,fr2⟩:=hr1.prog hO fr1 hp1 hM1
    exact Or.inr ⟨rfl,_,i1,(Fr.ofBelow hb).trans fr2,hp1,Or.inr ⟨hs,rfl,M1,hM1,_,_,_,_,_,hr2⟩⟩
 have b0:(w.alloc (rdO p x bn bl)).cell? ⟨w.heap.size,0,none⟩=some (.pointer (some ⟨p,0,none⟩)):=qb hbx 0;have b2:(w.alloc (rdO p x bn bl)).cell? ⟨w.heap.size,2,none⟩=some (.map (some bn)):=qb hbx 2;generalize needM S M=r at *;clear hr hr1 hb hbx hsm hil hlk hi kS hS;obtain⟨Q,hQ⟩:∃Q:Ending->World->Prop,Q=RetQ (RdO T0 p vs x bn bl) w F items M r:=⟨_,rfl⟩
 rw[<-hQ];have HQ:=hiq hQ;clear hQ;unfold rdO rdV at *;go_enter Tryz.func176,Tryz.ntmps176
 go_wp2_with fail
 refine jj.mono ?_
 intro e w1 hq;have hq':=hq;obtain⟨F',i',_,_,⟨L,M',q,d,_,rfl,_⟩|⟨_,rfl,_⟩⟩:=hq'
 ·have HE:Hid (Q (.returned (.slice q L.length d)) w1):=by show Q _ _;rw[HQ.out];exact hq
  clear jj hq;go_wp2;exact HE.out
 ·refine⟨rfl,?_⟩
  rw[HQ.out];exact hq
theorem qa9(b:Bool):(yesM b).length<=1024:=by cases b<;>decide
theorem q7q(x:Nat):∀n,(∀T M L M',aftM n T x M=some (L,M')->L.length<=1024)/\(∀box r s f M L M',pthM n box r s f x M=some (L,M')->L.length<=1024)
 | 0=>⟨fun T M L M' h=>(by rw[qI]at h;cases h),fun box r s f M L M' h=>(by rw[q1i]at h;cases h)⟩
 |n+1=>by
  obtain⟨ih,jh⟩:=q7q x n;refine⟨fun T M L M' h=>?_,fun box r s f M L M' h=>?_⟩
  ·match T,h with
   | .leaf k,h=>
    rw[qF]at h;injection h with h;injection h with h1 _;subst h1;exact qa9 _
   | .un k c,h=>
    rw[qL]at h
    split at h
    ·injection h with h;injection h with h1 _;subst h1;exact qa9 _
    ·split at h
     ·obtain⟨_,_,_,h2⟩:=qe h
      obtain⟨_,_,_,h3⟩:=qe h2;exact q2c h3
     ·obtain⟨_,_,_,h2⟩:=qe h
      obtain⟨_,_,_,h3⟩:=qe h2;exact q2c h3
   | .bin k c d,h=>
    rw[qw]at h
    split at h
    ·obtain⟨_,_,_,h2⟩:=qe h
     obtain⟨_,_,_,h3⟩:=qe h2;exact q2c h3
    ·split at h
     ·obtain⟨_,_,_,h2⟩:=qe h
      obtain⟨_,_,_,h3⟩:=qe h2;obtain⟨_,_,_,h4⟩:=qe h3;obtain⟨_,_,_,h5⟩:=qe h4;exact q2c h5
     ·obtain⟨_,_,_,h2⟩:=qe h
      exact jh _ _ _ _ _ _ _ h2
  ·match r,h with
   | .leaf k,h=>rw[q1h]at h;cases h
   | .un k c,h=>
    rw[qW]at h
    split at h
    ·split at h
     ·exact q1U f h
     ·injection h with h;injection h with h1 _;subst h1;exact qa9 _
    ·split at h
     ·obtain⟨_,_,_,h2⟩:=qe h
      exact q2c h2
     ·obtain⟨_,_,_,h2⟩:=qe h
      exact q2c h2
   | .bin k c d,h=>
    rw[qQ]at h
    split at h
    ·obtain⟨_,_,_,h2⟩:=qe h
     obtain⟨_,_,_,h3⟩:=qe h2;exact q2c h3
    ·obtain⟨_,_,_,h2⟩:=qe h
     exact jh _ _ _ _ _ _ _ h2
def LvQ (T0:Tr) (p:Nat) (vs:Value) (x bn bl:Nat) (f:FuncId) (S:Tr):Prop:=∀(w:World) (F:Nat->Prop) (items:List It) (M:Mt) (i:Nat),RdO T0 p vs x bn bl w F items M->Rep items i S->Calls Tryz.prog f #[rdV p x bn bl,.int .i64 (i:Int)] w (RetQ (RdO T0 p vs x bn bl) w F items M (aftC S x M))
theorem q9i{T0:Tr}{p:Nat}{vs:Value}{x bn bl:Nat}{S:Tr}(kS:KT S)(hlv:LvQ T0 p vs x bn bl 168 S)(hlen:∀M L M',GoodM M->aftC S x M=some (L,M')->LstH L/\M <+: M'):LvQ T0 p vs x bn bl 155 S:=by
 intro w F items M i h hi;obtain⟨F1,kn,kl,fn,fl,hr⟩:=h;have hb:=qc w (rdO p x bn bl);have hr1:=hr.up hb;have hbx:=(mha w (rdO p x bn bl)).1;have hsm:=hr.small;have hil:=hi.lt;have hlk:=hr1.ml.look (i:=i) (by omega)
 have jj:Calls Tryz.prog 167 #[.map (some bl),.int .i64 (i:Int),.func (.func 168) #[rdV p x bn bl] #[]] (w.alloc (rdO p x bn bl)) (RetQ (RdO T0 p vs x bn bl) w F items M (aftC S x M)):=by
  cases hf:fl i with
  |some v=>
   rw[hf]at hlk;obtain⟨a,c,l,S',rfl,hU,hl,hrep,hag⟩:=hr1.tl i v hf;have e:=Rep.tree hrep hi;subst e;refine (q4C bl i _ _ _ _ hlk).mono ?_
   rintro e w' ⟨rfl,rfl⟩
   exact⟨F,items,Fr.ofBelow hb,List.prefix_refl _,Or.inl ⟨l,M,a,c,hag M (List.prefix_refl _),rfl,hU,F1,kn,kl,fn,fl,hr1⟩⟩
  |none=>
   rw[hf]at hlk;refine q47 bl i _ _ _ _ q7K hlk ?_
   refine (hlv _ F items M i ⟨F1,kn,kl,fn,fl,hr1⟩ hi).mono ?_
   rintro e w1 ⟨F',i1,fr1,hp1,⟨L,M1,q,d,hs,rfl,hU,F2,kn2,kl2,fn2,fl2,hr2⟩|⟨hs,rfl,M1,hM1,hO⟩⟩
   ·obtain⟨hL,hpre⟩:=hlen M L M1 hr.pg.good hs
    obtain⟨w2,hrun,hm2,hg2⟩:=hr2.ml.put (by have:=hr2.small;omega) (i:=i) (by omega) (.slice q L.length d)
    obtain⟨hr3,fr3⟩:=hr2.putL hm2 hg2 fun y v hv=>by
     by_cases e:y=i
     ·subst e
      simp at hv
      subst hv;exact⟨q,d,L,S,rfl,hU,hL,hi.pre hp1,fun M2 h2=>(qf6 S x M L M1 hs).2 M2 h2⟩
     ·simp[e]at hv
      exact hr2.tl y v hv
    exact Or.inl ⟨_,w2,rfl,hrun,_,i1,((Fr.ofBelow hb).trans fr1).trans fr3,hp1,Or.inl ⟨L,M1,q,d,hs,rfl,hU.fr fr3,_,_,_,_,_,hr3⟩⟩
   ·exact Or.inr ⟨rfl,F',i1,(Fr.ofBelow hb).trans fr1,hp1,Or.inr ⟨hs,rfl,M1,hM1,hO⟩⟩
 have b0:(w.alloc (rdO p x bn bl)).cell? ⟨w.heap.size,0,none⟩=some (.pointer (some ⟨p,0,none⟩)):=qb hbx 0;have b1:(w.alloc (rdO p x bn bl)).cell? ⟨w.heap.size,1,none⟩=some (.int .u8 (x:Int)):=qb hbx 1;have b2:(w.alloc (rdO p x bn bl)).cell? ⟨w.heap.size,2,none⟩=some (.map (some bn)):=qb hbx 2;have b3:(w.alloc (rdO p x bn bl)).cell? ⟨w.heap.size,3,none⟩=some (.map (some bl)):=qb hbx 3;generalize aftC S x M=r at *;clear hr hr1 hb hbx hsm hil hlk hi kS hlv hlen;obtain⟨Q,hQ⟩:∃Q:Ending->World->Prop,Q=RetQ (RdO T0 p vs x bn bl) w F items M r:=⟨_,rfl⟩
 rw[<-hQ];have HQ:=hiq hQ;clear hQ;unfold rdO rdV at *;go_enter Tryz.func155,Tryz.ntmps155
 go_wp2_with fail
 refine jj.mono ?_
 intro e w1 hq;have hq':=hq;obtain⟨F',i',_,_,⟨L,M',q,d,_,rfl,_⟩|⟨_,rfl,_⟩⟩:=hq'
 ·have HE:Hid (Q (.returned (.slice q L.length d)) w1):=by show Q _ _;rw[HQ.out];exact hq
  clear jj hq;go_wp2;exact HE.out
 ·refine⟨rfl,?_⟩
  rw[HQ.out];exact hq
structure LG (M:Mt) (L:List Nat) (M':Mt):Prop where
 bd:BdL L M'.length
 len:L.length<=1024
 pre:M <+: M'
 good:GoodM M'
theorem LG.lst{M M':Mt}{L:List Nat}(h:LG M L M'):LstH L:=⟨qT h.bd h.good.few,h.len⟩
theorem q3D{S:Tr}{M M':Mt}{L:List Nat}(hM:GoodM M)(kS:KT S)(h:needM S M=some (L,M')):LG M L M':=by
 have ex:=(qV S hM kS h).1;exact⟨ex.bd,q1U S h,ex.pre,ex.good⟩
theorem q1H{S:Tr}{x:Nat}{M M':Mt}{L:List Nat}(hM:GoodM M)(kS:KT S)(h:aftC S x M=some (L,M')):LG M L M':=by
 have ex:=((q2m (hgt S)).1 S x M M' L hM kS h).1;exact⟨ex.bd,(q7q x (hgt S)).1 S M L M' h,ex.pre,ex.good⟩
theorem q3p{box:Bool}{r f:Tr}{s:List Nat}{x:Nat}{M M':Mt}{L:List Nat}(hM:GoodM M)(kr:KP r)(kf:KT f)(hs:BdL s M.length)(h:pthC box r s f x M=some (L,M')):LG M L M':=by
 have ex:=((q2m (hgt r)).2 box r f s x M M' L hM kr kf hs h).1;exact⟨ex.bd,(q7q x (hgt r)).2 box r s f M L M' h,ex.pre,ex.good⟩
theorem q8I{and:Bool}{a b:List Nat}{M M':Mt}{l:List Nat}(hM:GoodM M)(ha:BdL a M.length)(hb:BdL b M.length)(h:twoM and a b M=some (l,M')):LG M l M':=by
 have e:=(qr h).1;have hl:=q2c h;have hbd:=q3Z h ha hb;subst e;exact⟨hbd,hl,List.prefix_refl _,hM⟩
theorem LG.mono{M M' M'':Mt}{L:List Nat}(h:LG M L M')(hp:M' <+: M''):BdL L M''.length:=h.bd.mono hp.length_le
structure MidR (T0:Tr) (p:Nat) (vs:Value) (x bn bl:Nat) (w:World) (F:Nat->Prop) (items:List It) (M:Mt) (B:Nat) (o:Obj) (wj:World) (Fj:Nat->Prop) (ij:List It) (Mj:Mt):Prop where
 obj:RdO T0 p vs x bn bl wj Fj ij Mj
 fr:Fr w wj F Fj
 hi:items <+: ij
 hM:M <+: Mj
 good:GoodM Mj
 rb:wj.heap[B]? =some (rdO p x bn bl)
 rn:¬Fj B
 xb:wj.heap[B+1]? =some o
 xn:¬Fj (B+1)
section
variable {T0:Tr} {p:Nat} {vs:Value} {x bn bl:Nat} {w:World} {F:Nat->Prop} {items:List It} {M:Mt} {B:Nat} {o:Obj} {wj wk:World} {Fj Fk:Nat->Prop} {ij ik:List It} {Mj Mk:Mt}
theorem MidR.step(h:MidR T0 p vs x bn bl w F items M B o wj Fj ij Mj)(fr:Fr wj wk Fj Fk)(hp:ij <+: ik)(hO:RdO T0 p vs x bn bl wk Fk ik Mk)(hm:Mj <+: Mk)(hg:GoodM Mk):MidR T0 p vs x bn bl w F items M B o wk Fk ik Mk :=
 ⟨hO,h.fr.trans fr,h.hi.trans hp,h.hM.trans hm,hg,(qh h.rb h.rn fr).1,(qh h.rb h.rn fr).2,(qh h.xb h.xn fr).1,(qh h.xb h.xn fr).2⟩
theorem MidR.bad(h:MidR T0 p vs x bn bl w F items M B o wj Fj ij Mj){R:Rt}(hR:R=none)(fr:Fr wj wk Fj Fk)(hp:ij <+: ik)(hm:Mj <+: Mk)(hO:RdO T0 p vs x bn bl wk Fk ik Mk):RetQ (RdO T0 p vs x bn bl) w F items M R (.panicked thrownP) wk :=
 ⟨Fk,ik,h.fr.trans fr,h.hi.trans hp,Or.inr ⟨hR,rfl,Mk,h.hM.trans hm,hO⟩⟩
theorem MidR.fin(h:MidR T0 p vs x bn bl w F items M B o wj Fj ij Mj){R:Rt}{L:List Nat}{q:Option Addr}{d:Nat}(hR:R=some (L,Mk))(fr:Fr wj wk Fj Fk)(hp:ij <+: ik)(hU:US wk Fk q L.length d L)(hO:RdO T0 p vs x bn bl wk Fk ik Mk):RetQ (RdO T0 p vs x bn bl) w F items M R (.returned (.slice q L.length d)) wk :=
 ⟨Fk,ik,h.fr.trans fr,h.hi.trans hp,Or.inl ⟨L,Mk,q,d,hR,rfl,hU,hO⟩⟩
def MidS (p x bn bl B:Nat) (xa xb:Int) (w':World):Prop:=(w'.cell? ⟨B,0,none⟩=some (.pointer (some ⟨p,0,none⟩))/\w'.cell? ⟨B,1,none⟩=some (.int .u8 (x:Int))/\w'.cell? ⟨B,2,none⟩=some (.map (some bn))/\w'.cell? ⟨B,3,none⟩=some (.map (some bl)))/\w'.cell? ⟨B+1,2,none⟩=some (.int .i64 xa)/\w'.cell? ⟨B+1,3,none⟩=some (.int .i64 xb)
theorem MidR.cells{op pp:Nat}{xa xb:Int}(h:MidR T0 p vs x bn bl w F items M B (itO ⟨op,pp,xa,xb⟩) wj Fj ij Mj):MidS p x bn bl B xa xb wj:=⟨⟨qb h.rb 0,qb h.rb 1,qb h.rb 2,qb h.rb 3⟩,qb h.xb 2,qb h.xb 3⟩
end
def boxW (w:World) (p x bn bl op pp:Nat) (xa xb:Int):World:=((w.alloc (rdO p x bn bl)).alloc (itO ⟨op,pp,xa,xb⟩))
theorem qJ{T0:Tr}{p:Nat}{vs:Value}{x bn bl:Nat}{w:World}{F:Nat->Prop}{items:List It}{M:Mt}(h:RdO T0 p vs x bn bl w F items M)(op pp:Nat)(xa xb:Int):
  MidR T0 p vs x bn bl w F items M w.heap.size (itO ⟨op,pp,xa,xb⟩) (boxW w p x bn bl op pp xa xb).drew F items M/\MidR T0 p vs x bn bl w F items M w.heap.size (itO ⟨op,pp,xa,xb⟩) (boxW w p x bn bl op pp xa xb) F items M:=by
 have hb1:=qc w (rdO p x bn bl);have hb2:=qc (w.alloc (rdO p x bn bl)) (itO ⟨op,pp,xa,xb⟩);have hb:Below w.heap.size w (boxW w p x bn bl op pp xa xb):=qd hb1 hb2;have hz:(w.alloc (rdO p x bn bl)).heap.size=w.heap.size+1:=by simp
 have hg:GoodM M:=by obtain⟨_,_,_,_,_,hr⟩:=h;exact hr.pg.good
 have hlt:=(qp T0 p vs x bn bl).lt h;have r1:(boxW w p x bn bl op pp xa xb).heap[w.heap.size]? =some (rdO p x bn bl):=(hb2.block _ (by omega)).trans (mha w _).1
 have r2:(boxW w p x bn bl op pp xa xb).heap[w.heap.size+1]? =some (itO ⟨op,pp,xa,xb⟩):=by
  have:=(mha (w.alloc (rdO p x bn bl)) (itO ⟨op,pp,xa,xb⟩)).1
  rw[hz]at this;exact this
 have n1:¬F w.heap.size:=fun e=>by have:=hlt _ e;omega
 have n2:¬F (w.heap.size+1):=fun e=>by have:=hlt _ e;omega
 exact⟨⟨(qp T0 p vs x bn bl).up h hb.drew,Fr.ofBelow hb.drew,List.prefix_refl _,List.prefix_refl _,hg,r1,n1,r2,n2⟩,⟨(qp T0 p vs x bn bl).up h hb,Fr.ofBelow hb,List.prefix_refl _,List.prefix_refl _,hg,r1,n1,r2,n2⟩⟩
def KeptQ (T0:Tr) (p:Nat) (vs:Value) (x bn bl:Nat) (w:World) (F:Nat->Prop) (items:List It) (M:Mt) (S:Tr) (e:Ending) (w':World):Prop :=
 ∃(j:Nat) (items':List It) (F':Nat->Prop),e=.returned (.int .i64 (j:Int))/\items <+: items'/\Rep items' j S/\Fr w w' F F'/\RdO T0 p vs x bn bl w' F' items' M
theorem q3b{T0:Tr}{p:Nat}{vs:Value}{x bn bl:Nat}{w:World}{F:Nat->Prop}{items:List It}{M:Mt}{S:Tr}{f:FuncId}{args:Array Value}(h:RdO T0 p vs x bn bl w F items M)
  (hc:∀G rest,PtO T0 w G p 128 rest items->Calls Tryz.prog f args w (KeepR T0 w G p 128 rest items (IsN S))):Calls Tryz.prog f args w (KeptQ T0 p vs x bn bl w F items M S):=by
 obtain⟨F1,kn,kl,fn,fl,hr⟩:=h;obtain⟨G,mn,vm,met,hg,hF⟩:=hr.pg.ex;refine (hc G _ hg.po).mono ?_
 rintro e w' ⟨j,rfl,i',G',hp,⟨m,rfl,hrep⟩,hpo,fr⟩
 obtain⟨hg2,fr2⟩:=hg.part hpo hp fr;have hpg:PgO T0 w' (FQ G' mn vm) p vs i' M:=⟨hr.pg.few,hr.pg.nd,hr.pg.of,G',mn,vm,met,hg2,fun k=>Iff.rfl⟩
 obtain⟨hr2,fr3⟩:=hr.prog hpg (fr2.alike (fun k hk=>(hF k).2 hk) (fun k hk=>hk)) hp (List.prefix_refl _)
 exact⟨m,i',_,rfl,hp,hrep,fr3,_,_,_,_,_,hr2⟩
theorem qc7{T0:Tr}{p:Nat}{vs:Value}{x bn bl:Nat}(op:Nat)(ho:op=11\/op=12)(c d:Tr)(kS:KT (.bin (op,0) c d))(hc:LvQ T0 p vs x bn bl 155 c)(hd:LvQ T0 p vs x bn bl 155 d):LvQ T0 p vs x bn bl 168 (.bin (op,0) c d):=by
 intro w F items M i h hi;obtain⟨pp,m,l,hx,hm,hl⟩:∃pp m l:Nat,items[i]? =some ⟨op,pp,(m:Int),(l:Int)⟩/\Rep items m c/\Rep items l d:=by cases hi with|bin h h1 h2 h3 h4=>exact⟨0,_,_,h,h3,h4⟩
 obtain⟨F1,_,_,_,_,hrd⟩:=id h;obtain⟨G,rest,hpo⟩:=hrd.pg.part;obtain⟨a,n,cap,g,o,c0,hidx,x0,x1,x2,x3⟩:=(hpo.up (qc w (rdO p x bn bl))).at hx;obtain⟨m0,m00⟩:=qJ h op pp (m:Int) ((l:Int));have hk0:=m0.cells;have hk00:=m00.cells;have HCL:Hid (∀w':World,w'.heap[w.heap.size]? =some (rdO p x bn bl)->w'.heap[w.heap.size+1]? =some (itO ⟨op,pp,(m:Int),(l:Int)⟩)->MidS p x bn bl w.heap.size (m:Int) ((l:Int)) w'):=fun w' e1 e2=>⟨⟨qb e1 0,qb e1 1,qb e1 2,qb e1 3⟩,qb e2 2,qb e2 3⟩
 have hbx:=(mha w (rdO p x bn bl)).1;have r0:(w.alloc (rdO p x bn bl)).cell? ⟨w.heap.size,0,none⟩=some (.pointer (some ⟨p,0,none⟩)):=qb hbx 0;obtain⟨kc,kd⟩:=qD kS (by omega)
 have j1:=hc _ F items M m m0.obj hm;obtain⟨R,hR⟩:∃R,R=aftC (.bin (op,0) c d) x M:=⟨_,rfl⟩
 have HR0:Hid (R=bindM (aftC c x M) fun a M1=>bindM (aftC d x M1) fun b M2=>twoM (op==11) a b M2):=by show _=_;rw[hR];exact q7a kS ho x M
 rw[<-hR];obtain⟨Q,hQ⟩:∃Q:Ending->World->Prop,Q=RetQ (RdO T0 p vs x bn bl) w F items M R:=⟨_,rfl⟩
 have HQ:Hid (∀e w',RetQ (RdO T0 p vs x bn bl) w F items M R e w'->Q e w'):=fun e w' h=>by rw[hQ];exact h
 rw[<-hQ];clear hrd hpo hR hQ hbx h hx;have n0:=nqf op 0 (by omega)
 have n4:=nqf op 4 (by omega)
 have n1:=nqf op 1 (by omega)
 have n5:=nqf op 5 (by omega)
 have n2:=nqf op 2 (by omega)
 have n6:=nqf op 6 (by omega)
 have n7:=nqf op 7 (by omega)
 have n8:=nqf op 8 (by omega)
 have n15:=nqf op 15 (by omega)
 have n16:=nqf op 16 (by omega)
 have n17:=nqf op 17 (by omega)

 rcases ho with ho|ho
 ·have n11:((op:Int)==11)=true:=by rw[beq_iff_eq];omega
  have ob11:(op==11)=true:=by simp[ho]
  rw[ob11]at HR0;clear ho ob11;unfold boxW itO rdO MidS at *;unfold rdV at *;dsimp only at *
  go_enter Tryz.func168,Tryz.ntmps168
  go_wp2_with fail
  go_region_held2 (fun w'=>(w'.cell? ⟨w.heap.size,0,none⟩=some (.pointer (some ⟨p,0,none⟩))/\w'.cell? ⟨w.heap.size,1,none⟩=some (.int .u8 (x:Int))/\w'.cell? ⟨w.heap.size,2,none⟩=some (.map (some bn))/\w'.cell? ⟨w.heap.size,3,none⟩=some (.map (some bl)))/\w'.cell? ⟨w.heap.size+1,2,none⟩=some (.int .i64 (m:Int))/\w'.cell? ⟨w.heap.size+1,3,none⟩=some (.int .i64 (l:Int))) (first|exact hk0|exact hk00|assumption|fail) (first
   | (revert j1;intro j1;go_at_call 155;(with_reducible refine j1.mono ?_);rintro e w1 ⟨F1,i1,fr1,hp1,⟨L1,M1,q1,d1,hs1,rfl,hU1,hO1⟩|⟨hs1,rfl,M1,hpm1,hO1⟩⟩;(case inr=>exact⟨rfl,HQ.out _ _ (m0.bad (by rw[HR0.out,hs1];first|done|rfl) fr1 hp1 hpm1 hO1)⟩);have hr1:=HR0.out;rw[hs1]at hr1;dsimp only[bindM]at hr1;have HR1:Hid _:=hr1;clear hr1;have l1:=q1H m0.good kc hs1;have m1:=m0.step fr1 hp1 hO1 l1.pre l1.good;have hk1:=HCL.out _ m1.rb m1.xb;have j2:=hd _ F1 i1 M1 l m1.obj (hl.pre m1.hi);unfold rdV at j2)
   | (revert j2;intro j2;go_at_call 155;(with_reducible refine j2.mono ?_);rintro e w2 ⟨F2,i2,fr2,hp2,⟨L2,M2,q2,d2,hs2,rfl,hU2,hO2⟩|⟨hs2,rfl,M2,hpm2,hO2⟩⟩;(case inr=>exact⟨rfl,HQ.out _ _ (m1.bad (by rw[HR1.out,hs2];first|done|rfl) fr2 hp2 hpm2 hO2)⟩);have hr2:=HR1.out;rw[hs2]at hr2;dsimp only[bindM]at hr2;have HR2:Hid _:=hr2;clear hr2;have l2:=q1H m1.good kd hs2;have m2:=m1.step fr2 hp2 hO2 l2.pre l2.good;have hk2:=HCL.out _ m2.rb m2.xb;have j3:=qH (qp T0 p vs x bn bl) true m2.obj (hU1.fr fr2) (hU2) l1.lst l2.lst;unfold twF at j3;simp only[if_true]at j3)
   | (revert j3;intro j3;go_at_call 125;(with_reducible refine j3.mono ?_);rintro e w3 ⟨F3,i3,fr3,hp3,⟨L3,M3,q3,d3,hs3,rfl,hU3,hO3⟩|⟨hs3,rfl,M3,hpm3,hO3⟩⟩;(case inr=>exact⟨rfl,HQ.out _ _ (m2.bad (by rw[HR2.out,hs3];first|done|rfl) fr3 hp3 hpm3 hO3)⟩);have hk3:Hid (Q (.returned (.slice q3 L3.length d3)) w3):=(HQ.out _ _ (m2.fin (by rw[HR2.out,hs3];first|done|rfl) fr3 hp3 hU3 hO3));have hkk3:=HCL.out _ (qh m2.rb m2.rn fr3).1 (qh m2.xb m2.xn fr3).1)
   |fail)
  all_goals
   clear j1 j2 j3;go_wp2;exact hk3.out
 ·have n11:=nqf op 11 (by omega)
  have n12:((op:Int)==12)=true:=by rw[beq_iff_eq];omega
  have ob11:(op==11)=false:=by simp[ho]
  rw[ob11]at HR0;clear ho ob11;unfold boxW itO rdO MidS at *;unfold rdV at *;dsimp only at *
  go_enter Tryz.func168,Tryz.ntmps168
  go_wp2_with fail
  go_region_held2 (fun w'=>(w'.cell? ⟨w.heap.size,0,none⟩=some (.pointer (some ⟨p,0,none⟩))/\w'.cell? ⟨w.heap.size,1,none⟩=some (.int .u8 (x:Int))/\w'.cell? ⟨w.heap.size,2,none⟩=some (.map (some bn))/\w'.cell? ⟨w.heap.size,3,none⟩=some (.map (some bl)))/\w'.cell? ⟨w.heap.size+1,2,none⟩=some (.int .i64 (m:Int))/\w'.cell? ⟨w.heap.size+1,3,none⟩=some (.int .i64 (l:Int))) (first|exact hk0|exact hk00|assumption|fail) (first
   | (revert j1;intro j1;go_at_call 155;(with_reducible refine j1.mono ?_);rintro e w1 ⟨F1,i1,fr1,hp1,⟨L1,M1,q1,d1,hs1,rfl,hU1,hO1⟩|⟨hs1,rfl,M1,hpm1,hO1⟩⟩;(case inr=>exact⟨rfl,HQ.out _ _ (m0.bad (by rw[HR0.out,hs1];first|done|rfl) fr1 hp1 hpm1 hO1)⟩);have hr1:=HR0.out;rw[hs1]at hr1;dsimp only[bindM]at hr1;have HR1:Hid _:=hr1;clear hr1;have l1:=q1H m0.good kc hs1;have m1:=m0.step fr1 hp1 hO1 l1.pre l1.good;have hk1:=HCL.out _ m1.rb m1.xb;have j2:=hd _ F1 i1 M1 l m1.obj (hl.pre m1.hi);unfold rdV at j2)
   | (revert j2;intro j2;go_at_call 155;(with_reducible refine j2.mono ?_);rintro e w2 ⟨F2,i2,fr2,hp2,⟨L2,M2,q2,d2,hs2,rfl,hU2,hO2⟩|⟨hs2,rfl,M2,hpm2,hO2⟩⟩;(case inr=>exact⟨rfl,HQ.out _ _ (m1.bad (by rw[HR1.out,hs2];first|done|rfl) fr2 hp2 hpm2 hO2)⟩);have hr2:=HR1.out;rw[hs2]at hr2;dsimp only[bindM]at hr2;have HR2:Hid _:=hr2;clear hr2;have l2:=q1H m1.good kd hs2;have m2:=m1.step fr2 hp2 hO2 l2.pre l2.good;have hk2:=HCL.out _ m2.rb m2.xb;have j3:=qH (qp T0 p vs x bn bl) false m2.obj (hU1.fr fr2) (hU2) l1.lst l2.lst;unfold twF at j3;simp only[Bool.false_eq_true,if_false]at j3)
   | (revert j3;intro j3;go_at_call 126;(with_reducible refine j3.mono ?_);rintro e w3 ⟨F3,i3,fr3,hp3,⟨L3,M3,q3,d3,hs3,rfl,hU3,hO3⟩|⟨hs3,rfl,M3,hpm3,hO3⟩⟩;(case inr=>exact⟨rfl,HQ.out _ _ (m2.bad (by rw[HR2.out,hs3];first|done|rfl) fr3 hp3 hpm3 hO3)⟩);have hk3:Hid (Q (.returned (.slice q3 L3.length d3)) w3):=(HQ.out _ _ (m2.fin (by rw[HR2.out,hs3];first|done|rfl) fr3 hp3 hU3 hO3));have hkk3:=HCL.out _ (qh m2.rb m2.rn fr3).1 (qh m2.xb m2.xn fr3).1)
   |fail)
  all_goals
   clear j1 j2 j3;go_wp2;exact hk3.out
theorem q9l{T0:Tr}{p:Nat}{vs:Value}{x bn bl:Nat}(op:Nat)(ho:op=15\/op=16)(c d:Tr)(kS:KT (.bin (op,0) c d))(hS:InC T0 (.bin (op,0) c d))(hc:LvQ T0 p vs x bn bl 155 c)(hd:LvQ T0 p vs x bn bl 155 d):LvQ T0 p vs x bn bl 168 (.bin (op,0) c d):=by
 intro w F items M i h hi;obtain⟨pp,m,l,hx,hm,hl⟩:∃pp m l:Nat,items[i]? =some ⟨op,pp,(m:Int),(l:Int)⟩/\Rep items m c/\Rep items l d:=by cases hi with|bin h h1 h2 h3 h4=>exact⟨0,_,_,h,h3,h4⟩
 obtain⟨F1,_,_,_,_,hrd⟩:=id h;obtain⟨G,rest,hpo⟩:=hrd.pg.part;obtain⟨a,n,cap,g,o,c0,hidx,x0,x1,x2,x3⟩:=(hpo.up (qc w (rdO p x bn bl))).at hx;obtain⟨m0,m00⟩:=qJ h op pp (m:Int) ((l:Int));have hk0:=m0.cells;have hk00:=m00.cells;have HCL:Hid (∀w':World,w'.heap[w.heap.size]? =some (rdO p x bn bl)->w'.heap[w.heap.size+1]? =some (itO ⟨op,pp,(m:Int),(l:Int)⟩)->MidS p x bn bl w.heap.size (m:Int) ((l:Int)) w'):=fun w' e1 e2=>⟨⟨qb e1 0,qb e1 1,qb e1 2,qb e1 3⟩,qb e2 2,qb e2 3⟩
 have hbx:=(mha w (rdO p x bn bl)).1;have r0:(w.alloc (rdO p x bn bl)).cell? ⟨w.heap.size,0,none⟩=some (.pointer (some ⟨p,0,none⟩)):=qb hbx 0;obtain⟨kc,kd⟩:=qD kS (by omega)
 have HI:=hiq hi;have HKS:Hid (KT (.bin (op,0) c d)/\InC T0 (.bin (op,0) c d)):=⟨kS,hS⟩;have j1:=hd _ F items M l m0.obj hl;obtain⟨R,hR⟩:∃R,R=aftC (.bin (op,0) c d) x M:=⟨_,rfl⟩
 have HR0:Hid (R=bindM (aftC d x M) fun b M1=>bindM (aftC c x M1) fun a M2=>bindM (needM (.bin (op,0) c d) M2) fun u M3=>bindM (twoM (op==15) a u M3) fun v M4=>twoM (op==16) b v M4):=by show _=_;rw[hR];exact qet kS ho x M
 rw[<-hR];obtain⟨Q,hQ⟩:∃Q:Ending->World->Prop,Q=RetQ (RdO T0 p vs x bn bl) w F items M R:=⟨_,rfl⟩
 have HQ:Hid (∀e w',RetQ (RdO T0 p vs x bn bl) w F items M R e w'->Q e w'):=fun e w' h=>by rw[hQ];exact h
 rw[<-hQ];clear hrd hpo hR hQ hbx h hx;have n0:=nqf op 0 (by omega)
 have n4:=nqf op 4 (by omega)
 have n1:=nqf op 1 (by omega)
 have n5:=nqf op 5 (by omega)
 have n2:=nqf op 2 (by omega)
 have n6:=nqf op 6 (by omega)
 have n11:=nqf op 11 (by omega)
 have n12:=nqf op 12 (by omega)
 have n7:=nqf op 7 (by omega)
 have n8:=nqf op 8 (by omega)
 have n17:=nqf op 17 (by omega)

 rcases ho with ho|ho
 ·have n15:((op:Int)==15)=true:=by rw[beq_iff_eq];omega
  have ob15:(op==15)=true:=by simp[ho]
  have ob16:(op==16)=false:=by simp[ho]
  rw[ob15,ob16]at HR0;clear ho ob15 ob16;unfold boxW itO rdO MidS at *;unfold rdV at *;dsimp only at *
  go_enter Tryz.func168,Tryz.ntmps168
  go_wp2_with fail
  go_region_held2 (fun w'=>(w'.cell? ⟨w.heap.size,0,none⟩=some (.pointer (some ⟨p,0,none⟩))/\w'.cell? ⟨w.heap.size,1,none⟩=some (.int .u8 (x:Int))/\w'.cell? ⟨w.heap.size,2,none⟩=some (.map (some bn))/\w'.cell? ⟨w.heap.size,3,none⟩=some (.map (some bl)))/\w'.cell? ⟨w.heap.size+1,2,none⟩=some (.int .i64 (m:Int))/\w'.cell? ⟨w.heap.size+1,3,none⟩=some (.int .i64 (l:Int))) (first|exact hk0|exact hk00|assumption|fail) (first
   | (revert j1;intro j1;go_at_call 155;(with_reducible refine j1.mono ?_);rintro e w1 ⟨F1,i1,fr1,hp1,⟨L1,M1,q1,d1,hs1,rfl,hU1,hO1⟩|⟨hs1,rfl,M1,hpm1,hO1⟩⟩;(case inr=>exact⟨rfl,HQ.out _ _ (m0.bad (by rw[HR0.out,hs1];first|done|rfl) fr1 hp1 hpm1 hO1)⟩);have hr1:=HR0.out;rw[hs1]at hr1;dsimp only[bindM]at hr1;have HR1:Hid _:=hr1;clear hr1;have l1:=q1H m0.good kd hs1;have m1:=m0.step fr1 hp1 hO1 l1.pre l1.good;have hk1:=HCL.out _ m1.rb m1.xb;have j2:=hc _ F1 i1 M1 m m1.obj (hm.pre m1.hi);unfold rdV at j2)
   | (revert j2;intro j2;go_at_call 155;(with_reducible refine j2.mono ?_);rintro e w2 ⟨F2,i2,fr2,hp2,⟨L2,M2,q2,d2,hs2,rfl,hU2,hO2⟩|⟨hs2,rfl,M2,hpm2,hO2⟩⟩;(case inr=>exact⟨rfl,HQ.out _ _ (m1.bad (by rw[HR1.out,hs2];first|done|rfl) fr2 hp2 hpm2 hO2)⟩);have hr2:=HR1.out;rw[hs2]at hr2;dsimp only[bindM]at hr2;have HR2:Hid _:=hr2;clear hr2;have l2:=q1H m1.good kc hs2;have m2:=m1.step fr2 hp2 hO2 l2.pre l2.good;have hk2:=HCL.out _ m2.rb m2.xb;have j3:=qU m2.obj i _ (HI.out.pre m2.hi) HKS.out.1 HKS.out.2;unfold rdV at j3)
   | (revert j3;intro j3;go_at_call 176;(with_reducible refine j3.mono ?_);rintro e w3 ⟨F3,i3,fr3,hp3,⟨L3,M3,q3,d3,hs3,rfl,hU3,hO3⟩|⟨hs3,rfl,M3,hpm3,hO3⟩⟩;(case inr=>exact⟨rfl,HQ.out _ _ (m2.bad (by rw[HR2.out,hs3];first|done|rfl) fr3 hp3 hpm3 hO3)⟩);have hr3:=HR2.out;rw[hs3]at hr3;dsimp only[bindM]at hr3;have HR3:Hid _:=hr3;clear hr3;have l3:=q3D m2.good HKS.out.1 hs3;have m3:=m2.step fr3 hp3 hO3 l3.pre l3.good;have hk3:=HCL.out _ m3.rb m3.xb;have j4:=qH (qp T0 p vs x bn bl) true m3.obj (hU2.fr fr3) (hU3) l2.lst l3.lst;unfold twF at j4;simp only[if_true]at j4)
   | (revert j4;intro j4;go_at_call 125;(with_reducible refine j4.mono ?_);rintro e w4 ⟨F4,i4,fr4,hp4,⟨L4,M4,q4,d4,hs4,rfl,hU4,hO4⟩|⟨hs4,rfl,M4,hpm4,hO4⟩⟩;(case inr=>exact⟨rfl,HQ.out _ _ (m3.bad (by rw[HR3.out,hs4];first|done|rfl) fr4 hp4 hpm4 hO4)⟩);have hr4:=HR3.out;rw[hs4]at hr4;dsimp only[bindM]at hr4;have HR4:Hid _:=hr4;clear hr4;have l4:=q8I m3.good (l2.mono l3.pre) (l3.bd) hs4;have m4:=m3.step fr4 hp4 hO4 l4.pre l4.good;have hk4:=HCL.out _ m4.rb m4.xb;have j5:=qH (qp T0 p vs x bn bl) false m4.obj (((hU1.fr fr2).fr fr3).fr fr4) (hU4) l1.lst l4.lst;unfold twF at j5;simp only[Bool.false_eq_true,if_false]at j5)
   | (revert j5;intro j5;go_at_call 126;(with_reducible refine j5.mono ?_);rintro e w5 ⟨F5,i5,fr5,hp5,⟨L5,M5,q5,d5,hs5,rfl,hU5,hO5⟩|⟨hs5,rfl,M5,hpm5,hO5⟩⟩;(case inr=>exact⟨rfl,HQ.out _ _ (m4.bad (by rw[HR4.out,hs5];first|done|rfl) fr5 hp5 hpm5 hO5)⟩);have hk5:Hid (Q (.returned (.slice q5 L5.length d5)) w5):=(HQ.out _ _ (m4.fin (by rw[HR4.out,hs5];first|done|rfl) fr5 hp5 hU5 hO5));have hkk5:=HCL.out _ (qh m4.rb m4.rn fr5).1 (qh m4.xb m4.xn fr5).1)
   |fail)
  all_goals
   clear j1 j2 j3 j4 j5;go_wp2;exact hk5.out
 ·have n15:=nqf op 15 (by omega)
  have n16:((op:Int)==16)=true:=by rw[beq_iff_eq];omega
  have ob15:(op==15)=false:=by simp[ho]
  have ob16:(op==16)=true:=by simp[ho]
  rw[ob15,ob16]at HR0;clear ho ob15 ob16;unfold boxW itO rdO MidS at *;unfold rdV at *;dsimp only at *
  go_enter Tryz.func168,Tryz.ntmps168
  go_wp2_with fail
  go_region_held2 (fun w'=>(w'.cell? ⟨w.heap.size,0,none⟩=some (.pointer (some ⟨p,0,none⟩))/\w'.cell? ⟨w.heap.size,1,none⟩=some (.int .u8 (x:Int))/\w'.cell? ⟨w.heap.size,2,none⟩=some (.map (some bn))/\w'.cell? ⟨w.heap.size,3,none⟩=some (.map (some bl)))/\w'.cell? ⟨w.heap.size+1,2,none⟩=some (.int .i64 (m:Int))/\w'.cell? ⟨w.heap.size+1,3,none⟩=some (.int .i64 (l:Int))) (first|exact hk0|exact hk00|assumption|fail) (first
   | (revert j1;intro j1;go_at_call 155;(with_reducible refine j1.mono ?_);rintro e w1 ⟨F1,i1,fr1,hp1,⟨L1,M1,q1,d1,hs1,rfl,hU1,hO1⟩|⟨hs1,rfl,M1,hpm1,hO1⟩⟩;(case inr=>exact⟨rfl,HQ.out _ _ (m0.bad (by rw[HR0.out,hs1];first|done|rfl) fr1 hp1 hpm1 hO1)⟩);have hr1:=HR0.out;rw[hs1]at hr1;dsimp only[bindM]at hr1;have HR1:Hid _:=hr1;clear hr1;have l1:=q1H m0.good kd hs1;have m1:=m0.step fr1 hp1 hO1 l1.pre l1.good;have hk1:=HCL.out _ m1.rb m1.xb;have j2:=hc _ F1 i1 M1 m m1.obj (hm.pre m1.hi);unfold rdV at j2)
   | (revert j2;intro j2;go_at_call 155;(with_reducible refine j2.mono ?_);rintro e w2 ⟨F2,i2,fr2,hp2,⟨L2,M2,q2,d2,hs2,rfl,hU2,hO2⟩|⟨hs2,rfl,M2,hpm2,hO2⟩⟩;(case inr=>exact⟨rfl,HQ.out _ _ (m1.bad (by rw[HR1.out,hs2];first|done|rfl) fr2 hp2 hpm2 hO2)⟩);have hr2:=HR1.out;rw[hs2]at hr2;dsimp only[bindM]at hr2;have HR2:Hid _:=hr2;clear hr2;have l2:=q1H m1.good kc hs2;have m2:=m1.step fr2 hp2 hO2 l2.pre l2.good;have hk2:=HCL.out _ m2.rb m2.xb;have j3:=qU m2.obj i _ (HI.out.pre m2.hi) HKS.out.1 HKS.out.2;unfold rdV at j3)
   | (revert j3;intro j3;go_at_call 176;(with_reducible refine j3.mono ?_);rintro e w3 ⟨F3,i3,fr3,hp3,⟨L3,M3,q3,d3,hs3,rfl,hU3,hO3⟩|⟨hs3,rfl,M3,hpm3,hO3⟩⟩;(case inr=>exact⟨rfl,HQ.out _ _ (m2.bad (by rw[HR2.out,hs3];first|done|rfl) fr3 hp3 hpm3 hO3)⟩);have hr3:=HR2.out;rw[hs3]at hr3;dsimp only[bindM]at hr3;have HR3:Hid _:=hr3;clear hr3;have l3:=q3D m2.good HKS.out.1 hs3;have m3:=m2.step fr3 hp3 hO3 l3.pre l3.good;have hk3:=HCL.out _ m3.rb m3.xb;have j4:=qH (qp T0 p vs x bn bl) false m3.obj (hU2.fr fr3) (hU3) l2.lst l3.lst;unfold twF at j4;simp only[Bool.false_eq_true,if_false]at j4)
   | (revert j4;intro j4;go_at_call 126;(with_reducible refine j4.mono ?_);rintro e w4 ⟨F4,i4,fr4,hp4,⟨L4,M4,q4,d4,hs4,rfl,hU4,hO4⟩|⟨hs4,rfl,M4,hpm4,hO4⟩⟩;(case inr=>exact⟨rfl,HQ.out _ _ (m3.bad (by rw[HR3.out,hs4];first|done|rfl) fr4 hp4 hpm4 hO4)⟩);have hr4:=HR3.out;rw[hs4]at hr4;dsimp only[bindM]at hr4;have HR4:Hid _:=hr4;clear hr4;have l4:=q8I m3.good (l2.mono l3.pre) (l3.bd) hs4;have m4:=m3.step fr4 hp4 hO4 l4.pre l4.good;have hk4:=HCL.out _ m4.rb m4.xb;have j5:=qH (qp T0 p vs x bn bl) true m4.obj (((hU1.fr fr2).fr fr3).fr fr4) (hU4) l1.lst l4.lst;unfold twF at j5;simp only[if_true]at j5)
   | (revert j5;intro j5;go_at_call 125;(with_reducible refine j5.mono ?_);rintro e w5 ⟨F5,i5,fr5,hp5,⟨L5,M5,q5,d5,hs5,rfl,hU5,hO5⟩|⟨hs5,rfl,M5,hpm5,hO5⟩⟩;(case inr=>exact⟨rfl,HQ.out _ _ (m4.bad (by rw[HR4.out,hs5];first|done|rfl) fr5 hp5 hpm5 hO5)⟩);have hk5:Hid (Q (.returned (.slice q5 L5.length d5)) w5):=(HQ.out _ _ (m4.fin (by rw[HR4.out,hs5];first|done|rfl) fr5 hp5 hU5 hO5));have hkk5:=HCL.out _ (qh m4.rb m4.rn fr5).1 (qh m4.xb m4.xn fr5).1)
   |fail)
  all_goals
   clear j1 j2 j3 j4 j5;go_wp2;exact hk5.out
def wyF (box:Bool):FuncId:=if box then 179 else 178
def WyQ (T0:Tr) (p:Nat) (vs:Value) (x bn bl:Nat) (box:Bool) (r f:Tr):Prop:=∀(w:World) (F:Nat->Prop) (items:List It) (M:Mt) (i k:Nat) (a:Option Addr) (c:Nat) (s:List Nat),RdO T0 p vs x bn bl w F items M->US w F a s.length c s->s.length<=1024->BdL s M.length->Rep items i r->Rep items k f ->
 Calls Tryz.prog (wyF box) #[rdV p x bn bl,.int .i64 (i:Int),.slice a s.length c,.int .i64 (k:Int)] w (RetQ (RdO T0 p vs x bn bl) w F items M (pthC box r s f x M))
theorem qc8{T0:Tr}{p:Nat}{vs:Value}{x bn bl:Nat}(op:Nat)(ho:op=17\/op=18)(c d:Tr)(kS:KT (.bin (op,0) c d))(hd:LvQ T0 p vs x bn bl 155 d)(hw:∀box,box=(op==18)->WyQ T0 p vs x bn bl box c d):LvQ T0 p vs x bn bl 168 (.bin (op,0) c d):=by
 intro w F items M i h hi;obtain⟨pp,m,l,hx,hm,hl⟩:∃pp m l:Nat,items[i]? =some ⟨op,pp,(m:Int),(l:Int)⟩/\Rep items m c/\Rep items l d:=by cases hi with|bin h h1 h2 h3 h4=>exact⟨0,_,_,h,h3,h4⟩
 obtain⟨F1,_,_,_,_,hrd⟩:=id h;obtain⟨G,rest,hpo⟩:=hrd.pg.part;obtain⟨a,n,cap,g,o,c0,hidx,x0,x1,x2,x3⟩:=(hpo.up (qc w (rdO p x bn bl))).at hx;obtain⟨m0,m00⟩:=qJ h op pp (m:Int) ((l:Int));have hk0:=m0.cells;have hk00:=m00.cells;have HCL:Hid (∀w':World,w'.heap[w.heap.size]? =some (rdO p x bn bl)->w'.heap[w.heap.size+1]? =some (itO ⟨op,pp,(m:Int),(l:Int)⟩)->MidS p x bn bl w.heap.size (m:Int) ((l:Int)) w'):=fun w' e1 e2=>⟨⟨qb e1 0,qb e1 1,qb e1 2,qb e1 3⟩,qb e2 2,qb e2 3⟩
 have hbx:=(mha w (rdO p x bn bl)).1;have r0:(w.alloc (rdO p x bn bl)).cell? ⟨w.heap.size,0,none⟩=some (.pointer (some ⟨p,0,none⟩)):=qb hbx 0;obtain⟨kc,kd⟩:=q1z kS (by omega)
 have HW:Hid ((op=17->WyQ T0 p vs x bn bl false c d)/\(op=18->WyQ T0 p vs x bn bl true c d)):=⟨fun h=>hw false (by rw[h];rfl),fun h=>hw true (by rw[h];rfl)⟩
 have j1:=hd _ F items M l m0.obj hl;obtain⟨R,hR⟩:∃R,R=aftC (.bin (op,0) c d) x M:=⟨_,rfl⟩
 have HR0:Hid (R=bindM (aftC d x M) fun s M1=>pthC (op==18) c s d x M1):=by show _=_;rw[hR];exact qgf kS ho x M
 rw[<-hR];obtain⟨Q,hQ⟩:∃Q:Ending->World->Prop,Q=RetQ (RdO T0 p vs x bn bl) w F items M R:=⟨_,rfl⟩
 have HQ:Hid (∀e w',RetQ (RdO T0 p vs x bn bl) w F items M R e w'->Q e w'):=fun e w' h=>by rw[hQ];exact h
 rw[<-hQ];clear hrd hpo hR hQ hbx h hx;have n0:=nqf op 0 (by omega)
 have n4:=nqf op 4 (by omega)
 have n1:=nqf op 1 (by omega)
 have n5:=nqf op 5 (by omega)
 have n2:=nqf op 2 (by omega)
 have n6:=nqf op 6 (by omega)
 have n11:=nqf op 11 (by omega)
 have n12:=nqf op 12 (by omega)
 have n7:=nqf op 7 (by omega)
 have n8:=nqf op 8 (by omega)
 have n15:=nqf op 15 (by omega)
 have n16:=nqf op 16 (by omega)

 rcases ho with ho|ho
 ·have n17:((op:Int)==17)=true:=by rw[beq_iff_eq];omega
  have ob18:(op==18)=false:=by simp[ho]
  rw[ob18]at HR0;have HW1:Hid _:=HW.out.1 ho;clear ho ob18;unfold boxW itO rdO MidS at *;unfold rdV at *;dsimp only at *
  go_enter Tryz.func168,Tryz.ntmps168
  go_wp2_with fail
  go_region_held2 (fun w'=>(w'.cell? ⟨w.heap.size,0,none⟩=some (.pointer (some ⟨p,0,none⟩))/\w'.cell? ⟨w.heap.size,1,none⟩=some (.int .u8 (x:Int))/\w'.cell? ⟨w.heap.size,2,none⟩=some (.map (some bn))/\w'.cell? ⟨w.heap.size,3,none⟩=some (.map (some bl)))/\w'.cell? ⟨w.heap.size+1,2,none⟩=some (.int .i64 (m:Int))/\w'.cell? ⟨w.heap.size+1,3,none⟩=some (.int .i64 (l:Int))) (first|exact hk0|exact hk00|assumption|fail) (first
   | (revert j1;intro j1;go_at_call 155;(with_reducible refine j1.mono ?_);rintro e w1 ⟨F1,i1,fr1,hp1,⟨L1,M1,q1,d1,hs1,rfl,hU1,hO1⟩|⟨hs1,rfl,M1,hpm1,hO1⟩⟩;(case inr=>exact⟨rfl,HQ.out _ _ (m0.bad (by rw[HR0.out,hs1];first|done|rfl) fr1 hp1 hpm1 hO1)⟩);have hr1:=HR0.out;rw[hs1]at hr1;dsimp only[bindM]at hr1;have HR1:Hid _:=hr1;clear hr1;have l1:=q1H m0.good kd hs1;have m1:=m0.step fr1 hp1 hO1 l1.pre l1.good;have hk1:=HCL.out _ m1.rb m1.xb;have j2:=HW1.out _ F1 i1 M1 m l _ _ L1 m1.obj hU1 l1.len l1.bd (hm.pre m1.hi) (hl.pre m1.hi);(try unfold wyF at j2);(try unfold rdV at j2);simp only[Bool.false_eq_true,if_false]at j2)
   | (revert j2;intro j2;go_at_call 178;(with_reducible refine j2.mono ?_);rintro e w2 ⟨F2,i2,fr2,hp2,⟨L2,M2,q2,d2,hs2,rfl,hU2,hO2⟩|⟨hs2,rfl,M2,hpm2,hO2⟩⟩;(case inr=>exact⟨rfl,HQ.out _ _ (m1.bad (by rw[HR1.out,hs2];first|done|rfl) fr2 hp2 hpm2 hO2)⟩);have hk2:Hid (Q (.returned (.slice q2 L2.length d2)) w2):=(HQ.out _ _ (m1.fin (by rw[HR1.out,hs2];first|done|rfl) fr2 hp2 hU2 hO2));have hkk2:=HCL.out _ (qh m1.rb m1.rn fr2).1 (qh m1.xb m1.xn fr2).1)
   |fail)
  all_goals
   clear j1 j2;go_wp2;exact hk2.out
 ·have n17:=nqf op 17 (by omega)
  have n18:((op:Int)==18)=true:=by rw[beq_iff_eq];omega
  have ob18:(op==18)=true:=by simp[ho]
  rw[ob18]at HR0;have HW1:Hid _:=HW.out.2 ho;clear ho ob18;unfold boxW itO rdO MidS at *;unfold rdV at *;dsimp only at *
  go_enter Tryz.func168,Tryz.ntmps168
  go_wp2_with fail
  go_region_held2 (fun w'=>(w'.cell? ⟨w.heap.size,0,none⟩=some (.pointer (some ⟨p,0,none⟩))/\w'.cell? ⟨w.heap.size,1,none⟩=some (.int .u8 (x:Int))/\w'.cell? ⟨w.heap.size,2,none⟩=some (.map (some bn))/\w'.cell? ⟨w.heap.size,3,none⟩=some (.map (some bl)))/\w'.cell? ⟨w.heap.size+1,2,none⟩=some (.int .i64 (m:Int))/\w'.cell? ⟨w.heap.size+1,3,none⟩=some (.int .i64 (l:Int))) (first|exact hk0|exact hk00|assumption|fail) (first
   | (revert j1;intro j1;go_at_call 155;(with_reducible refine j1.mono ?_);rintro e w1 ⟨F1,i1,fr1,hp1,⟨L1,M1,q1,d1,hs1,rfl,hU1,hO1⟩|⟨hs1,rfl,M1,hpm1,hO1⟩⟩;(case inr=>exact⟨rfl,HQ.out _ _ (m0.bad (by rw[HR0.out,hs1];first|done|rfl) fr1 hp1 hpm1 hO1)⟩);have hr1:=HR0.out;rw[hs1]at hr1;dsimp only[bindM]at hr1;have HR1:Hid _:=hr1;clear hr1;have l1:=q1H m0.good kd hs1;have m1:=m0.step fr1 hp1 hO1 l1.pre l1.good;have hk1:=HCL.out _ m1.rb m1.xb;have j2:=HW1.out _ F1 i1 M1 m l _ _ L1 m1.obj hU1 l1.len l1.bd (hm.pre m1.hi) (hl.pre m1.hi);(try unfold wyF at j2);(try unfold rdV at j2);simp only[if_true]at j2)
   | (revert j2;intro j2;go_at_call 179;(with_reducible refine j2.mono ?_);rintro e w2 ⟨F2,i2,fr2,hp2,⟨L2,M2,q2,d2,hs2,rfl,hU2,hO2⟩|⟨hs2,rfl,M2,hpm2,hO2⟩⟩;(case inr=>exact⟨rfl,HQ.out _ _ (m1.bad (by rw[HR1.out,hs2];first|done|rfl) fr2 hp2 hpm2 hO2)⟩);have hk2:Hid (Q (.returned (.slice q2 L2.length d2)) w2):=(HQ.out _ _ (m1.fin (by rw[HR1.out,hs2];first|done|rfl) fr2 hp2 hU2 hO2));have hkk2:=HCL.out _ (qh m1.rb m1.rn fr2).1 (qh m1.xb m1.xn fr2).1)
   |fail)
  all_goals
   clear j1 j2;go_wp2;exact hk2.out
theorem qbh{T0:Tr}{p:Nat}{vs:Value}{x bn bl:Nat}(op:Nat)(ho:op=7\/op=8)(c:Tr)(kS:KT (.un (op,0) c))(hS:InC T0 (.un (op,0) c)):LvQ T0 p vs x bn bl 168 (.un (op,0) c):=by
 intro w F items M i h hi;obtain⟨pp,m,hx,hm⟩:∃pp m:Nat,items[i]? =some ⟨op,pp,(m:Int),-1⟩/\Rep items m c:=by cases hi with|un h h1 h2=>exact⟨0,_,h,h2⟩
 obtain⟨F1,_,_,_,_,hrd⟩:=id h;obtain⟨G,rest,hpo⟩:=hrd.pg.part;obtain⟨a,n,cap,g,o,c0,hidx,x0,x1,x2,x3⟩:=(hpo.up (qc w (rdO p x bn bl))).at hx;obtain⟨m0,m00⟩:=qJ h op pp (m:Int) ((-1));have hk0:=m0.cells;have hk00:=m00.cells;have HCL:Hid (∀w':World,w'.heap[w.heap.size]? =some (rdO p x bn bl)->w'.heap[w.heap.size+1]? =some (itO ⟨op,pp,(m:Int),(-1)⟩)->MidS p x bn bl w.heap.size (m:Int) ((-1)) w'):=fun w' e1 e2=>⟨⟨qb e1 0,qb e1 1,qb e1 2,qb e1 3⟩,qb e2 2,qb e2 3⟩
 have hbx:=(mha w (rdO p x bn bl)).1;have r0:(w.alloc (rdO p x bn bl)).cell? ⟨w.heap.size,0,none⟩=some (.pointer (some ⟨p,0,none⟩)):=qb hbx 0
 have kc:KT c:=by
  rcases kt_un kS with⟨_,⟨h6,_⟩|⟨_,hc⟩⟩
  ·omega
  ·exact hc
 have HKS:Hid (KT c/\InC T0 c):=⟨kc,qiM hS⟩;obtain⟨R,hR⟩:∃R,R=aftC (.un (op,0) c) x M:=⟨_,rfl⟩
 have HR0:Hid (R=bindM (needM (.leaf (if op=7 then 4 else 5,0)) M) fun a M1=>bindM (needM c M1) fun b M2=>twoM (op==7) a b M2):=by show _=_;rw[hR];exact qf4 ho c x M
 rw[<-hR];obtain⟨Q,hQ⟩:∃Q:Ending->World->Prop,Q=RetQ (RdO T0 p vs x bn bl) w F items M R:=⟨_,rfl⟩
 have HQ:Hid (∀e w',RetQ (RdO T0 p vs x bn bl) w F items M R e w'->Q e w'):=fun e w' h=>by rw[hQ];exact h
 rw[<-hQ];clear hrd hpo hR hQ hbx h hx;have n0:=nqf op 0 (by omega)
 have n4:=nqf op 4 (by omega)
 have n1:=nqf op 1 (by omega)
 have n5:=nqf op 5 (by omega)
 have n2:=nqf op 2 (by omega)
 have n6:=nqf op 6 (by omega)
 have n11:=nqf op 11 (by omega)
 have n12:=nqf op 12 (by omega)
 have n15:=nqf op 15 (by omega)
 have n16:=nqf op 16 (by omega)
 have n17:=nqf op 17 (by omega)

 rcases ho with ho|ho
 ·have n7:((op:Int)==7)=true:=by rw[beq_iff_eq];omega
  have ob7:(op==7)=true:=by simp[ho]
  rw[ob7]at HR0;have j1:Calls Tryz.prog 177 #[.pointer (some ⟨p,0,none⟩),.int .u8 4] (boxW w p x bn bl op pp (m:Int) (-1)).drew (KeptQ T0 p vs x bn bl (boxW w p x bn bl op pp (m:Int) (-1)).drew F items M (.leaf (4,0))):=q3b m0.obj fun G rest hpo=>q4B hpo 4 (by simp)
  rw[show (if op=7 then 4 else 5)=4 by simp[ho]]at HR0
  clear ho ob7;unfold boxW itO rdO MidS at *;unfold rdV at *;dsimp only at *
  go_enter Tryz.func168,Tryz.ntmps168
  go_wp2_with fail
  go_region_held2 (fun w'=>(w'.cell? ⟨w.heap.size,0,none⟩=some (.pointer (some ⟨p,0,none⟩))/\w'.cell? ⟨w.heap.size,1,none⟩=some (.int .u8 (x:Int))/\w'.cell? ⟨w.heap.size,2,none⟩=some (.map (some bn))/\w'.cell? ⟨w.heap.size,3,none⟩=some (.map (some bl)))/\w'.cell? ⟨w.heap.size+1,2,none⟩=some (.int .i64 (m:Int))/\w'.cell? ⟨w.heap.size+1,3,none⟩=some (.int .i64 (-1))) (first|exact hk0|exact hk00|assumption|fail) (first
   | (revert j1;intro j1;go_at_call 177;(with_reducible refine j1.mono ?_);rintro e w1 ⟨n1,i1,F1,rfl,hp1,hrep1,fr1,hO1⟩;have m1:=m0.step fr1 hp1 hO1 (List.prefix_refl _) m0.good;have hk1:=HCL.out _ m1.rb m1.xb;have HR1:Hid _:=HR0.out;have j2:=qU m1.obj n1 _ hrep1 (q2F 4 (by simp)) (q7l (by simp));unfold rdV at j2)
   | (revert j2;intro j2;go_at_call 176;(with_reducible refine j2.mono ?_);rintro e w2 ⟨F2,i2,fr2,hp2,⟨L2,M2,q2,d2,hs2,rfl,hU2,hO2⟩|⟨hs2,rfl,M2,hpm2,hO2⟩⟩;(case inr=>exact⟨rfl,HQ.out _ _ (m1.bad (by rw[HR1.out,hs2];first|done|rfl) fr2 hp2 hpm2 hO2)⟩);have hr2:=HR1.out;rw[hs2]at hr2;dsimp only[bindM]at hr2;have HR2:Hid _:=hr2;clear hr2;have l2:=q3D m1.good (q2F 4 (by simp)) hs2;have m2:=m1.step fr2 hp2 hO2 l2.pre l2.good;have hk2:=HCL.out _ m2.rb m2.xb;have j3:=qU m2.obj m _ (hm.pre m2.hi) HKS.out.1 HKS.out.2;unfold rdV at j3)
   | (revert j3;intro j3;go_at_call 176;(with_reducible refine j3.mono ?_);rintro e w3 ⟨F3,i3,fr3,hp3,⟨L3,M3,q3,d3,hs3,rfl,hU3,hO3⟩|⟨hs3,rfl,M3,hpm3,hO3⟩⟩;(case inr=>exact⟨rfl,HQ.out _ _ (m2.bad (by rw[HR2.out,hs3];first|done|rfl) fr3 hp3 hpm3 hO3)⟩);have hr3:=HR2.out;rw[hs3]at hr3;dsimp only[bindM]at hr3;have HR3:Hid _:=hr3;clear hr3;have l3:=q3D m2.good HKS.out.1 hs3;have m3:=m2.step fr3 hp3 hO3 l3.pre l3.good;have hk3:=HCL.out _ m3.rb m3.xb;have j4:=qH (qp T0 p vs x bn bl) true m3.obj (hU2.fr fr3) (hU3) l2.lst l3.lst;unfold twF at j4;simp only[if_true]at j4)
   | (revert j4;intro j4;go_at_call 125;(with_reducible refine j4.mono ?_);rintro e w4 ⟨F4,i4,fr4,hp4,⟨L4,M4,q4,d4,hs4,rfl,hU4,hO4⟩|⟨hs4,rfl,M4,hpm4,hO4⟩⟩;(case inr=>exact⟨rfl,HQ.out _ _ (m3.bad (by rw[HR3.out,hs4];first|done|rfl) fr4 hp4 hpm4 hO4)⟩);have hk4:Hid (Q (.returned (.slice q4 L4.length d4)) w4):=(HQ.out _ _ (m3.fin (by rw[HR3.out,hs4];first|done|rfl) fr4 hp4 hU4 hO4));have hkk4:=HCL.out _ (qh m3.rb m3.rn fr4).1 (qh m3.xb m3.xn fr4).1)
   |fail)
  all_goals
   clear j1 j2 j3 j4;go_wp2;exact hk4.out
 ·have n7:=nqf op 7 (by omega)
  have n8:((op:Int)==8)=true:=by rw[beq_iff_eq];omega
  have ob7:(op==7)=false:=by simp[ho]
  rw[ob7]at HR0;have j1:Calls Tryz.prog 177 #[.pointer (some ⟨p,0,none⟩),.int .u8 5] (boxW w p x bn bl op pp (m:Int) (-1)).drew (KeptQ T0 p vs x bn bl (boxW w p x bn bl op pp (m:Int) (-1)).drew F items M (.leaf (5,0))):=q3b m0.obj fun G rest hpo=>q4B hpo 5 (by simp)
  rw[show (if op=7 then 4 else 5)=5 by simp[ho]]at HR0
  clear ho ob7;unfold boxW itO rdO MidS at *;unfold rdV at *;dsimp only at *
  go_enter Tryz.func168,Tryz.ntmps168
  go_wp2_with fail
  go_region_held2 (fun w'=>(w'.cell? ⟨w.heap.size,0,none⟩=some (.pointer (some ⟨p,0,none⟩))/\w'.cell? ⟨w.heap.size,1,none⟩=some (.int .u8 (x:Int))/\w'.cell? ⟨w.heap.size,2,none⟩=some (.map (some bn))/\w'.cell? ⟨w.heap.size,3,none⟩=some (.map (some bl)))/\w'.cell? ⟨w.heap.size+1,2,none⟩=some (.int .i64 (m:Int))/\w'.cell? ⟨w.heap.size+1,3,none⟩=some (.int .i64 (-1))) (first|exact hk0|exact hk00|assumption|fail) (first
   | (revert j1;intro j1;go_at_call 177;(with_reducible refine j1.mono ?_);rintro e w1 ⟨n1,i1,F1,rfl,hp1,hrep1,fr1,hO1⟩;have m1:=m0.step fr1 hp1 hO1 (List.prefix_refl _) m0.good;have hk1:=HCL.out _ m1.rb m1.xb;have HR1:Hid _:=HR0.out;have j2:=qU m1.obj n1 _ hrep1 (q2F 5 (by simp)) (q7l (by simp));unfold rdV at j2)
   | (revert j2;intro j2;go_at_call 176;(with_reducible refine j2.mono ?_);rintro e w2 ⟨F2,i2,fr2,hp2,⟨L2,M2,q2,d2,hs2,rfl,hU2,hO2⟩|⟨hs2,rfl,M2,hpm2,hO2⟩⟩;(case inr=>exact⟨rfl,HQ.out _ _ (m1.bad (by rw[HR1.out,hs2];first|done|rfl) fr2 hp2 hpm2 hO2)⟩);have hr2:=HR1.out;rw[hs2]at hr2;dsimp only[bindM]at hr2;have HR2:Hid _:=hr2;clear hr2;have l2:=q3D m1.good (q2F 5 (by simp)) hs2;have m2:=m1.step fr2 hp2 hO2 l2.pre l2.good;have hk2:=HCL.out _ m2.rb m2.xb;have j3:=qU m2.obj m _ (hm.pre m2.hi) HKS.out.1 HKS.out.2;unfold rdV at j3)
   | (revert j3;intro j3;go_at_call 176;(with_reducible refine j3.mono ?_);rintro e w3 ⟨F3,i3,fr3,hp3,⟨L3,M3,q3,d3,hs3,rfl,hU3,hO3⟩|⟨hs3,rfl,M3,hpm3,hO3⟩⟩;(case inr=>exact⟨rfl,HQ.out _ _ (m2.bad (by rw[HR2.out,hs3];first|done|rfl) fr3 hp3 hpm3 hO3)⟩);have hr3:=HR2.out;rw[hs3]at hr3;dsimp only[bindM]at hr3;have HR3:Hid _:=hr3;clear hr3;have l3:=q3D m2.good HKS.out.1 hs3;have m3:=m2.step fr3 hp3 hO3 l3.pre l3.good;have hk3:=HCL.out _ m3.rb m3.xb;have j4:=qH (qp T0 p vs x bn bl) false m3.obj (hU2.fr fr3) (hU3) l2.lst l3.lst;unfold twF at j4;simp only[Bool.false_eq_true,if_false]at j4)
   | (revert j4;intro j4;go_at_call 126;(with_reducible refine j4.mono ?_);rintro e w4 ⟨F4,i4,fr4,hp4,⟨L4,M4,q4,d4,hs4,rfl,hU4,hO4⟩|⟨hs4,rfl,M4,hpm4,hO4⟩⟩;(case inr=>exact⟨rfl,HQ.out _ _ (m3.bad (by rw[HR3.out,hs4];first|done|rfl) fr4 hp4 hpm4 hO4)⟩);have hk4:Hid (Q (.returned (.slice q4 L4.length d4)) w4):=(HQ.out _ _ (m3.fin (by rw[HR3.out,hs4];first|done|rfl) fr4 hp4 hU4 hO4));have hkk4:=HCL.out _ (qh m3.rb m3.rn fr4).1 (qh m3.xb m3.xn fr4).1)
   |fail)
  all_goals
   clear j1 j2 j3 j4;go_wp2;exact hk4.out
theorem qcI{T0:Tr}{p:Nat}{vs:Value}{x bn bl:Nat}{w w1 w':World}{F:Nat->Prop}{items:List It}{M:Mt}{R:Rt}{l:List Nat}{e:Ending}(h:RdO T0 p vs x bn bl w F items M)(hb:Below w.heap.size w w1)(hR:R=some (l,M))(hn:NewL l w1 e w'):RetQ (RdO T0 p vs x bn bl) w F items M R e w':=by
 rw[hR];exact(q4O (qp T0 p vs x bn bl) ((qp T0 p vs x bn bl).up h hb) hn).after (Fr.ofBelow hb) (List.prefix_refl _) (List.prefix_refl _)
theorem qc9{T0:Tr}{p:Nat}{vs:Value}{x bn bl:Nat}(op:Nat)(ho:op=0\/op=4\/op=1\/op=5):LvQ T0 p vs x bn bl 168 (.leaf (op,0)):=by
 intro w F items M i h hi;obtain⟨pp,hx⟩:∃pp:Nat,items[i]? =some ⟨op,pp,-1,-1⟩:=by cases hi with|leaf h=>exact⟨0,h⟩
 obtain⟨F1,_,_,_,_,hrd⟩:=id h;obtain⟨G,rest,hpo⟩:=hrd.pg.part;obtain⟨a,n,cap,g,o,c0,hidx,x0,x1,x2,x3⟩:=(hpo.up (qc w (rdO p x bn bl))).at hx;have hbx:=(MapKept.heap_alloc w (rdO p x bn bl)).1;have r0:(w.alloc (rdO p x bn bl)).cell? ⟨w.heap.size,0,none⟩=some (.pointer (some ⟨p,0,none⟩)):=qb hbx 0;have hb:Below w.heap.size w (boxW w p x bn bl op pp (-1) (-1)):=qd (qc _ _) (qc _ _);have HN:Hid (∀e w',NewL (yesM (op==0 || op==4)) (boxW w p x bn bl op pp (-1) (-1)) e w'->RetQ (RdO T0 p vs x bn bl) w F items M (aftC (.leaf (op,0)) x M) e w'):=fun e w' hn=>qcI h hb (by rw[q5Z];rw[if_neg (by dsimp only;omega)]) hn
 have jj:=q2a (boxW w p x bn bl op pp (-1) (-1));clear hrd hpo hbx h hx hb hi;generalize aftC (.leaf (op,0)) x M=R at *;obtain⟨Q,hQ⟩:∃Q:Ending->World->Prop,Q=RetQ (RdO T0 p vs x bn bl) w F items M R:=⟨_,rfl⟩
 rw[<-hQ]at HN ⊢;clear hQ;rcases ho with rfl|rfl|rfl|rfl
 ·unfold boxW itO rdO at *
  unfold rdV;dsimp only at *
  go_enter Tryz.func168,Tryz.ntmps168
  go_wp2_with fail
  refine jj.mono ?_
  rintro e w1 ⟨q,C,rfl,hU,hb,hf⟩
  have HE:Hid (Q (.returned (.slice q [0].length C)) w1):=HN.out _ _ ⟨q,C,rfl,hU,hb,hf⟩;clear jj hU hb hf;go_wp2;exact HE.out
 ·unfold boxW itO rdO at *
  unfold rdV;dsimp only at *
  go_enter Tryz.func168,Tryz.ntmps168
  go_wp2_with fail
  refine jj.mono ?_
  rintro e w1 ⟨q,C,rfl,hU,hb,hf⟩
  have HE:Hid (Q (.returned (.slice q [0].length C)) w1):=HN.out _ _ ⟨q,C,rfl,hU,hb,hf⟩;clear jj hU hb hf;go_wp2;exact HE.out
 ·have HE:Hid _:=HN.out _ _ (q3U _ _ (Below.refl _ _))
  unfold boxW itO rdO at *;unfold rdV;dsimp only at *
  clear jj;go_enter Tryz.func168,Tryz.ntmps168
  go_wp2;exact HE.out
 ·have HE:Hid _:=HN.out _ _ (q3U _ _ (Below.refl _ _))
  unfold boxW itO rdO at *;unfold rdV;dsimp only at *
  clear jj;go_enter Tryz.func168,Tryz.ntmps168
  go_wp2;exact HE.out
theorem qbi{T0:Tr}{p:Nat}{vs:Value}{x bn bl:Nat}(hx8:x<256)(q:Nat)(hq:q<=7):LvQ T0 p vs x bn bl 168 (.leaf (2,q)):=by
 intro w F items M i h hi;obtain⟨op,hop,hx⟩:∃op:Nat,op=2/\items[i]? =some ⟨op,q,-1,-1⟩:=by cases hi with|leaf h=>exact⟨2,rfl,h⟩
 obtain⟨F1,_,_,_,_,hrd⟩:=id h;obtain⟨G,rest,hpo⟩:=hrd.pg.part;obtain⟨a,n,cap,g,o,c0,hidx,x0,x1,x2,x3⟩:=(hpo.up (qc w (rdO p x bn bl))).at hx;obtain⟨m0,m00⟩:=qJ h op q (-1) (-1);have hbx:=(mha w (rdO p x bn bl)).1;have r0:(w.alloc (rdO p x bn bl)).cell? ⟨w.heap.size,0,none⟩=some (.pointer (some ⟨p,0,none⟩)):=qb hbx 0;have s0:=m00.cells;have s1:(boxW w p x bn bl op q (-1) (-1)).cell? ⟨w.heap.size+1,1,none⟩=some (.int .u8 (q:Int)):=qb m00.xb 1;have hb:Below w.heap.size w (boxW w p x bn bl op q (-1) (-1)):=qd (qc _ _) (qc _ _);have hhas:=q5t p x bn bl q hx8 hq (boxW w p x bn bl op q (-1) (-1));have HN:Hid (∀w1 e w',Below (boxW w p x bn bl op q (-1) (-1)).heap.size (boxW w p x bn bl op q (-1) (-1)) w1->NewL (yesM (x.testBit q)) w1 e w'->RetQ (RdO T0 p vs x bn bl) w F items M (aftC (.leaf (2,q)) x M) e w'):=fun w1 e w' hb1 hn=>qcI h (qd hb hb1) (by rw[q5Z];rfl) hn
 clear hrd hpo hbx h hx hb hi m0 m00;generalize aftC (.leaf (2,q)) x M=R at *;obtain⟨Q,hQ⟩:∃Q:Ending->World->Prop,Q=RetQ (RdO T0 p vs x bn bl) w F items M R:=⟨_,rfl⟩
 rw[<-hQ]at HN ⊢;clear hQ;have n0:=nqf op 0 (by omega)
 have n1:=nqf op 1 (by omega)
 have n4:=nqf op 4 (by omega)
 have n5:=nqf op 5 (by omega)
 have n2:((op:Int)==2)=true:=by rw[beq_iff_eq];omega
 clear hop;obtain⟨⟨s00,s01,s02,s03⟩,_⟩:=s0;unfold boxW itO rdO at *;unfold rdV at *;dsimp only at *
 go_enter Tryz.func168,Tryz.ntmps168
 go_wp2_with fail
 refine hhas.mono ?_
 rintro e w1 ⟨rfl,hb1⟩
 have jw:=q4E (x.testBit q) w1;have HB1:Hid _:=hb1;clear hhas hb1;generalize x.testBit q=tb at *
 go_wp2_with fail
 refine jw.mono ?_
 intro e w2 hn;have hn':=hn;obtain⟨qq,C,rfl,_⟩:=hn';have HE:Hid (Q (.returned (.slice qq (yesM tb).length C)) w2):=HN.out w1 _ _ HB1.out hn;clear jw hn;go_wp2;exact HE.out
theorem qc6{T0:Tr}{p:Nat}{vs:Value}{x bn bl:Nat}(hx8:x<256)(q:Nat)(hq:q<=7):LvQ T0 p vs x bn bl 168 (.un (6,0) (.leaf (2,q))):=by
 intro w F items M i h hi;obtain⟨op,pp,m,hop,hx,hm⟩:∃op pp m:Nat,op=6/\items[i]? =some ⟨op,pp,(m:Int),-1⟩/\Rep items m (.leaf (2,q)):=by cases hi with|un h h1 h2=>exact⟨6,0,_,rfl,h,h2⟩
 have hxm:items[m]? =some ⟨2,q,-1,-1⟩:=by cases hm with|leaf h=>exact h
 obtain⟨m0,m00⟩:=qJ h op pp (m:Int) (-1);have hb:Below w.heap.size w (boxW w p x bn bl op pp (m:Int) (-1)):=qd (qc _ _) (qc _ _);obtain⟨F1,_,_,_,_,hrd⟩:=id h;obtain⟨G,rest,hpo⟩:=hrd.pg.part;obtain⟨a,n,cap,g,o,c0,hidx,x0,x1,x2,x3⟩:=(hpo.up (qc w (rdO p x bn bl))).at hx;obtain⟨a',n',cap',g',o',c0',hidx',_,y1,_,_⟩:=(hpo.up hb).at hxm
 have ea:Value.slice a n cap=.slice a' n' cap':=by
  have e1:=(hpo.up (qc w (rdO p x bn bl))).up (qc _ (itO ⟨op,pp,(m:Int),-1⟩))
  have e2:(boxW w p x bn bl op pp (m:Int) (-1)).cell? ⟨p,0,none⟩=(w.alloc (rdO p x bn bl)).cell? ⟨p,0,none⟩:=by
   obtain⟨vi,mp,vt,hbk,_⟩:=(hpo.up (qc w (rdO p x bn bl))).blk;obtain⟨vi',mp',vt',hbk',_⟩:=e1.blk;have hlt:=(aes hbk).1
   have:(boxW w p x bn bl op pp (m:Int) (-1)).heap[p]? =(w.alloc (rdO p x bn bl)).heap[p]? := (qc (w.alloc (rdO p x bn bl)) (itO ⟨op,pp,(m:Int),-1⟩)).block p hlt
   unfold World.cell?;rw[this]
  rw[c0',c0]at e2;injection e2 with e2;exact e2.symm
 injection ea with ea1 ea2 ea3;subst ea1 ea2 ea3;have hbx:=(mha w (rdO p x bn bl)).1;have r0:(w.alloc (rdO p x bn bl)).cell? ⟨w.heap.size,0,none⟩=some (.pointer (some ⟨p,0,none⟩)):=qb hbx 0;have hk0:=m0.cells;have hk00:=m00.cells;have hcc:(boxW w p x bn bl op pp (m:Int) (-1)).drew.cell? ⟨p,0,none⟩=some (.slice a n cap):=c0';have hyy:(boxW w p x bn bl op pp (m:Int) (-1)).drew.cell? ⟨g',o'+1,none⟩=some (.int .u8 (q:Int)):=y1;have hhas:=q5t p x bn bl q hx8 hq (boxW w p x bn bl op pp (m:Int) (-1)).drew;have HN:Hid (∀w1 e w',Below (boxW w p x bn bl op pp (m:Int) (-1)).drew.heap.size (boxW w p x bn bl op pp (m:Int) (-1)).drew w1->NewL (yesM (!x.testBit q)) w1 e w'->RetQ (RdO T0 p vs x bn bl) w F items M (aftC (.un (6,0) (.leaf (2,q))) x M) e w'):=fun w1 e w' hb1 hn=>qcI h (qd hb.drew hb1) (by rw[qge];rfl) hn
 clear hrd hpo hbx h hx hb hi m0 m00 hm hxm;generalize aftC (.un (6,0) (.leaf (2,q))) x M=R at *;obtain⟨Q,hQ⟩:∃Q:Ending->World->Prop,Q=RetQ (RdO T0 p vs x bn bl) w F items M R:=⟨_,rfl⟩
 rw[<-hQ]at HN ⊢;clear hQ;have n0:=nqf op 0 (by omega)
 have n1:=nqf op 1 (by omega)
 have n4:=nqf op 4 (by omega)
 have n5:=nqf op 5 (by omega)
 have n2:=nqf op 2 (by omega)
 have n6:((op:Int)==6)=true:=by rw[beq_iff_eq];omega
 clear hop;unfold boxW itO rdO MidS at *;unfold rdV at *;dsimp only at *
 have hS0:=And.intro (And.intro hcc hyy) hk0;have hS00:=And.intro (And.intro c0' y1) hk00;have HKC:Hid (∀(wa wb:World) (ad:Addr) (v:Value),wa.cell? ad=some v->Below wa.heap.size wa wb->wb.cell? ad=some v):=fun wa wb ad v h1 h2=>qn h1 h2
 go_enter Tryz.func168,Tryz.ntmps168
 go_wp2_with fail
 go_region_held2 (fun w'=>(w'.cell? ⟨p,0,none⟩=some (.slice a n cap)/\w'.cell? ⟨g',o'+1,none⟩=some (.int .u8 (q:Int)))/\(w'.cell? ⟨w.heap.size,0,none⟩=some (.pointer (some ⟨p,0,none⟩))/\w'.cell? ⟨w.heap.size,1,none⟩=some (.int .u8 (x:Int))/\w'.cell? ⟨w.heap.size,2,none⟩=some (.map (some bn))/\w'.cell? ⟨w.heap.size,3,none⟩=some (.map (some bl)))/\w'.cell? ⟨w.heap.size+1,2,none⟩=some (.int .i64 (m:Int))/\w'.cell? ⟨w.heap.size+1,3,none⟩=some (.int .i64 (-1))) (first|exact hS0|exact hS00|assumption|fail) (first
  | (go_at_call 175;(with_reducible refine hhas.mono ?_);rintro e w1 ⟨rfl,hb1⟩;have hS1:=And.intro (And.intro (HKC.out _ w1 _ _ hS0.1.1 hb1) (HKC.out _ w1 _ _ hS0.1.2 hb1)) (And.intro (And.intro (HKC.out _ w1 _ _ hS0.2.1.1 hb1) (And.intro (HKC.out _ w1 _ _ hS0.2.1.2.1 hb1) (And.intro (HKC.out _ w1 _ _ hS0.2.1.2.2.1 hb1) (HKC.out _ w1 _ _ hS0.2.1.2.2.2 hb1)))) (And.intro (HKC.out _ w1 _ _ hS0.2.2.1 hb1) (HKC.out _ w1 _ _ hS0.2.2.2 hb1)));have jw:=q4E (!x.testBit q) w1)
  | (revert jw;intro jw;go_at_call 174;(with_reducible refine jw.mono ?_);intro e w2 hn;have hn':=hn;obtain⟨qq,C,rfl,_,hb2,_⟩:=hn';have HE:Hid (Q (.returned (.slice qq (yesM (!x.testBit q)).length C)) w2):=(HN.out w1 _ _ hb1 hn);have hS2:=And.intro (And.intro (HKC.out _ w2 _ _ hS1.1.1 hb2) (HKC.out _ w2 _ _ hS1.1.2 hb2)) (And.intro (And.intro (HKC.out _ w2 _ _ hS1.2.1.1 hb2) (And.intro (HKC.out _ w2 _ _ hS1.2.1.2.1 hb2) (And.intro (HKC.out _ w2 _ _ hS1.2.1.2.2.1 hb2) (HKC.out _ w2 _ _ hS1.2.1.2.2.2 hb2)))) (And.intro (HKC.out _ w2 _ _ hS1.2.2.1 hb2) (HKC.out _ w2 _ _ hS1.2.2.2 hb2))))
  |fail)
 all_goals
  clear hhas jw;go_wp2;exact HE.out
theorem qiK(b:Bool):hoB (yesM b) 0=b:=by cases b<;>decide
theorem q4z{T0:Tr}{p:Nat}{vs:Value}{x bn bl:Nat}{w:World}{F:Nat->Prop}{items:List It}{M:Mt}(h:RdO T0 p vs x bn bl w F items M)(i:Nat)(S:Tr)(hi:Rep items i S)(kS:KT S)(pS:plainT S=true)(ha:LvQ T0 p vs x bn bl 155 S):
  Calls Tryz.prog 181 #[rdV p x bn bl,.int .i64 (i:Int)] w fun e w'=>e=.returned (.bool (plV x S))/\∃F' items',Fr w w' F F'/\items <+: items'/\RdO T0 p vs x bn bl w' F' items' M:=by
 have hb:=qc w (rdO p x bn bl);have hO:=(qp T0 p vs x bn bl).up h hb;have j1:=ha _ F items M i hO hi;rw[q3j M kS pS]at j1;have hbx:=(mha w (rdO p x bn bl)).1;have b0:(w.alloc (rdO p x bn bl)).cell? ⟨w.heap.size,0,none⟩=some (.pointer (some ⟨p,0,none⟩)):=qb hbx 0;have b1:(w.alloc (rdO p x bn bl)).cell? ⟨w.heap.size,1,none⟩=some (.int .u8 (x:Int)):=qb hbx 1;have b2:(w.alloc (rdO p x bn bl)).cell? ⟨w.heap.size,2,none⟩=some (.map (some bn)):=qb hbx 2;have b3:(w.alloc (rdO p x bn bl)).cell? ⟨w.heap.size,3,none⟩=some (.map (some bl)):=qb hbx 3;have HB:Hid (Fr w (w.alloc (rdO p x bn bl)) F F):=Fr.ofBelow hb;clear h hb hO hbx hi kS pS ha;generalize plV x S=v at *;unfold rdO rdV at *;go_enter Tryz.func181,Tryz.ntmps181
 go_wp2_with fail
 refine j1.mono ?_
 rintro e w1 ⟨F1,i1,fr1,hp1,⟨L,M1,q,d,hs,rfl,hU,hO1⟩|⟨hs,_⟩⟩
 ·injection hs with hs
  injection hs with hs1 hs2;subst hs1 hs2
  have sm:Sm (yesM v):=fun y hy=>by
   unfold yesM at hy
   cases v with
   |true=>simp at hy;subst hy;decide
   |false=>simp at hy
  have j2:=q2W q (yesM v).length d (yesM v) 0 w1 hU.sl sm (by decide)
  rw[qiK]at j2;have HF:Hid (Fr w w1 F F1):=HB.out.trans fr1;have HO:Hid _:=hO1;clear j1 fr1 hU hO1 sm;generalize (yesM v).length=n at *
  go_wp2_with fail
  refine j2.mono ?_
  rintro e w2 ⟨rfl,hb2⟩
  have HE:Hid (∃F' items',Fr w w2 F F'/\items <+: items'/\RdO T0 p vs x bn bl w2 F' items' M):=⟨F1,i1,HF.out.trans (Fr.ofBelow hb2),hp1,(qp T0 p vs x bn bl).up HO.out hb2⟩;clear j2 hb2 HF HO;go_wp2;go_ret
  exact⟨rfl,HE.out⟩
 ·cases hs
theorem MidR.drew{T0:Tr}{p:Nat}{vs:Value}{x bn bl:Nat}{w:World}{F:Nat->Prop}{items:List It}{M:Mt}{B:Nat}{o:Obj}{wj:World}{Fj:Nat->Prop}{ij:List It}{Mj:Mt}(h:MidR T0 p vs x bn bl w F items M B o wj Fj ij Mj):MidR T0 p vs x bn bl w F items M B o wj.drew Fj ij Mj :=
 ⟨(qp T0 p vs x bn bl).up h.obj (Below.refl _ _).drew,h.fr.trans (Fr.ofBelow (Below.refl _ _).drew),h.hi,h.hM,h.good,h.rb,h.rn,h.xb,h.xn⟩
theorem q5A(w:World):Calls Tryz.prog 124 #[] w fun e w'=>∃q C,e=.returned (.slice q 1 C)/\USl w' q 1 C [0]/\Below w.heap.size w w'/\∀k,k<1->w.heap.size<=(adOf q k).block:=q2a w
theorem q9F(m:Nat):BdL [0] m:=q1j true m
theorem q5F{T0:Tr}{p:Nat}{vs:Value}{x bn bl:Nat}(c d f:Tr)(kr:KP (.bin (21,0) c d))(kf:KT f)(hc:WyQ T0 p vs x bn bl false c f)(hd:WyQ T0 p vs x bn bl false d f):WyQ T0 p vs x bn bl false (.bin (21,0) c d) f:=by
 intro w F items M i k av cv s h hUs hls hbs hi hkf;obtain⟨op,pp,m,l,hop,hx,hm,hl⟩:∃op pp m l:Nat,op=21/\items[i]? =some ⟨op,pp,(m:Int),(l:Int)⟩/\Rep items m c/\Rep items l d:=by cases hi with|bin h h1 h2 h3 h4=>exact⟨_,0,_,_,rfl,h,h3,h4⟩
 obtain⟨F1,_,_,_,_,hrd⟩:=id h;obtain⟨G,rest,hpo⟩:=hrd.pg.part;obtain⟨a,n,cap,g,o,c0,hidx,x0,x1,x2,x3⟩:=(hpo.up (qc w (rdO p x bn bl))).at hx;obtain⟨m0,m00⟩:=qJ h op pp (m:Int) (l:Int);have hk0:=m0.cells;have hk00:=m00.cells;have HCL:Hid (∀w':World,w'.heap[w.heap.size]? =some (rdO p x bn bl)->w'.heap[w.heap.size+1]? =some (itO ⟨op,pp,(m:Int),(l:Int)⟩)->MidS p x bn bl w.heap.size (m:Int) (l:Int) w'):=fun w' e1 e2=>⟨⟨qb e1 0,qb e1 1,qb e1 2,qb e1 3⟩,qb e2 2,qb e2 3⟩
 have hbx:=(mha w (rdO p x bn bl)).1;have r0:(w.alloc (rdO p x bn bl)).cell? ⟨w.heap.size,0,none⟩=some (.pointer (some ⟨p,0,none⟩)):=qb hbx 0;have HI:=hiq hi;have ls:LstH s:=⟨qT hbs m0.good.few,hls⟩;obtain⟨_,_,kc,kd⟩:=q1y kr;have j1:=hc _ _ _ _ m k _ _ s m0.obj (hUs.fr m0.fr) hls hbs (hm) (hkf);unfold wyF at j1
 skip
 simp only[Bool.false_eq_true,if_false]at j1
 obtain⟨R,hR⟩:∃R,R=pthC false (.bin (21,0) c d) s f x M:=⟨_,rfl⟩
 have HR0:Hid (R=bindM (pthC false c s f x M) fun a M1=>bindM (pthC false d s f x M1) fun b M2=>twoM false a b M2):=by show _=_;rw[hR];exact qax kr s f x M
 rw[<-hR];obtain⟨Q,hQ⟩:∃Q:Ending->World->Prop,Q=RetQ (RdO T0 p vs x bn bl) w F items M R:=⟨_,rfl⟩
 have HQ:Hid (∀e w',RetQ (RdO T0 p vs x bn bl) w F items M R e w'->Q e w'):=fun e w' h=>by rw[hQ];exact h
 rw[<-hQ];clear hrd hpo hR hQ hbx h hx hi;have n19:=nqf op 19 (by omega)
 have n20:=nqf op 20 (by omega)
 have n21:((op:Int)==21)=true:=by rw[beq_iff_eq];omega
 clear hop;unfold wyF;simp only[Bool.false_eq_true,if_false]
 unfold boxW itO rdO MidS at *;unfold rdV at *;dsimp only at *
 go_enter Tryz.func178,Tryz.ntmps178
 go_wp2_with fail
 go_region_held2 (fun w'=>(w'.cell? ⟨w.heap.size,0,none⟩=some (.pointer (some ⟨p,0,none⟩))/\w'.cell? ⟨w.heap.size,1,none⟩=some (.int .u8 (x:Int))/\w'.cell? ⟨w.heap.size,2,none⟩=some (.map (some bn))/\w'.cell? ⟨w.heap.size,3,none⟩=some (.map (some bl)))/\w'.cell? ⟨w.heap.size+1,2,none⟩=some (.int .i64 (m:Int))/\w'.cell? ⟨w.heap.size+1,3,none⟩=some (.int .i64 (l:Int))) (first|exact hk0|exact hk00|assumption|fail) (first
   | (revert j1;intro j1;go_at_call 178;(with_reducible refine j1.mono ?_);rintro e w1 ⟨F1,i1,fr1,hp1,⟨L1,M1,q1,d1,hs1,rfl,hU1,hO1⟩|⟨hs1,rfl,M1,hpm1,hO1⟩⟩;(case inr=>exact⟨rfl,HQ.out _ _ (m0.bad (by rw[HR0.out,hs1];first|done|rfl) fr1 hp1 hpm1 hO1)⟩);have hr1:=HR0.out;rw[hs1]at hr1;dsimp only[bindM]at hr1;have HR1:Hid _:=hr1;clear hr1;have l1:=q3p m0.good kc kf hbs hs1;have m1:=m0.step fr1 hp1 hO1 l1.pre l1.good;have hk1:=HCL.out _ m1.rb m1.xb;have j2:=hd _ _ _ _ l k _ _ s m1.obj (hUs.fr m1.fr) hls (hbs.mono m1.hM.length_le) (hl.pre m1.hi) (hkf.pre m1.hi);(try unfold wyF at j2);(try unfold rdV at j2);simp only[Bool.false_eq_true,if_false]at j2)
   | (revert j2;intro j2;go_at_call 178;(with_reducible refine j2.mono ?_);rintro e w2 ⟨F2,i2,fr2,hp2,⟨L2,M2,q2,d2,hs2,rfl,hU2,hO2⟩|⟨hs2,rfl,M2,hpm2,hO2⟩⟩;(case inr=>exact⟨rfl,HQ.out _ _ (m1.bad (by rw[HR1.out,hs2];first|done|rfl) fr2 hp2 hpm2 hO2)⟩);have hr2:=HR1.out;rw[hs2]at hr2;dsimp only[bindM]at hr2;have HR2:Hid _:=hr2;clear hr2;have l2:=q3p m1.good kd kf (hbs.mono m1.hM.length_le) hs2;have m2:=m1.step fr2 hp2 hO2 l2.pre l2.good;have hk2:=HCL.out _ m2.rb m2.xb;have j3:=qH (qp T0 p vs x bn bl) false m2.obj (hU1.fr fr2) (hU2) l1.lst l2.lst;unfold twF at j3;simp only[Bool.false_eq_true,if_false]at j3)
   | (revert j3;intro j3;go_at_call 126;(with_reducible refine j3.mono ?_);rintro e w3 ⟨F3,i3,fr3,hp3,⟨L3,M3,q3,d3,hs3,rfl,hU3,hO3⟩|⟨hs3,rfl,M3,hpm3,hO3⟩⟩;(case inr=>exact⟨rfl,HQ.out _ _ (m2.bad (by rw[HR2.out,hs3];first|done|rfl) fr3 hp3 hpm3 hO3)⟩);have hk3:Hid (Q (.returned (.slice q3 L3.length d3)) w3):=(HQ.out _ _ (m2.fin (by rw[HR2.out,hs3];first|done|rfl) fr3 hp3 hU3 hO3));have hkk3:=HCL.out _ (qh m2.rb m2.rn fr3).1 (qh m2.xb m2.xn fr3).1)
   |fail)
 all_goals
  clear j1 j2 j3;go_wp2;exact hk3.out
theorem q5T{T0:Tr}{p:Nat}{vs:Value}{x bn bl:Nat}(c d f:Tr)(kr:KP (.bin (22,0) c d))(kf:KT f)(hS:InC T0 (.bin (modeO false,0) d f))(hc:WyQ T0 p vs x bn bl false c (.bin (modeO false,0) d f))(hd:WyQ T0 p vs x bn bl false d f):WyQ T0 p vs x bn bl false (.bin (22,0) c d) f:=by
 intro w F items M i k av cv s h hUs hls hbs hi hkf;obtain⟨op,pp,m,l,hop,hx,hm,hl⟩:∃op pp m l:Nat,op=22/\items[i]? =some ⟨op,pp,(m:Int),(l:Int)⟩/\Rep items m c/\Rep items l d:=by cases hi with|bin h h1 h2 h3 h4=>exact⟨_,0,_,_,rfl,h,h3,h4⟩
 obtain⟨F1,_,_,_,_,hrd⟩:=id h;obtain⟨G,rest,hpo⟩:=hrd.pg.part;obtain⟨a,n,cap,g,o,c0,hidx,x0,x1,x2,x3⟩:=(hpo.up (qc w (rdO p x bn bl))).at hx;obtain⟨m0,m00⟩:=qJ h op pp (m:Int) (l:Int);have hk0:=m0.cells;have hk00:=m00.cells;have HCL:Hid (∀w':World,w'.heap[w.heap.size]? =some (rdO p x bn bl)->w'.heap[w.heap.size+1]? =some (itO ⟨op,pp,(m:Int),(l:Int)⟩)->MidS p x bn bl w.heap.size (m:Int) (l:Int) w'):=fun w' e1 e2=>⟨⟨qb e1 0,qb e1 1,qb e1 2,qb e1 3⟩,qb e2 2,qb e2 3⟩
 have hbx:=(mha w (rdO p x bn bl)).1;have r0:(w.alloc (rdO p x bn bl)).cell? ⟨w.heap.size,0,none⟩=some (.pointer (some ⟨p,0,none⟩)):=qb hbx 0;have HI:=hiq hi;obtain⟨_,_,kc,kd⟩:=q1y kr;have HS:=hiq hS;have j1:=hd _ _ _ _ l k _ _ s m00.obj (hUs.fr m00.fr) hls hbs (hl) (hkf);unfold wyF at j1
 skip
 simp only[Bool.false_eq_true,if_false]at j1
 obtain⟨R,hR⟩:∃R,R=pthC false (.bin (22,0) c d) s f x M:=⟨_,rfl⟩
 have HR0:Hid (R=bindM (pthC false d s f x M) fun a M1=>pthC false c a (.bin (modeO false,0) d f) x M1):=by show _=_;rw[hR];exact qcP kr s f x M
 rw[<-hR];obtain⟨Q,hQ⟩:∃Q:Ending->World->Prop,Q=RetQ (RdO T0 p vs x bn bl) w F items M R:=⟨_,rfl⟩
 have HQ:Hid (∀e w',RetQ (RdO T0 p vs x bn bl) w F items M R e w'->Q e w'):=fun e w' h=>by rw[hQ];exact h
 rw[<-hQ];clear hrd hpo hR hQ hbx h hx hi;have n19:=nqf op 19 (by omega)
 have n20:=nqf op 20 (by omega)
 have n21:=nqf op 21 (by omega)
 have n22:((op:Int)==22)=true:=by rw[beq_iff_eq];omega
 clear hop;unfold wyF;simp only[Bool.false_eq_true,if_false]
 unfold boxW itO rdO MidS at *;unfold rdV at *;dsimp only at *
 go_enter Tryz.func178,Tryz.ntmps178
 go_wp2_with fail
 refine j1.mono ?_
 rintro e w1 ⟨F1,i1,fr1,hp1,⟨L1,M1,q1,d1,hs1,rfl,hU1,hO1⟩|⟨hs1,rfl,M1,hpm1,hO1⟩⟩
 case inr=>exact⟨rfl,HQ.out _ _ (m00.bad (by rw[HR0.out,hs1];first|done|rfl) fr1 hp1 hpm1 hO1)⟩
 have hr1:=HR0.out;rw[hs1]at hr1;dsimp only[bindM]at hr1
 have HR1:Hid _:=hr1;have l1:=q3p m00.good kd kf hbs hs1;have m1a:=m00.step fr1 hp1 hO1 l1.pre l1.good;have m1:=m1a.drew;have hk1:=HCL.out _ m1.rb m1.xb;have hk1a:=HCL.out _ m1a.rb m1a.xb;have hU1:US w1.drew F1 q1 L1.length d1 L1:=hU1.up (Below.refl _ _).drew;have j2:Calls Tryz.prog 182 #[.pointer (some ⟨p,0,none⟩),.int .u8 17,.int .i64 (l:Int),.int .i64 (k:Int)] w1.drew (KeptQ T0 p vs x bn bl w1.drew F1 i1 M1 (.bin (modeO false,0) d f)):=q3b m1.obj fun G rest hpo=>q1s hpo 17 (by decide) l k d f (hl.pre m1.hi) (hkf.pre m1.hi) HS.out
 clear j1 hr1 hk0 hk00 m0
 go_wp2_with fail
 go_region_held2 (fun w'=>(w'.cell? ⟨w.heap.size,0,none⟩=some (.pointer (some ⟨p,0,none⟩))/\w'.cell? ⟨w.heap.size,1,none⟩=some (.int .u8 (x:Int))/\w'.cell? ⟨w.heap.size,2,none⟩=some (.map (some bn))/\w'.cell? ⟨w.heap.size,3,none⟩=some (.map (some bl)))/\w'.cell? ⟨w.heap.size+1,2,none⟩=some (.int .i64 (m:Int))/\w'.cell? ⟨w.heap.size+1,3,none⟩=some (.int .i64 (l:Int))) (first|exact hk1|exact hk1a|assumption|fail) (first
   | (revert j2;intro j2;go_at_call 182;(with_reducible refine j2.mono ?_);rintro e w2 ⟨n2,i2,F2,rfl,hp2,hrep2,fr2,hO2⟩;have m2:=m1.step fr2 hp2 hO2 (List.prefix_refl _) m1.good;have hk2:=HCL.out _ m2.rb m2.xb;have HR2:Hid _:=HR1.out;have j3:=hc _ _ _ _ m n2 _ _ L1 m2.obj (hU1.fr fr2) l1.len l1.bd (hm.pre m2.hi) (hrep2);(try unfold wyF at j3);(try unfold rdV at j3);simp only[Bool.false_eq_true,if_false]at j3)
   | (revert j3;intro j3;go_at_call 178;(with_reducible refine j3.mono ?_);rintro e w3 ⟨F3,i3,fr3,hp3,⟨L3,M3,q3,d3,hs3,rfl,hU3,hO3⟩|⟨hs3,rfl,M3,hpm3,hO3⟩⟩;(case inr=>exact⟨rfl,HQ.out _ _ (m2.bad (by rw[HR2.out,hs3];first|done|rfl) fr3 hp3 hpm3 hO3)⟩);have hk3:Hid (Q (.returned (.slice q3 L3.length d3)) w3):=(HQ.out _ _ (m2.fin (by rw[HR2.out,hs3];first|done|rfl) fr3 hp3 hU3 hO3));have hkk3:=HCL.out _ (qh m2.rb m2.rn fr3).1 (qh m2.xb m2.xn fr3).1)
   |fail)
 all_goals
  clear j2 j3;go_wp2;exact hk3.out
theorem q5S{T0:Tr}{p:Nat}{vs:Value}{x bn bl:Nat}(c d f:Tr)(kr:KP (.bin (21,0) c d))(kf:KT f)(hc:WyQ T0 p vs x bn bl true c f)(hd:WyQ T0 p vs x bn bl true d f):WyQ T0 p vs x bn bl true (.bin (21,0) c d) f:=by
 intro w F items M i k av cv s h hUs hls hbs hi hkf;obtain⟨op,pp,m,l,hop,hx,hm,hl⟩:∃op pp m l:Nat,op=21/\items[i]? =some ⟨op,pp,(m:Int),(l:Int)⟩/\Rep items m c/\Rep items l d:=by cases hi with|bin h h1 h2 h3 h4=>exact⟨_,0,_,_,rfl,h,h3,h4⟩
 obtain⟨F1,_,_,_,_,hrd⟩:=id h;obtain⟨G,rest,hpo⟩:=hrd.pg.part;obtain⟨a,n,cap,g,o,c0,hidx,x0,x1,x2,x3⟩:=(hpo.up (qc w (rdO p x bn bl))).at hx;obtain⟨m0,m00⟩:=qJ h op pp (m:Int) (l:Int);have hk0:=m0.cells;have hk00:=m00.cells;have HCL:Hid (∀w':World,w'.heap[w.heap.size]? =some (rdO p x bn bl)->w'.heap[w.heap.size+1]? =some (itO ⟨op,pp,(m:Int),(l:Int)⟩)->MidS p x bn bl w.heap.size (m:Int) (l:Int) w'):=fun w' e1 e2=>⟨⟨qb e1 0,qb e1 1,qb e1 2,qb e1 3⟩,qb e2 2,qb e2 3⟩
 have hbx:=(mha w (rdO p x bn bl)).1;have r0:(w.alloc (rdO p x bn bl)).cell? ⟨w.heap.size,0,none⟩=some (.pointer (some ⟨p,0,none⟩)):=qb hbx 0;have HI:=hiq hi;have ls:LstH s:=⟨qT hbs m0.good.few,hls⟩;obtain⟨_,_,kc,kd⟩:=q1y kr;have j1:=hc _ _ _ _ m k _ _ s m0.obj (hUs.fr m0.fr) hls hbs (hm) (hkf);unfold wyF at j1
 skip
 simp only[if_true]at j1
 obtain⟨R,hR⟩:∃R,R=pthC true (.bin (21,0) c d) s f x M:=⟨_,rfl⟩
 have HR0:Hid (R=bindM (pthC true c s f x M) fun a M1=>bindM (pthC true d s f x M1) fun b M2=>twoM true a b M2):=by show _=_;rw[hR];exact qax kr s f x M
 rw[<-hR];obtain⟨Q,hQ⟩:∃Q:Ending->World->Prop,Q=RetQ (RdO T0 p vs x bn bl) w F items M R:=⟨_,rfl⟩
 have HQ:Hid (∀e w',RetQ (RdO T0 p vs x bn bl) w F items M R e w'->Q e w'):=fun e w' h=>by rw[hQ];exact h
 rw[<-hQ];clear hrd hpo hR hQ hbx h hx hi;have n19:=nqf op 19 (by omega)
 have n20:=nqf op 20 (by omega)
 have n21:((op:Int)==21)=true:=by rw[beq_iff_eq];omega
 clear hop;unfold wyF;simp only[if_true]
 unfold boxW itO rdO MidS at *;unfold rdV at *;dsimp only at *
 go_enter Tryz.func179,Tryz.ntmps179
 go_wp2_with fail
 go_region_held2 (fun w'=>(w'.cell? ⟨w.heap.size,0,none⟩=some (.pointer (some ⟨p,0,none⟩))/\w'.cell? ⟨w.heap.size,1,none⟩=some (.int .u8 (x:Int))/\w'.cell? ⟨w.heap.size,2,none⟩=some (.map (some bn))/\w'.cell? ⟨w.heap.size,3,none⟩=some (.map (some bl)))/\w'.cell? ⟨w.heap.size+1,2,none⟩=some (.int .i64 (m:Int))/\w'.cell? ⟨w.heap.size+1,3,none⟩=some (.int .i64 (l:Int))) (first|exact hk0|exact hk00|assumption|fail) (first
   | (revert j1;intro j1;go_at_call 179;(with_reducible refine j1.mono ?_);rintro e w1 ⟨F1,i1,fr1,hp1,⟨L1,M1,q1,d1,hs1,rfl,hU1,hO1⟩|⟨hs1,rfl,M1,hpm1,hO1⟩⟩;(case inr=>exact⟨rfl,HQ.out _ _ (m0.bad (by rw[HR0.out,hs1];first|done|rfl) fr1 hp1 hpm1 hO1)⟩);have hr1:=HR0.out;rw[hs1]at hr1;dsimp only[bindM]at hr1;have HR1:Hid _:=hr1;clear hr1;have l1:=q3p m0.good kc kf hbs hs1;have m1:=m0.step fr1 hp1 hO1 l1.pre l1.good;have hk1:=HCL.out _ m1.rb m1.xb;have j2:=hd _ _ _ _ l k _ _ s m1.obj (hUs.fr m1.fr) hls (hbs.mono m1.hM.length_le) (hl.pre m1.hi) (hkf.pre m1.hi);(try unfold wyF at j2);(try unfold rdV at j2);simp only[if_true]at j2)
   | (revert j2;intro j2;go_at_call 179;(with_reducible refine j2.mono ?_);rintro e w2 ⟨F2,i2,fr2,hp2,⟨L2,M2,q2,d2,hs2,rfl,hU2,hO2⟩|⟨hs2,rfl,M2,hpm2,hO2⟩⟩;(case inr=>exact⟨rfl,HQ.out _ _ (m1.bad (by rw[HR1.out,hs2];first|done|rfl) fr2 hp2 hpm2 hO2)⟩);have hr2:=HR1.out;rw[hs2]at hr2;dsimp only[bindM]at hr2;have HR2:Hid _:=hr2;clear hr2;have l2:=q3p m1.good kd kf (hbs.mono m1.hM.length_le) hs2;have m2:=m1.step fr2 hp2 hO2 l2.pre l2.good;have hk2:=HCL.out _ m2.rb m2.xb;have j3:=qH (qp T0 p vs x bn bl) true m2.obj (hU1.fr fr2) (hU2) l1.lst l2.lst;unfold twF at j3;simp only[if_true]at j3)
   | (revert j3;intro j3;go_at_call 125;(with_reducible refine j3.mono ?_);rintro e w3 ⟨F3,i3,fr3,hp3,⟨L3,M3,q3,d3,hs3,rfl,hU3,hO3⟩|⟨hs3,rfl,M3,hpm3,hO3⟩⟩;(case inr=>exact⟨rfl,HQ.out _ _ (m2.bad (by rw[HR2.out,hs3];first|done|rfl) fr3 hp3 hpm3 hO3)⟩);have hk3:Hid (Q (.returned (.slice q3 L3.length d3)) w3):=(HQ.out _ _ (m2.fin (by rw[HR2.out,hs3];first|done|rfl) fr3 hp3 hU3 hO3));have hkk3:=HCL.out _ (qh m2.rb m2.rn fr3).1 (qh m2.xb m2.xn fr3).1)
   |fail)
 all_goals
  clear j1 j2 j3;go_wp2;exact hk3.out
theorem q6D{T0:Tr}{p:Nat}{vs:Value}{x bn bl:Nat}(c d f:Tr)(kr:KP (.bin (22,0) c d))(kf:KT f)(hS:InC T0 (.bin (modeO true,0) d f))(hc:WyQ T0 p vs x bn bl true c (.bin (modeO true,0) d f))(hd:WyQ T0 p vs x bn bl true d f):WyQ T0 p vs x bn bl true (.bin (22,0) c d) f:=by
 intro w F items M i k av cv s h hUs hls hbs hi hkf;obtain⟨op,pp,m,l,hop,hx,hm,hl⟩:∃op pp m l:Nat,op=22/\items[i]? =some ⟨op,pp,(m:Int),(l:Int)⟩/\Rep items m c/\Rep items l d:=by cases hi with|bin h h1 h2 h3 h4=>exact⟨_,0,_,_,rfl,h,h3,h4⟩
 obtain⟨F1,_,_,_,_,hrd⟩:=id h;obtain⟨G,rest,hpo⟩:=hrd.pg.part;obtain⟨a,n,cap,g,o,c0,hidx,x0,x1,x2,x3⟩:=(hpo.up (qc w (rdO p x bn bl))).at hx;obtain⟨m0,m00⟩:=qJ h op pp (m:Int) (l:Int);have hk0:=m0.cells;have hk00:=m00.cells;have HCL:Hid (∀w':World,w'.heap[w.heap.size]? =some (rdO p x bn bl)->w'.heap[w.heap.size+1]? =some (itO ⟨op,pp,(m:Int),(l:Int)⟩)->MidS p x bn bl w.heap.size (m:Int) (l:Int) w'):=fun w' e1 e2=>⟨⟨qb e1 0,qb e1 1,qb e1 2,qb e1 3⟩,qb e2 2,qb e2 3⟩
 have hbx:=(mha w (rdO p x bn bl)).1;have r0:(w.alloc (rdO p x bn bl)).cell? ⟨w.heap.size,0,none⟩=some (.pointer (some ⟨p,0,none⟩)):=qb hbx 0;have HI:=hiq hi;obtain⟨_,_,kc,kd⟩:=q1y kr;have HS:=hiq hS;have j1:=hd _ _ _ _ l k _ _ s m00.obj (hUs.fr m00.fr) hls hbs (hl) (hkf);unfold wyF at j1
 skip
 simp only[if_true]at j1
 obtain⟨R,hR⟩:∃R,R=pthC true (.bin (22,0) c d) s f x M:=⟨_,rfl⟩
 have HR0:Hid (R=bindM (pthC true d s f x M) fun a M1=>pthC true c a (.bin (modeO true,0) d f) x M1):=by show _=_;rw[hR];exact qcP kr s f x M
 rw[<-hR];obtain⟨Q,hQ⟩:∃Q:Ending->World->Prop,Q=RetQ (RdO T0 p vs x bn bl) w F items M R:=⟨_,rfl⟩
 have HQ:Hid (∀e w',RetQ (RdO T0 p vs x bn bl) w F items M R e w'->Q e w'):=fun e w' h=>by rw[hQ];exact h
 rw[<-hQ];clear hrd hpo hR hQ hbx h hx hi;have n19:=nqf op 19 (by omega)
 have n20:=nqf op 20 (by omega)
 have n21:=nqf op 21 (by omega)
 have n22:((op:Int)==22)=true:=by rw[beq_iff_eq];omega
 clear hop;unfold wyF;simp only[if_true]
 unfold boxW itO rdO MidS at *;unfold rdV at *;dsimp only at *
 go_enter Tryz.func179,Tryz.ntmps179
 go_wp2_with fail
 refine j1.mono ?_
 rintro e w1 ⟨F1,i1,fr1,hp1,⟨L1,M1,q1,d1,hs1,rfl,hU1,hO1⟩|⟨hs1,rfl,M1,hpm1,hO1⟩⟩
 case inr=>exact⟨rfl,HQ.out _ _ (m00.bad (by rw[HR0.out,hs1];first|done|rfl) fr1 hp1 hpm1 hO1)⟩
 have hr1:=HR0.out;rw[hs1]at hr1;dsimp only[bindM]at hr1
 have HR1:Hid _:=hr1;have l1:=q3p m00.good kd kf hbs hs1;have m1a:=m00.step fr1 hp1 hO1 l1.pre l1.good;have m1:=m1a.drew;have hk1:=HCL.out _ m1.rb m1.xb;have hk1a:=HCL.out _ m1a.rb m1a.xb;have hU1:US w1.drew F1 q1 L1.length d1 L1:=hU1.up (Below.refl _ _).drew;have j2:Calls Tryz.prog 182 #[.pointer (some ⟨p,0,none⟩),.int .u8 18,.int .i64 (l:Int),.int .i64 (k:Int)] w1.drew (KeptQ T0 p vs x bn bl w1.drew F1 i1 M1 (.bin (modeO true,0) d f)):=q3b m1.obj fun G rest hpo=>q1s hpo 18 (by decide) l k d f (hl.pre m1.hi) (hkf.pre m1.hi) HS.out
 clear j1 hr1 hk0 hk00 m0
 go_wp2_with fail
 go_region_held2 (fun w'=>(w'.cell? ⟨w.heap.size,0,none⟩=some (.pointer (some ⟨p,0,none⟩))/\w'.cell? ⟨w.heap.size,1,none⟩=some (.int .u8 (x:Int))/\w'.cell? ⟨w.heap.size,2,none⟩=some (.map (some bn))/\w'.cell? ⟨w.heap.size,3,none⟩=some (.map (some bl)))/\w'.cell? ⟨w.heap.size+1,2,none⟩=some (.int .i64 (m:Int))/\w'.cell? ⟨w.heap.size+1,3,none⟩=some (.int .i64 (l:Int))) (first|exact hk1|exact hk1a|assumption|fail) (first
   | (revert j2;intro j2;go_at_call 182;(with_reducible refine j2.mono ?_);rintro e w2 ⟨n2,i2,F2,rfl,hp2,hrep2,fr2,hO2⟩;have m2:=m1.step fr2 hp2 hO2 (List.prefix_refl _) m1.good;have hk2:=HCL.out _ m2.rb m2.xb;have HR2:Hid _:=HR1.out;have j3:=hc _ _ _ _ m n2 _ _ L1 m2.obj (hU1.fr fr2) l1.len l1.bd (hm.pre m2.hi) (hrep2);(try unfold wyF at j3);(try unfold rdV at j3);simp only[if_true]at j3)
   | (revert j3;intro j3;go_at_call 179;(with_reducible refine j3.mono ?_);rintro e w3 ⟨F3,i3,fr3,hp3,⟨L3,M3,q3,d3,hs3,rfl,hU3,hO3⟩|⟨hs3,rfl,M3,hpm3,hO3⟩⟩;(case inr=>exact⟨rfl,HQ.out _ _ (m2.bad (by rw[HR2.out,hs3];first|done|rfl) fr3 hp3 hpm3 hO3)⟩);have hk3:Hid (Q (.returned (.slice q3 L3.length d3)) w3):=(HQ.out _ _ (m2.fin (by rw[HR2.out,hs3];first|done|rfl) fr3 hp3 hU3 hO3));have hkk3:=HCL.out _ (qh m2.rb m2.rn fr3).1 (qh m2.xb m2.xn fr3).1)
   |fail)
 all_goals
  clear j2 j3;go_wp2;exact hk3.out
theorem q5G{T0:Tr}{p:Nat}{vs:Value}{x bn bl:Nat}(c f:Tr)(kr:KP (.un (23,0) c))(kf:KT f)(hS:InC T0 (.bin (modeO false,0) (.un (23,0) c) f))(hc:WyQ T0 p vs x bn bl false c (.bin (modeO false,0) (.un (23,0) c) f)):WyQ T0 p vs x bn bl false (.un (23,0) c) f:=by
 intro w F items M i k av cv s h hUs hls hbs hi hkf;obtain⟨op,pp,m,hop,hx,hm⟩:∃op pp m:Nat,op=23/\items[i]? =some ⟨op,pp,(m:Int),-1⟩/\Rep items m c:=by cases hi with|un h h1 h2=>exact⟨_,0,_,rfl,h,h2⟩
 obtain⟨F1,_,_,_,_,hrd⟩:=id h;obtain⟨G,rest,hpo⟩:=hrd.pg.part;obtain⟨a,n,cap,g,o,c0,hidx,x0,x1,x2,x3⟩:=(hpo.up (qc w (rdO p x bn bl))).at hx;obtain⟨m0,m00⟩:=qJ h op pp (m:Int) (-1);have hk0:=m0.cells;have hk00:=m00.cells;have HCL:Hid (∀w':World,w'.heap[w.heap.size]? =some (rdO p x bn bl)->w'.heap[w.heap.size+1]? =some (itO ⟨op,pp,(m:Int),(-1)⟩)->MidS p x bn bl w.heap.size (m:Int) (-1) w'):=fun w' e1 e2=>⟨⟨qb e1 0,qb e1 1,qb e1 2,qb e1 3⟩,qb e2 2,qb e2 3⟩
 have hbx:=(mha w (rdO p x bn bl)).1;have r0:(w.alloc (rdO p x bn bl)).cell? ⟨w.heap.size,0,none⟩=some (.pointer (some ⟨p,0,none⟩)):=qb hbx 0;have HI:=hiq hi;have ls:LstH s:=⟨qT hbs m0.good.few,hls⟩
 have kc:KP c:=by
  rcases kp_un kr with⟨_,⟨h6,_⟩|⟨h6,_⟩|⟨_,h6⟩⟩
  ·cases h6
  ·cases h6
  ·exact h6
 have HS:=hiq hS;have HKM:Hid (KT (.bin (modeO false,0) (.un (23,0) c) f)):=q2E kr kf false;have j1:Calls Tryz.prog 182 #[.pointer (some ⟨p,0,none⟩),.int .u8 17,.int .i64 (i:Int),.int .i64 (k:Int)] (boxW w p x bn bl op pp (m:Int) (-1)).drew (KeptQ T0 p vs x bn bl (boxW w p x bn bl op pp (m:Int) (-1)).drew F items M (.bin (modeO false,0) (.un (23,0) c) f)):=q3b m0.obj fun G rest hpo=>q1s hpo 17 (by decide) i k (.un (23,0) c) f (HI.out.pre m0.hi) (hkf.pre m0.hi) HS.out
 obtain⟨R,hR⟩:∃R,R=pthC false (.un (23,0) c) s f x M:=⟨_,rfl⟩
 have HR0:Hid (R=bindM (pthC false c [] (.bin (modeO false,0) (.un (23,0) c) f) x M) fun a M1=>twoM false s a M1):=by show _=_;rw[hR];exact qay kr s f x M
 rw[<-hR];obtain⟨Q,hQ⟩:∃Q:Ending->World->Prop,Q=RetQ (RdO T0 p vs x bn bl) w F items M R:=⟨_,rfl⟩
 have HQ:Hid (∀e w',RetQ (RdO T0 p vs x bn bl) w F items M R e w'->Q e w'):=fun e w' h=>by rw[hQ];exact h
 rw[<-hQ];clear hrd hpo hR hQ hbx h hx hi;have n19:=nqf op 19 (by omega)
 have n20:=nqf op 20 (by omega)
 have n21:=nqf op 21 (by omega)
 have n22:=nqf op 22 (by omega)
 clear hop;unfold wyF;simp only[Bool.false_eq_true,if_false]
 unfold boxW itO rdO MidS at *;unfold rdV at *;dsimp only at *
 go_enter Tryz.func178,Tryz.ntmps178
 go_wp2_with fail
 go_region_held2 (fun w'=>(w'.cell? ⟨w.heap.size,0,none⟩=some (.pointer (some ⟨p,0,none⟩))/\w'.cell? ⟨w.heap.size,1,none⟩=some (.int .u8 (x:Int))/\w'.cell? ⟨w.heap.size,2,none⟩=some (.map (some bn))/\w'.cell? ⟨w.heap.size,3,none⟩=some (.map (some bl)))/\w'.cell? ⟨w.heap.size+1,2,none⟩=some (.int .i64 (m:Int))/\w'.cell? ⟨w.heap.size+1,3,none⟩=some (.int .i64 (-1))) (first|exact hk0|exact hk00|assumption|fail) (first
   | (revert j1;intro j1;go_at_call 182;(with_reducible refine j1.mono ?_);rintro e w1 ⟨n1,i1,F1,rfl,hp1,hrep1,fr1,hO1⟩;have m1:=m0.step fr1 hp1 hO1 (List.prefix_refl _) m0.good;have hk1:=HCL.out _ m1.rb m1.xb;have HR1:Hid _:=HR0.out;have j2:=hc _ _ _ _ m n1 _ _ [] m1.obj (qfx _ _) (by simp) (q1j false _) (hm.pre m1.hi) (hrep1);(try unfold wyF at j2);(try unfold rdV at j2);simp only[Bool.false_eq_true,if_false,List.length_nil]at j2)
   | (revert j2;intro j2;go_at_call 178;(with_reducible refine j2.mono ?_);rintro e w2 ⟨F2,i2,fr2,hp2,⟨L2,M2,q2,d2,hs2,rfl,hU2,hO2⟩|⟨hs2,rfl,M2,hpm2,hO2⟩⟩;(case inr=>exact⟨rfl,HQ.out _ _ (m1.bad (by rw[HR1.out,hs2];first|done|rfl) fr2 hp2 hpm2 hO2)⟩);have hr2:=HR1.out;rw[hs2]at hr2;dsimp only[bindM]at hr2;have HR2:Hid _:=hr2;clear hr2;have l2:=q3p m1.good kc HKM.out (q1j false _) hs2;have m2:=m1.step fr2 hp2 hO2 l2.pre l2.good;have hk2:=HCL.out _ m2.rb m2.xb;have j3:=qH (qp T0 p vs x bn bl) false m2.obj (hUs.fr m2.fr) (hU2) ls l2.lst;unfold twF at j3;simp only[Bool.false_eq_true,if_false]at j3)
   | (revert j3;intro j3;go_at_call 126;(with_reducible refine j3.mono ?_);rintro e w3 ⟨F3,i3,fr3,hp3,⟨L3,M3,q3,d3,hs3,rfl,hU3,hO3⟩|⟨hs3,rfl,M3,hpm3,hO3⟩⟩;(case inr=>exact⟨rfl,HQ.out _ _ (m2.bad (by rw[HR2.out,hs3];first|done|rfl) fr3 hp3 hpm3 hO3)⟩);have hk3:Hid (Q (.returned (.slice q3 L3.length d3)) w3):=(HQ.out _ _ (m2.fin (by rw[HR2.out,hs3];first|done|rfl) fr3 hp3 hU3 hO3));have hkk3:=HCL.out _ (qh m2.rb m2.rn fr3).1 (qh m2.xb m2.xn fr3).1)
   |fail)
 all_goals
  clear j1 j2 j3;go_wp2;exact hk3.out
theorem q5U{T0:Tr}{p:Nat}{vs:Value}{x bn bl:Nat}(c f:Tr)(kr:KP (.un (23,0) c))(kf:KT f)(hS:InC T0 (.bin (modeO true,0) (.un (23,0) c) f))(hc:WyQ T0 p vs x bn bl true c (.bin (modeO true,0) (.un (23,0) c) f)):WyQ T0 p vs x bn bl true (.un (23,0) c) f:=by
 intro w F items M i k av cv s h hUs hls hbs hi hkf;obtain⟨op,pp,m,hop,hx,hm⟩:∃op pp m:Nat,op=23/\items[i]? =some ⟨op,pp,(m:Int),-1⟩/\Rep items m c:=by cases hi with|un h h1 h2=>exact⟨_,0,_,rfl,h,h2⟩
 obtain⟨F1,_,_,_,_,hrd⟩:=id h;obtain⟨G,rest,hpo⟩:=hrd.pg.part;obtain⟨a,n,cap,g,o,c0,hidx,x0,x1,x2,x3⟩:=(hpo.up (qc w (rdO p x bn bl))).at hx;obtain⟨m0,m00⟩:=qJ h op pp (m:Int) (-1);have hk0:=m0.cells;have hk00:=m00.cells;have HCL:Hid (∀w':World,w'.heap[w.heap.size]? =some (rdO p x bn bl)->w'.heap[w.heap.size+1]? =some (itO ⟨op,pp,(m:Int),(-1)⟩)->MidS p x bn bl w.heap.size (m:Int) (-1) w'):=fun w' e1 e2=>⟨⟨qb e1 0,qb e1 1,qb e1 2,qb e1 3⟩,qb e2 2,qb e2 3⟩
 have hbx:=(mha w (rdO p x bn bl)).1;have r0:(w.alloc (rdO p x bn bl)).cell? ⟨w.heap.size,0,none⟩=some (.pointer (some ⟨p,0,none⟩)):=qb hbx 0;have HI:=hiq hi;have ls:LstH s:=⟨qT hbs m0.good.few,hls⟩
 have kc:KP c:=by
  rcases kp_un kr with⟨_,⟨h6,_⟩|⟨h6,_⟩|⟨_,h6⟩⟩
  ·cases h6
  ·cases h6
  ·exact h6
 have HS:=hiq hS;have HKM:Hid (KT (.bin (modeO true,0) (.un (23,0) c) f)):=q2E kr kf true;have j1:=q5A (boxW w p x bn bl op pp (m:Int) (-1)).drew;obtain⟨R,hR⟩:∃R,R=pthC true (.un (23,0) c) s f x M:=⟨_,rfl⟩
 have HR0:Hid (R=bindM (pthC true c [0] (.bin (modeO true,0) (.un (23,0) c) f) x M) fun a M1=>twoM true s a M1):=by show _=_;rw[hR];exact qay kr s f x M
 rw[<-hR];obtain⟨Q,hQ⟩:∃Q:Ending->World->Prop,Q=RetQ (RdO T0 p vs x bn bl) w F items M R:=⟨_,rfl⟩
 have HQ:Hid (∀e w',RetQ (RdO T0 p vs x bn bl) w F items M R e w'->Q e w'):=fun e w' h=>by rw[hQ];exact h
 rw[<-hQ];clear hrd hpo hR hQ hbx h hx hi;have n19:=nqf op 19 (by omega)
 have n20:=nqf op 20 (by omega)
 have n21:=nqf op 21 (by omega)
 have n22:=nqf op 22 (by omega)
 clear hop;unfold wyF;simp only[if_true]
 unfold boxW itO rdO MidS at *;unfold rdV at *;dsimp only at *
 go_enter Tryz.func179,Tryz.ntmps179
 go_wp2_with fail
 go_region_held2 (fun w'=>(w'.cell? ⟨w.heap.size,0,none⟩=some (.pointer (some ⟨p,0,none⟩))/\w'.cell? ⟨w.heap.size,1,none⟩=some (.int .u8 (x:Int))/\w'.cell? ⟨w.heap.size,2,none⟩=some (.map (some bn))/\w'.cell? ⟨w.heap.size,3,none⟩=some (.map (some bl)))/\w'.cell? ⟨w.heap.size+1,2,none⟩=some (.int .i64 (m:Int))/\w'.cell? ⟨w.heap.size+1,3,none⟩=some (.int .i64 (-1))) (first|exact hk0|exact hk00|assumption|fail) (first
   | (revert j1;intro j1;go_at_call 124;(with_reducible refine j1.mono ?_);rintro e w1 ⟨q1,C1,rfl,hU1,hb1,hf1⟩;have m1:=m0.step (Fr.ofBelow hb1) (List.prefix_refl _) ((qp T0 p vs x bn bl).up m0.obj hb1) (List.prefix_refl _) m0.good;have hU1:US w1 F q1 [0].length C1 [0]:=(⟨hU1,fun k hk hF=>(by have:=hf1 k hk;have:=(qp T0 p vs x bn bl).lt m0.obj _ hF;omega)⟩);have hk1:=HCL.out _ m1.rb m1.xb;have HR1:Hid _:=HR0.out;have j2:Calls Tryz.prog 182 #[.pointer (some ⟨p,0,none⟩),.int .u8 18,.int .i64 (i:Int),.int .i64 (k:Int)] w1 (KeptQ T0 p vs x bn bl w1 F items M (.bin (modeO true,0) (.un (23,0) c) f)):=q3b m1.obj fun G rest hpo=>q1s hpo 18 (by decide) i k (.un (23,0) c) f (HI.out.pre m1.hi) (hkf.pre m1.hi) HS.out)
   | (revert j2;intro j2;go_at_call 182;(with_reducible refine j2.mono ?_);rintro e w2 ⟨n2,i2,F2,rfl,hp2,hrep2,fr2,hO2⟩;have m2:=m1.step fr2 hp2 hO2 (List.prefix_refl _) m1.good;have hk2:=HCL.out _ m2.rb m2.xb;have HR2:Hid _:=HR1.out;have j3:=hc _ _ _ _ m n2 _ _ [0] m2.obj (hU1.fr fr2) (by simp) (q9F _) (hm.pre m2.hi) (hrep2);(try unfold wyF at j3);(try unfold rdV at j3);simp only[if_true,List.length_cons,List.length_nil,Nat.zero_add]at j3)
   | (revert j3;intro j3;go_at_call 179;(with_reducible refine j3.mono ?_);rintro e w3 ⟨F3,i3,fr3,hp3,⟨L3,M3,q3,d3,hs3,rfl,hU3,hO3⟩|⟨hs3,rfl,M3,hpm3,hO3⟩⟩;(case inr=>exact⟨rfl,HQ.out _ _ (m2.bad (by rw[HR2.out,hs3];first|done|rfl) fr3 hp3 hpm3 hO3)⟩);have hr3:=HR2.out;rw[hs3]at hr3;dsimp only[bindM]at hr3;have HR3:Hid _:=hr3;clear hr3;have l3:=q3p m2.good kc HKM.out (q9F _) hs3;have m3:=m2.step fr3 hp3 hO3 l3.pre l3.good;have hk3:=HCL.out _ m3.rb m3.xb;have j4:=qH (qp T0 p vs x bn bl) true m3.obj (hUs.fr m3.fr) (hU3) ls l3.lst;unfold twF at j4;simp only[if_true]at j4)
   | (revert j4;intro j4;go_at_call 125;(with_reducible refine j4.mono ?_);rintro e w4 ⟨F4,i4,fr4,hp4,⟨L4,M4,q4,d4,hs4,rfl,hU4,hO4⟩|⟨hs4,rfl,M4,hpm4,hO4⟩⟩;(case inr=>exact⟨rfl,HQ.out _ _ (m3.bad (by rw[HR3.out,hs4];first|done|rfl) fr4 hp4 hpm4 hO4)⟩);have hk4:Hid (Q (.returned (.slice q4 L4.length d4)) w4):=(HQ.out _ _ (m3.fin (by rw[HR3.out,hs4];first|done|rfl) fr4 hp4 hU4 hO4));have hkk4:=HCL.out _ (qh m3.rb m3.rn fr4).1 (qh m3.xb m3.xn fr4).1)
   |fail)
 all_goals
  clear j1 j2 j3 j4;go_wp2;exact hk4.out
theorem q5I{T0:Tr}{p:Nat}{vs:Value}{x bn bl:Nat}(c f:Tr)(kr:KP (.un (20,0) c))(_:KT f)(hc:LvQ T0 p vs x bn bl 155 c):WyQ T0 p vs x bn bl false (.un (20,0) c) f:=by
 intro w F items M i k av cv s h hUs hls hbs hi hkf;obtain⟨op,pp,m,hop,hx,hm⟩:∃op pp m:Nat,op=20/\items[i]? =some ⟨op,pp,(m:Int),-1⟩/\Rep items m c:=by cases hi with|un h h1 h2=>exact⟨_,0,_,rfl,h,h2⟩
 obtain⟨F1,_,_,_,_,hrd⟩:=id h;obtain⟨G,rest,hpo⟩:=hrd.pg.part;obtain⟨a,n,cap,g,o,c0,hidx,x0,x1,x2,x3⟩:=(hpo.up (qc w (rdO p x bn bl))).at hx;obtain⟨m0,m00⟩:=qJ h op pp (m:Int) (-1);have hk0:=m0.cells;have hk00:=m00.cells;have HCL:Hid (∀w':World,w'.heap[w.heap.size]? =some (rdO p x bn bl)->w'.heap[w.heap.size+1]? =some (itO ⟨op,pp,(m:Int),(-1)⟩)->MidS p x bn bl w.heap.size (m:Int) (-1) w'):=fun w' e1 e2=>⟨⟨qb e1 0,qb e1 1,qb e1 2,qb e1 3⟩,qb e2 2,qb e2 3⟩
 have hbx:=(mha w (rdO p x bn bl)).1;have r0:(w.alloc (rdO p x bn bl)).cell? ⟨w.heap.size,0,none⟩=some (.pointer (some ⟨p,0,none⟩)):=qb hbx 0;have HI:=hiq hi;have ls:LstH s:=⟨qT hbs m0.good.few,hls⟩
 have kc:KT c:=by
  rcases kp_un kr with⟨_,⟨h6,_⟩|⟨_,h6⟩|⟨h6,_⟩⟩
  ·cases h6
  ·exact h6
  ·cases h6
 have j1:=hc _ F items M m m00.obj hm;obtain⟨R,hR⟩:∃R,R=pthC false (.un (20,0) c) s f x M:=⟨_,rfl⟩
 have HR0:Hid (R=bindM (aftC c x M) fun a M1=>twoM true a s M1):=by show _=_;rw[hR];exact qaA kr s f x M
 rw[<-hR];obtain⟨Q,hQ⟩:∃Q:Ending->World->Prop,Q=RetQ (RdO T0 p vs x bn bl) w F items M R:=⟨_,rfl⟩
 have HQ:Hid (∀e w',RetQ (RdO T0 p vs x bn bl) w F items M R e w'->Q e w'):=fun e w' h=>by rw[hQ];exact h
 rw[<-hQ];clear hrd hpo hR hQ hbx h hx hi;have n19:=nqf op 19 (by omega)
 have n20:((op:Int)==20)=true:=by rw[beq_iff_eq];omega
 clear hop;unfold wyF;simp only[Bool.false_eq_true,if_false]
 unfold boxW itO rdO MidS at *;unfold rdV at *;dsimp only at *
 go_enter Tryz.func178,Tryz.ntmps178
 go_wp2_with fail
 refine j1.mono ?_
 rintro e w1 ⟨F1,i1,fr1,hp1,⟨L1,M1,q1,d1,hs1,rfl,hU1,hO1⟩|⟨hs1,rfl,M1,hpm1,hO1⟩⟩
 case inr=>exact⟨rfl,HQ.out _ _ (m00.bad (by rw[HR0.out,hs1];first|done|rfl) fr1 hp1 hpm1 hO1)⟩
 have hr1:=HR0.out;rw[hs1]at hr1;dsimp only[bindM]at hr1
 have HR1:Hid _:=hr1;have l1:=q1H m00.good kc hs1;have m1:=m00.step fr1 hp1 hO1 l1.pre l1.good;have j2:=qH (qp T0 p vs x bn bl) true m1.obj (hU1) (hUs.fr m1.fr) l1.lst ls;unfold twF at j2;simp only[if_true]at j2
 clear j1 hr1 hk0 hk00
 go_wp2_with fail
 refine j2.mono ?_
 rintro e w2 ⟨F2,i2,fr2,hp2,⟨L2,M2,q2,d2,hs2,rfl,hU2,hO2⟩|⟨hs2,rfl,M2,hpm2,hO2⟩⟩
 case inr=>exact⟨rfl,HQ.out _ _ (m1.bad (by rw[HR1.out,hs2]) fr2 hp2 hpm2 hO2)⟩
 have HE:Hid (Q (.returned (.slice q2 L2.length d2)) w2):=HQ.out _ _ (m1.fin (by rw[HR1.out,hs2]) fr2 hp2 hU2 hO2)
 clear j2;go_wp2;exact HE.out
theorem q5W{T0:Tr}{p:Nat}{vs:Value}{x bn bl:Nat}(c f:Tr)(kr:KP (.un (20,0) c))(_:KT f)(hin:c∈subL T0)(hc:LvQ T0 p vs x bn bl 155 (kTr c).2):WyQ T0 p vs x bn bl true (.un (20,0) c) f:=by
 intro w F items M i k av cv s h hUs hls hbs hi hkf;obtain⟨op,pp,m,hop,hx,hm⟩:∃op pp m:Nat,op=20/\items[i]? =some ⟨op,pp,(m:Int),-1⟩/\Rep items m c:=by cases hi with|un h h1 h2=>exact⟨_,0,_,rfl,h,h2⟩
 obtain⟨F1,_,_,_,_,hrd⟩:=id h;obtain⟨G,rest,hpo⟩:=hrd.pg.part;obtain⟨a,n,cap,g,o,c0,hidx,x0,x1,x2,x3⟩:=(hpo.up (qc w (rdO p x bn bl))).at hx;obtain⟨m0,m00⟩:=qJ h op pp (m:Int) (-1);have hk0:=m0.cells;have hk00:=m00.cells;have HCL:Hid (∀w':World,w'.heap[w.heap.size]? =some (rdO p x bn bl)->w'.heap[w.heap.size+1]? =some (itO ⟨op,pp,(m:Int),(-1)⟩)->MidS p x bn bl w.heap.size (m:Int) (-1) w'):=fun w' e1 e2=>⟨⟨qb e1 0,qb e1 1,qb e1 2,qb e1 3⟩,qb e2 2,qb e2 3⟩
 have hbx:=(mha w (rdO p x bn bl)).1;have r0:(w.alloc (rdO p x bn bl)).cell? ⟨w.heap.size,0,none⟩=some (.pointer (some ⟨p,0,none⟩)):=qb hbx 0;have HI:=hiq hi;have ls:LstH s:=⟨qT hbs m0.good.few,hls⟩
 have kc:KT c:=by
  rcases kp_un kr with⟨_,⟨h6,_⟩|⟨_,h6⟩|⟨h6,_⟩⟩
  ·cases h6
  ·exact h6
  ·cases h6
 have HC2:=hiq hc;have HKN:Hid (KT (kTr c).2):=q3m kc;have j1:Calls Tryz.prog 183 #[.pointer (some ⟨p,0,none⟩),.int .i64 (m:Int)] (boxW w p x bn bl op pp (m:Int) (-1)).drew (KeptQ T0 p vs x bn bl (boxW w p x bn bl op pp (m:Int) (-1)).drew F items M (kTr c).2):=q3b m0.obj fun G rest hpo=>q29 c kc hin items m hm _ _ _ (List.prefix_refl _) hpo
 obtain⟨R,hR⟩:∃R,R=pthC true (.un (20,0) c) s f x M:=⟨_,rfl⟩
 have HR0:Hid (R=bindM (aftC (kTr c).2 x M) fun a M1=>twoM false a s M1):=by show _=_;rw[hR];exact qaA kr s f x M
 rw[<-hR];obtain⟨Q,hQ⟩:∃Q:Ending->World->Prop,Q=RetQ (RdO T0 p vs x bn bl) w F items M R:=⟨_,rfl⟩
 have HQ:Hid (∀e w',RetQ (RdO T0 p vs x bn bl) w F items M R e w'->Q e w'):=fun e w' h=>by rw[hQ];exact h
 rw[<-hQ];clear hrd hpo hR hQ hbx h hx hi;have n19:=nqf op 19 (by omega)
 have n20:((op:Int)==20)=true:=by rw[beq_iff_eq];omega
 clear hop;unfold wyF;simp only[if_true]
 unfold boxW itO rdO MidS at *;unfold rdV at *;dsimp only at *
 go_enter Tryz.func179,Tryz.ntmps179
 go_wp2_with fail
 go_region_held2 (fun w'=>(w'.cell? ⟨w.heap.size,0,none⟩=some (.pointer (some ⟨p,0,none⟩))/\w'.cell? ⟨w.heap.size,1,none⟩=some (.int .u8 (x:Int))/\w'.cell? ⟨w.heap.size,2,none⟩=some (.map (some bn))/\w'.cell? ⟨w.heap.size,3,none⟩=some (.map (some bl)))/\w'.cell? ⟨w.heap.size+1,2,none⟩=some (.int .i64 (m:Int))/\w'.cell? ⟨w.heap.size+1,3,none⟩=some (.int .i64 (-1))) (first|exact hk0|exact hk00|assumption|fail) (first
   | (revert j1;intro j1;go_at_call 183;(with_reducible refine j1.mono ?_);rintro e w1 ⟨n1,i1,F1,rfl,hp1,hrep1,fr1,hO1⟩;have m1:=m0.step fr1 hp1 hO1 (List.prefix_refl _) m0.good;have hk1:=HCL.out _ m1.rb m1.xb;have HR1:Hid _:=HR0.out;have j2:=HC2.out _ F1 i1 M n1 m1.obj hrep1;(try unfold rdV at j2))
   | (revert j2;intro j2;go_at_call 155;(with_reducible refine j2.mono ?_);rintro e w2 ⟨F2,i2,fr2,hp2,⟨L2,M2,q2,d2,hs2,rfl,hU2,hO2⟩|⟨hs2,rfl,M2,hpm2,hO2⟩⟩;(case inr=>exact⟨rfl,HQ.out _ _ (m1.bad (by rw[HR1.out,hs2];first|done|rfl) fr2 hp2 hpm2 hO2)⟩);have hr2:=HR1.out;rw[hs2]at hr2;dsimp only[bindM]at hr2;have HR2:Hid _:=hr2;clear hr2;have l2:=q1H m1.good HKN.out hs2;have m2:=m1.step fr2 hp2 hO2 l2.pre l2.good;have hk2:=HCL.out _ m2.rb m2.xb;have j3:=qH (qp T0 p vs x bn bl) false m2.obj (hU2) (hUs.fr m2.fr) l2.lst ls;unfold twF at j3;simp only[Bool.false_eq_true,if_false]at j3)
   | (revert j3;intro j3;go_at_call 126;(with_reducible refine j3.mono ?_);rintro e w3 ⟨F3,i3,fr3,hp3,⟨L3,M3,q3,d3,hs3,rfl,hU3,hO3⟩|⟨hs3,rfl,M3,hpm3,hO3⟩⟩;(case inr=>exact⟨rfl,HQ.out _ _ (m2.bad (by rw[HR2.out,hs3];first|done|rfl) fr3 hp3 hpm3 hO3)⟩);have hk3:Hid (Q (.returned (.slice q3 L3.length d3)) w3):=(HQ.out _ _ (m2.fin (by rw[HR2.out,hs3];first|done|rfl) fr3 hp3 hU3 hO3));have hkk3:=HCL.out _ (qh m2.rb m2.rn fr3).1 (qh m2.xb m2.xn fr3).1)
   |fail)
 all_goals
  clear j1 j2 j3;go_wp2;exact hk3.out
theorem q5H{T0:Tr}{p:Nat}{vs:Value}{x bn bl:Nat}(c f:Tr)(kr:KP (.un (19,0) c))(kf:KT f)(hS:InC T0 f)(hc:LvQ T0 p vs x bn bl 155 c):WyQ T0 p vs x bn bl false (.un (19,0) c) f:=by
 intro w F items M i k av cv s h hUs hls hbs hi hkf;obtain⟨op,pp,m,hop,hx,hm⟩:∃op pp m:Nat,op=19/\items[i]? =some ⟨op,pp,(m:Int),-1⟩/\Rep items m c:=by cases hi with|un h h1 h2=>exact⟨_,0,_,rfl,h,h2⟩
 obtain⟨F1,_,_,_,_,hrd⟩:=id h;obtain⟨G,rest,hpo⟩:=hrd.pg.part;obtain⟨a,n,cap,g,o,c0,hidx,x0,x1,x2,x3⟩:=(hpo.up (qc w (rdO p x bn bl))).at hx;obtain⟨m0,m00⟩:=qJ h op pp (m:Int) (-1);have hk0:=m0.cells;have hk00:=m00.cells;have HCL:Hid (∀w':World,w'.heap[w.heap.size]? =some (rdO p x bn bl)->w'.heap[w.heap.size+1]? =some (itO ⟨op,pp,(m:Int),(-1)⟩)->MidS p x bn bl w.heap.size (m:Int) (-1) w'):=fun w' e1 e2=>⟨⟨qb e1 0,qb e1 1,qb e1 2,qb e1 3⟩,qb e2 2,qb e2 3⟩
 have hbx:=(mha w (rdO p x bn bl)).1;have r0:(w.alloc (rdO p x bn bl)).cell? ⟨w.heap.size,0,none⟩=some (.pointer (some ⟨p,0,none⟩)):=qb hbx 0;have HI:=hiq hi;obtain⟨kc,pc⟩:=q6n kr;have jf:=q4z m00.obj m c hm kc pc hc;obtain⟨R,hR⟩:∃R,R=pthC false (.un (19,0) c) s f x M:=⟨_,rfl⟩
 have HR0:Hid (R=if plV x c then needM f M else some (yesM false,M)):=by show _=_;rw[hR];exact qaz false c s f x M
 rw[<-hR];obtain⟨Q,hQ⟩:∃Q:Ending->World->Prop,Q=RetQ (RdO T0 p vs x bn bl) w F items M R:=⟨_,rfl⟩
 have HQ:Hid (∀e w',RetQ (RdO T0 p vs x bn bl) w F items M R e w'->Q e w'):=fun e w' h=>by rw[hQ];exact h
 rw[<-hQ];clear hrd hpo hR hQ hbx h hx hi;have n19:((op:Int)==19)=true:=by rw[beq_iff_eq];omega
 clear hop;unfold wyF;simp only[Bool.false_eq_true,if_false]
 unfold boxW itO rdO MidS at *;unfold rdV at *;dsimp only at *
 go_enter Tryz.func178,Tryz.ntmps178
 go_wp2_with fail
 refine jf.mono ?_
 rintro e w1 ⟨rfl,F1,i1,fr1,hp1,hO1⟩
 have m1:=m00.step fr1 hp1 hO1 (List.prefix_refl _) m00.good;obtain⟨⟨t0,t1,t2,t3⟩,_⟩:=HCL.out _ m1.rb m1.xb
 cases hv:plV x c with
 |true=>
  have hr1:=HR0.out;rw[hv,if_pos rfl]at hr1;have HR1:Hid _:=hr1;have j2:=qU m1.obj k f (hkf.pre m1.hi) kf hS
  (try unfold rdV at j2)
  clear jf hr1 hk0 hk00 hv
  go_wp2_with fail
  refine j2.mono ?_
  rintro e w2 ⟨F2,i2,fr2,hp2,⟨L2,M2,q2,d2,hs2,rfl,hU2,hO2⟩|⟨hs2,rfl,M2,hpm2,hO2⟩⟩
  case inr=>exact⟨rfl,HQ.out _ _ (m1.bad (by rw[HR1.out,hs2]) fr2 hp2 hpm2 hO2)⟩
  have HE:Hid (Q (.returned (.slice q2 L2.length d2)) w2):=HQ.out _ _ (m1.fin (by rw[HR1.out,hs2]) fr2 hp2 hU2 hO2)
  clear j2;go_wp2;exact HE.out
 |false=>
  have hr1:=HR0.out;rw[hv,if_neg (by decide)]at hr1
  have HN:Hid (∀e w',NewL (yesM false) w1 e w'->Q e w'):=fun e w' hn=>HQ.out e w' (by rw[hr1];exact(q4O (qp T0 p vs x bn bl) m1.obj hn).after m1.fr m1.hi (List.prefix_refl _))
  clear jf hr1 hk0 hk00 hv;have HE:Hid (Q (.returned (.slice none 0 0)) w1):=HN.out _ _ (q3U _ _ (Below.refl _ _));go_wp2;exact HE.out
theorem q5V{T0:Tr}{p:Nat}{vs:Value}{x bn bl:Nat}(c f:Tr)(kr:KP (.un (19,0) c))(kf:KT f)(hS:InC T0 f)(hc:LvQ T0 p vs x bn bl 155 c):WyQ T0 p vs x bn bl true (.un (19,0) c) f:=by
 intro w F items M i k av cv s h hUs hls hbs hi hkf;obtain⟨op,pp,m,hop,hx,hm⟩:∃op pp m:Nat,op=19/\items[i]? =some ⟨op,pp,(m:Int),-1⟩/\Rep items m c:=by cases hi with|un h h1 h2=>exact⟨_,0,_,rfl,h,h2⟩
 obtain⟨F1,_,_,_,_,hrd⟩:=id h;obtain⟨G,rest,hpo⟩:=hrd.pg.part;obtain⟨a,n,cap,g,o,c0,hidx,x0,x1,x2,x3⟩:=(hpo.up (qc w (rdO p x bn bl))).at hx;obtain⟨m0,m00⟩:=qJ h op pp (m:Int) (-1);have hk0:=m0.cells;have hk00:=m00.cells;have HCL:Hid (∀w':World,w'.heap[w.heap.size]? =some (rdO p x bn bl)->w'.heap[w.heap.size+1]? =some (itO ⟨op,pp,(m:Int),(-1)⟩)->MidS p x bn bl w.heap.size (m:Int) (-1) w'):=fun w' e1 e2=>⟨⟨qb e1 0,qb e1 1,qb e1 2,qb e1 3⟩,qb e2 2,qb e2 3⟩
 have hbx:=(mha w (rdO p x bn bl)).1;have r0:(w.alloc (rdO p x bn bl)).cell? ⟨w.heap.size,0,none⟩=some (.pointer (some ⟨p,0,none⟩)):=qb hbx 0;have HI:=hiq hi;obtain⟨kc,pc⟩:=q6n kr;have jf:=q4z m00.obj m c hm kc pc hc;obtain⟨R,hR⟩:∃R,R=pthC true (.un (19,0) c) s f x M:=⟨_,rfl⟩
 have HR0:Hid (R=if plV x c then needM f M else some (yesM true,M)):=by show _=_;rw[hR];exact qaz true c s f x M
 rw[<-hR];obtain⟨Q,hQ⟩:∃Q:Ending->World->Prop,Q=RetQ (RdO T0 p vs x bn bl) w F items M R:=⟨_,rfl⟩
 have HQ:Hid (∀e w',RetQ (RdO T0 p vs x bn bl) w F items M R e w'->Q e w'):=fun e w' h=>by rw[hQ];exact h
 rw[<-hQ];clear hrd hpo hR hQ hbx h hx hi;have n19:((op:Int)==19)=true:=by rw[beq_iff_eq];omega
 clear hop;unfold wyF;simp only[if_true]
 unfold boxW itO rdO MidS at *;unfold rdV at *;dsimp only at *
 go_enter Tryz.func179,Tryz.ntmps179
 go_wp2_with fail
 refine jf.mono ?_
 rintro e w1 ⟨rfl,F1,i1,fr1,hp1,hO1⟩
 have m1:=m00.step fr1 hp1 hO1 (List.prefix_refl _) m00.good;obtain⟨⟨t0,t1,t2,t3⟩,_⟩:=HCL.out _ m1.rb m1.xb
 cases hv:plV x c with
 |true=>
  have hr1:=HR0.out;rw[hv,if_pos rfl]at hr1;have HR1:Hid _:=hr1;have j2:=qU m1.obj k f (hkf.pre m1.hi) kf hS
  (try unfold rdV at j2)
  clear jf hr1 hk0 hk00 hv
  go_wp2_with fail
  refine j2.mono ?_
  rintro e w2 ⟨F2,i2,fr2,hp2,⟨L2,M2,q2,d2,hs2,rfl,hU2,hO2⟩|⟨hs2,rfl,M2,hpm2,hO2⟩⟩
  case inr=>exact⟨rfl,HQ.out _ _ (m1.bad (by rw[HR1.out,hs2]) fr2 hp2 hpm2 hO2)⟩
  have HE:Hid (Q (.returned (.slice q2 L2.length d2)) w2):=HQ.out _ _ (m1.fin (by rw[HR1.out,hs2]) fr2 hp2 hU2 hO2)
  clear j2;go_wp2;exact HE.out
 |false=>
  have hr1:=HR0.out;rw[hv,if_neg (by decide)]at hr1
  have HN:Hid (∀e w',NewL (yesM true) w1 e w'->Q e w'):=fun e w' hn=>HQ.out e w' (by rw[hr1];exact(q4O (qp T0 p vs x bn bl) m1.obj hn).after m1.fr m1.hi (List.prefix_refl _))
  clear jf hr1 hk0 hk00 hv;have jt:=q2a w1
  go_wp2_with fail
  refine jt.mono ?_
  rintro e w2 ⟨q2,C2,rfl,hU2,hb2,hf2⟩
  have HE:Hid (Q (.returned (.slice q2 [0].length C2)) w2):=HN.out _ _ ⟨q2,C2,rfl,hU2,hb2,hf2⟩;clear jt hU2 hb2 hf2;go_wp2;exact HE.out
theorem qh1(box:Bool)(c f:Tr):pws box (.un (23,0) c) f=.bin (modeO box,0) (.un (23,0) c) f::pws box c (.bin (modeO box,0) (.un (23,0) c) f):=rfl
theorem qh0(box:Bool)(c d f:Tr):pws box (.bin (21,0) c d) f=pws box c f++pws box d f:=rfl
theorem qim(box:Bool)(c d f:Tr):pws box (.bin (22,0) c d) f=.bin (modeO box,0) d f::(pws box d f++pws box c (.bin (modeO box,0) d f)):=rfl
theorem q5R{T0:Tr}(t0:KT T0){p:Nat}{vs:Value}{x bn bl:Nat}(hx:x<256):∀n,(∀S,KT S->InC T0 S->hgt S<=n->LvQ T0 p vs x bn bl 155 S)/\(∀box r f,KP r->r∈subL T0->KT f->InC T0 f->(∀T,T∈pws box r f->InC T0 T)->hgt r<=n->WyQ T0 p vs x bn bl box r f)
 | 0=>⟨fun S _ _ h=>absurd (q6i S) (by omega),fun box r f _ _ _ _ _ h=>absurd (q6i r) (by omega)⟩
 |n+1=>by
  obtain⟨ih,jh⟩:=q5R t0 (p:=p) (vs:=vs) (bn:=bn) (bl:=bl) hx n;refine⟨fun S kS hS hn=>?_,fun box r f kr hr kf hf hp hn=>?_⟩
  ·refine q9i kS ?_ (fun M L M' hM h=>⟨(q1H hM kS h).lst,(q1H hM kS h).pre⟩)
   match S,kS,hS,hn with
   | .leaf (op,q),kS,hS,hn=>
    rcases q1X kS with⟨rfl,hq⟩|⟨rfl,ho⟩
    ·exact qbi hx q hq
    ·exact qc9 op (by omega)
   | .un (op,q) c,kS,hS,hn=>
    rcases kt_un kS with⟨rfl,⟨rfl,q,rfl⟩|⟨ho,hc⟩⟩
    ·have hq:q<=7:=(q1V _ kS.wf (2,q) (by simp[Tr.flat])).2
     exact qc6 hx q hq
    ·exact qbh op ho c kS hS
   | .bin (op,q) c d,kS,hS,hn=>
    obtain⟨rfl,ho⟩:=q1J kS;obtain⟨ic,id,hsub⟩:=qdX hS;have h2:max (hgt c) (hgt d)+1<=n+1:=hn;by_cases hw:op=17\/op=18
    ·obtain⟨kc,kd⟩:=q1z kS hw
     refine qc8 op hw c d kS (ih d kd id (by omega)) fun box hbox=>?_
     have hm:op=modeO box:=by rcases hw with rfl|rfl<;>subst hbox<;>rfl
     refine jh box c d kc (hsub hw) kd id ?_ (by omega)
     rw[hm]at hS;exact qhP hS
    ·obtain⟨kc,kd⟩:=qD kS (by omega)
     have hc:=ih c kc ic (by omega)
     have hd:=ih d kd id (by omega)
     by_cases h11:op=11\/op=12
     ·exact qc7 op h11 c d kS hc hd
     ·exact q9l op (by omega) c d kS hS hc hd
  ·match r,kr,hr,hp,hn with
   | .leaf k,kr,_,_,_=>exact(q2D kr).elim
   | .un (op,q) c,kr,hr,hp,hn=>
    rcases kp_un kr with⟨rfl,⟨rfl,hcw,hpl⟩|⟨rfl,hc⟩|⟨rfl,hc⟩⟩
    ·have h2:hgt c+1<=n+1:=hn
     have ha:=ih c (q6n kr).1 (q6m (q3r hr)) (by omega)
     cases box with
     |false=>exact q5H c f kr kf hf ha
     |true=>exact q5V c f kr kf hf ha
    ·have h2:hgt c+1<=n+1:=hn
     cases box with
     |false=>exact q5I c f kr kf (ih c hc (q6m (q3r hr)) (by omega))
     |true=>exact q5W c f kr kf (q3r hr) (ih _ (q3m hc) (q6l (q3r hr) hc) (by rw[q1l c hc];omega))
    ·have h2:hgt c+1<=n+1:=hn
     rw[qh1]at hp;have hT:=hp _ (List.mem_cons_self ..);have hw:=jh box c _ hc (q3r hr) (q2E kr kf box) hT (fun T h=>hp T (List.mem_cons_of_mem _ h)) (by omega)
     cases box with
     |false=>exact q5G c f kr kf hT hw
     |true=>exact q5U c f kr kf hT hw
   | .bin (op,q) c d,kr,hr,hp,hn=>
    obtain⟨rfl,ho,kc,kd⟩:=q1y kr;have h2:max (hgt c) (hgt d)+1<=n+1:=hn;rcases ho with rfl|rfl
    ·rw[qh0]at hp
     have hc:=jh box c f kc (q1m hr).1 kf hf (fun T h=>hp T (List.mem_append.2 (Or.inl h))) (by omega)
     have hd:=jh box d f kd (q1m hr).2 kf hf (fun T h=>hp T (List.mem_append.2 (Or.inr h))) (by omega)
     cases box with
     |false=>exact q5F c d f kr kf hc hd
     |true=>exact q5S c d f kr kf hc hd
    ·rw[qim]at hp
     have hT:=hp _ (List.mem_cons_self ..);have hd:=jh box d f kd (q1m hr).2 kf hf (fun T h=>hp T (List.mem_cons_of_mem _ (List.mem_append.2 (Or.inl h)))) (by omega)
     have hc:=jh box c _ kc (q1m hr).1 (q2E kd kf box) hT (fun T h=>hp T (List.mem_cons_of_mem _ (List.mem_append.2 (Or.inr h)))) (by omega)
     cases box with
     |false=>exact q5T c d f kr kf hT hc hd
     |true=>exact q6D c d f kr kf hT hc hd
theorem q81{T0:Tr}(t0:KT T0){p:Nat}{vs:Value}{x bn bl:Nat}(hx:x<256)(S:Tr)(kS:KT S)(hS:InC T0 S):LvQ T0 p vs x bn bl 155 S:=(q5R t0 hx (hgt S)).1 S kS hS nlr
theorem qdr : ∃ j, Tryz.prog.info? 128 = some j := by
  cases h : Tryz.prog.info? 128 with
  |some j=> exact ⟨j, rfl⟩
  | none => exact absurd h (by have : (Tryz.prog.info? 128).isSome = true := by kernel_rfl
                               intro e; rw [e] at this; cases this)
theorem q9r(a:Addr)(w:World):(binOp .eql 74 (.pointer (some a)) (.pointer (some a))).run Tryz.prog w=.ok (.bool true) w:=by
 obtain⟨j,hj⟩:=qdr;exact run_eql_ptr_same w a Tryz.underlying74 hj
theorem q2Z{T0:Tr}{w:World}{F:Nat->Prop}{p:Nat}{vs:Value}{items:List It}{M:Mt}(h:PgO T0 w F p vs items M):Calls Tryz.prog 72 #[.pointer (some ⟨p,0,none⟩)] w fun e w'=>e=.returned (.bool true)/\w'=w:=by
 obtain⟨G,mn,vm,met,hr,hF⟩:=h.ex;have c3:=hr.c3;have hp:=fun w=>q9r ⟨p,0,none⟩ w
 clear h hr hF;go_enter Tryz.func72,Tryz.ntmps72
 go_wp2;go_ret
 exact⟨rfl,rfl⟩
theorem q86{T0:Tr}{w:World}{F:Nat->Prop}{p:Nat}{a:Option Addr}{c:Nat}{l0:List Nat}{items:List It}{M:Mt}(h:PgO T0 w F p (.slice a l0.length c) items M)(hU:US w F a l0.length c l0)(hl:l0.length<=1024):Calls Tryz.prog 69 #[.pointer (some ⟨p,0,none⟩)] w (CloU l0 w):=by
 have hm:=q2Z h;obtain⟨G,mn,vm,met,hr,hF⟩:=h.ex;have c6:=hr.c6;have jc:=q4t a l0.length c l0 w hU.sl (by omega)
 clear h hr hF hU;generalize l0.length=L at *;go_enter Tryz.func69,Tryz.ntmps69
 go_wp2_with fail
 refine hm.mono ?_
 rintro e w1 ⟨rfl,hw1⟩
 obtain rfl:=hw1.symm
 clear hm
 go_wp2_with fail
 refine jc.mono ?_
 intro e w2 hq;have HQ:Hid _:=hq;obtain⟨_,⟨_,q,rfl⟩|⟨G2,t,_,rfl,_⟩⟩:=hq
 ·clear jc
  go_wp2;go_ret
  exact HQ.out
 ·clear jc
  go_wp2;go_ret
  exact HQ.out
theorem q1F(op pp:Nat)(xa xb:Int)(a:Option Addr)(n c:Nat)(w:World)(ho:op=0\/op=5\/op=6\/op=8\/op=16\/op=23):
  Calls Tryz.prog 102 #[itV ⟨op,pp,xa,xb⟩,.slice a n c] w fun e w'=>e=.returned (.bool true)/\w'=w.alloc (itO ⟨op,pp,xa,xb⟩):=by
 rcases ho with ho|ho|ho|ho|ho|ho
 ·have n0:((op:Int)==0)=true:=by rw[beq_iff_eq];omega
  clear ho;unfold itO itV at *;dsimp only at *
  go_enter Tryz.func102,Tryz.ntmps102
  go_wp2;go_ret
  exact⟨rfl,rfl⟩
 ·have n0:=nqf op 0 (by omega)
  have n5:((op:Int)==5)=true:=by rw[beq_iff_eq];omega
  clear ho;unfold itO itV at *;dsimp only at *
  go_enter Tryz.func102,Tryz.ntmps102
  go_wp2;go_ret
  exact⟨rfl,rfl⟩
 ·have n0:=nqf op 0 (by omega)
  have n5:=nqf op 5 (by omega)
  have n6:((op:Int)==6)=true:=by rw[beq_iff_eq];omega
  clear ho;unfold itO itV at *;dsimp only at *
  go_enter Tryz.func102,Tryz.ntmps102
  go_wp2;go_ret
  exact⟨rfl,rfl⟩
 ·have n0:=nqf op 0 (by omega)
  have n5:=nqf op 5 (by omega)
  have n6:=nqf op 6 (by omega)
  have n8:((op:Int)==8)=true:=by rw[beq_iff_eq];omega
  clear ho;unfold itO itV at *;dsimp only at *
  go_enter Tryz.func102,Tryz.ntmps102
  go_wp2;go_ret
  exact⟨rfl,rfl⟩
 ·have n0:=nqf op 0 (by omega)
  have n5:=nqf op 5 (by omega)
  have n6:=nqf op 6 (by omega)
  have n8:=nqf op 8 (by omega)
  have n16:((op:Int)==16)=true:=by rw[beq_iff_eq];omega
  clear ho;unfold itO itV at *;dsimp only at *
  go_enter Tryz.func102,Tryz.ntmps102
  go_wp2;go_ret
  exact⟨rfl,rfl⟩
 ·have n0:=nqf op 0 (by omega)
  have n5:=nqf op 5 (by omega)
  have n6:=nqf op 6 (by omega)
  have n8:=nqf op 8 (by omega)
  have n16:=nqf op 16 (by omega)
  have n23:((op:Int)==23)=true:=by rw[beq_iff_eq];omega
  clear ho;unfold itO itV at *;dsimp only at *
  go_enter Tryz.func102,Tryz.ntmps102
  go_wp2;go_ret
  exact⟨rfl,rfl⟩
theorem q2Y(op pp:Nat)(xa xb:Int)(a:Option Addr)(n c g:Nat)(w:World)(ho:op=11\/op=17\/op=22)(ia ib:Nat)(va vb:Bool)(ha:(Instr.indexAt 28 (.slice a n c) (.int .i64 xa)).run Tryz.prog (w.alloc (itO ⟨op,pp,xa,xb⟩))=.ok (.pointer (some ⟨g,ia,none⟩)) (w.alloc (itO ⟨op,pp,xa,xb⟩)))(ca:(w.alloc (itO ⟨op,pp,xa,xb⟩)).cell? ⟨g,ia,none⟩=some (.bool va))(hb:(Instr.indexAt 28 (.slice a n c) (.int .i64 xb)).run Tryz.prog (w.alloc (itO ⟨op,pp,xa,xb⟩))=.ok (.pointer (some ⟨g,ib,none⟩)) (w.alloc (itO ⟨op,pp,xa,xb⟩)))(cb:(w.alloc (itO ⟨op,pp,xa,xb⟩)).cell? ⟨g,ib,none⟩=some (.bool vb)):
  Calls Tryz.prog 102 #[itV ⟨op,pp,xa,xb⟩,.slice a n c] w fun e w'=>e=.returned (.bool (va&&vb))/\w'=w.alloc (itO ⟨op,pp,xa,xb⟩):=by
 rcases ho with ho|ho|ho
 ·have n0:=nqf op 0 (by omega)
  have n5:=nqf op 5 (by omega)
  have n6:=nqf op 6 (by omega)
  have n8:=nqf op 8 (by omega)
  have n16:=nqf op 16 (by omega)
  have n23:=nqf op 23 (by omega)
  have n11:((op:Int)==11)=true:=by rw[beq_iff_eq];omega
  clear ho;unfold itO itV at *;dsimp only at *
  cases va<;>cases vb <;>
  ·go_enter Tryz.func102,Tryz.ntmps102
   go_wp2;go_ret
   exact⟨rfl,rfl⟩
 ·have n0:=nqf op 0 (by omega)
  have n5:=nqf op 5 (by omega)
  have n6:=nqf op 6 (by omega)
  have n8:=nqf op 8 (by omega)
  have n16:=nqf op 16 (by omega)
  have n23:=nqf op 23 (by omega)
  have n11:=nqf op 11 (by omega)
  have n17:((op:Int)==17)=true:=by rw[beq_iff_eq];omega
  clear ho;unfold itO itV at *;dsimp only at *
  cases va<;>cases vb <;>
  ·go_enter Tryz.func102,Tryz.ntmps102
   go_wp2;go_ret
   exact⟨rfl,rfl⟩
 ·have n0:=nqf op 0 (by omega)
  have n5:=nqf op 5 (by omega)
  have n6:=nqf op 6 (by omega)
  have n8:=nqf op 8 (by omega)
  have n16:=nqf op 16 (by omega)
  have n23:=nqf op 23 (by omega)
  have n11:=nqf op 11 (by omega)
  have n17:=nqf op 17 (by omega)
  have n22:((op:Int)==22)=true:=by rw[beq_iff_eq];omega
  clear ho;unfold itO itV at *;dsimp only at *
  cases va<;>cases vb <;>
  ·go_enter Tryz.func102,Tryz.ntmps102
   go_wp2;go_ret
   exact⟨rfl,rfl⟩
theorem q5s(op pp:Nat)(xa xb:Int)(a:Option Addr)(n c g:Nat)(w:World)(ho:op=12\/op=21)(ia ib:Nat)(va vb:Bool)(ha:(Instr.indexAt 28 (.slice a n c) (.int .i64 xa)).run Tryz.prog (w.alloc (itO ⟨op,pp,xa,xb⟩))=.ok (.pointer (some ⟨g,ia,none⟩)) (w.alloc (itO ⟨op,pp,xa,xb⟩)))(ca:(w.alloc (itO ⟨op,pp,xa,xb⟩)).cell? ⟨g,ia,none⟩=some (.bool va))(hb:(Instr.indexAt 28 (.slice a n c) (.int .i64 xb)).run Tryz.prog (w.alloc (itO ⟨op,pp,xa,xb⟩))=.ok (.pointer (some ⟨g,ib,none⟩)) (w.alloc (itO ⟨op,pp,xa,xb⟩)))(cb:(w.alloc (itO ⟨op,pp,xa,xb⟩)).cell? ⟨g,ib,none⟩=some (.bool vb)):
  Calls Tryz.prog 102 #[itV ⟨op,pp,xa,xb⟩,.slice a n c] w fun e w'=>e=.returned (.bool (va || vb))/\w'=w.alloc (itO ⟨op,pp,xa,xb⟩):=by
 rcases ho with ho|ho
 ·have n0:=nqf op 0 (by omega)
  have n5:=nqf op 5 (by omega)
  have n6:=nqf op 6 (by omega)
  have n8:=nqf op 8 (by omega)
  have n16:=nqf op 16 (by omega)
  have n23:=nqf op 23 (by omega)
  have n11:=nqf op 11 (by omega)
  have n17:=nqf op 17 (by omega)
  have n22:=nqf op 22 (by omega)
  have n12:((op:Int)==12)=true:=by rw[beq_iff_eq];omega
  clear ho;unfold itO itV at *;dsimp only at *
  cases va<;>cases vb <;>
  ·go_enter Tryz.func102,Tryz.ntmps102
   go_wp2;go_ret
   exact⟨rfl,rfl⟩
 ·have n0:=nqf op 0 (by omega)
  have n5:=nqf op 5 (by omega)
  have n6:=nqf op 6 (by omega)
  have n8:=nqf op 8 (by omega)
  have n16:=nqf op 16 (by omega)
  have n23:=nqf op 23 (by omega)
  have n11:=nqf op 11 (by omega)
  have n17:=nqf op 17 (by omega)
  have n22:=nqf op 22 (by omega)
  have n12:=nqf op 12 (by omega)
  have n21:((op:Int)==21)=true:=by rw[beq_iff_eq];omega
  clear ho;unfold itO itV at *;dsimp only at *
  cases va<;>cases vb <;>
  ·go_enter Tryz.func102,Tryz.ntmps102
   go_wp2;go_ret
   exact⟨rfl,rfl⟩
theorem q9k(op pp:Nat)(xa xb:Int)(a:Option Addr)(n c g:Nat)(w:World)(ho:op=18)(ia ib:Nat)(va vb:Bool)(ha:(Instr.indexAt 28 (.slice a n c) (.int .i64 xa)).run Tryz.prog (w.alloc (itO ⟨op,pp,xa,xb⟩))=.ok (.pointer (some ⟨g,ia,none⟩)) (w.alloc (itO ⟨op,pp,xa,xb⟩)))(ca:(w.alloc (itO ⟨op,pp,xa,xb⟩)).cell? ⟨g,ia,none⟩=some (.bool va))(hb:(Instr.indexAt 28 (.slice a n c) (.int .i64 xb)).run Tryz.prog (w.alloc (itO ⟨op,pp,xa,xb⟩))=.ok (.pointer (some ⟨g,ib,none⟩)) (w.alloc (itO ⟨op,pp,xa,xb⟩)))(cb:(w.alloc (itO ⟨op,pp,xa,xb⟩)).cell? ⟨g,ib,none⟩=some (.bool vb)):
  Calls Tryz.prog 102 #[itV ⟨op,pp,xa,xb⟩,.slice a n c] w fun e w'=>e=.returned (.bool (!va || vb))/\w'=w.alloc (itO ⟨op,pp,xa,xb⟩):=by
 have n0:=nqf op 0 (by omega)
 have n5:=nqf op 5 (by omega)
 have n6:=nqf op 6 (by omega)
 have n8:=nqf op 8 (by omega)
 have n16:=nqf op 16 (by omega)
 have n23:=nqf op 23 (by omega)
 have n11:=nqf op 11 (by omega)
 have n17:=nqf op 17 (by omega)
 have n22:=nqf op 22 (by omega)
 have n12:=nqf op 12 (by omega)
 have n21:=nqf op 21 (by omega)
 have n18:((op:Int)==18)=true:=by rw[beq_iff_eq];omega
 clear ho;unfold itO itV at *;dsimp only at *
 cases va<;>cases vb <;>
 ·go_enter Tryz.func102,Tryz.ntmps102
  go_wp2;go_ret
  exact⟨rfl,rfl⟩
theorem q83(op pp:Nat)(xa xb:Int)(a:Option Addr)(n c g:Nat)(w:World)(ho:op=20)(ia:Nat)(va:Bool)(ha:(Instr.indexAt 28 (.slice a n c) (.int .i64 xa)).run Tryz.prog (w.alloc (itO ⟨op,pp,xa,xb⟩))=.ok (.pointer (some ⟨g,ia,none⟩)) (w.alloc (itO ⟨op,pp,xa,xb⟩)))(ca:(w.alloc (itO ⟨op,pp,xa,xb⟩)).cell? ⟨g,ia,none⟩=some (.bool va)):
  Calls Tryz.prog 102 #[itV ⟨op,pp,xa,xb⟩,.slice a n c] w fun e w'=>e=.returned (.bool va)/\w'=w.alloc (itO ⟨op,pp,xa,xb⟩):=by
 have n0:=nqf op 0 (by omega)
 have n5:=nqf op 5 (by omega)
 have n6:=nqf op 6 (by omega)
 have n8:=nqf op 8 (by omega)
 have n16:=nqf op 16 (by omega)
 have n23:=nqf op 23 (by omega)
 have n11:=nqf op 11 (by omega)
 have n17:=nqf op 17 (by omega)
 have n22:=nqf op 22 (by omega)
 have n12:=nqf op 12 (by omega)
 have n21:=nqf op 21 (by omega)
 have n18:=nqf op 18 (by omega)
 have n20:((op:Int)==20)=true:=by rw[beq_iff_eq];omega
 clear ho;unfold itO itV at *;dsimp only at *
 go_enter Tryz.func102,Tryz.ntmps102
 go_wp2;go_ret
 exact⟨rfl,rfl⟩
theorem q1K(op pp:Nat)(xa xb:Int)(a:Option Addr)(n c:Nat)(w:World)(ho:op≠0/\op≠5/\op≠6/\op≠8/\op≠16/\op≠23/\op≠11/\op≠17/\op≠22/\op≠12/\op≠21/\op≠18/\op≠20):
  Calls Tryz.prog 102 #[itV ⟨op,pp,xa,xb⟩,.slice a n c] w fun e w'=>e=.returned (.bool false)/\w'=w.alloc (itO ⟨op,pp,xa,xb⟩):=by
 have n0:=nqf op 0 (by omega)
 have n5:=nqf op 5 (by omega)
 have n6:=nqf op 6 (by omega)
 have n8:=nqf op 8 (by omega)
 have n16:=nqf op 16 (by omega)
 have n23:=nqf op 23 (by omega)
 have n11:=nqf op 11 (by omega)
 have n17:=nqf op 17 (by omega)
 have n22:=nqf op 22 (by omega)
 have n12:=nqf op 12 (by omega)
 have n21:=nqf op 21 (by omega)
 have n18:=nqf op 18 (by omega)
 have n20:=nqf op 20 (by omega)
 clear ho;unfold itO itV at *;dsimp only at *
 go_enter Tryz.func102,Tryz.ntmps102
 go_wp2;go_ret
 exact⟨rfl,rfl⟩
theorem qgt{w:World}{base e n cap:Nat}{a:Option Addr}{xs:List Value}(h:w.ownsRow base e 1 (.slice a n cap) n xs):∀k,k<n->base<=(adOf a k).block:=fun k hk=>by
 rcases h.2 with⟨e,e0⟩|⟨g,cap',cur,e,hg,_⟩
 ·omega
 ·injection e with e1 _ _
  subst e1;simp[adOf,qg]
  exact hg
def INR (r:List Nat) (w:World) (e:Ending) (w':World):Prop:=∃(a:Option Addr) (c:Nat),e=.returned (.slice a r.length c)/\ISl w' a r.length c r/\Below w.heap.size w w'/\∀k,k<r.length->w.heap.size<=(adOf a k).block
theorem q94(s:Nat)(hs:s<2 ^ 64)(w:World)(hT:Tab64 w):Calls Tryz.prog 154 #[.int .u64 (s:Int)] w (INR (itemsL s) w):=by
 have HT:=hiq hT;have Hs:=hiq hs;clear hT hs;go_enter Tryz.func154,Tryz.ntmps154
 go_wp2
 go_loopw [3,4] (fun v r wr=>∃(x:Nat) (acc:List Nat),r=.int .u64 (x:Int)/\Hid (x<2 ^ 64)/\Hid (itemsL s=acc++itemsL x)/\Hid (wr.ownsRow w.heap.size 3 1 v acc.length ((iU acc).map (Value.int .i64)))/\Hid (Below w.heap.size w wr)) (fun _ r _=>(intOf r).toNat)
 case atStart=>exact⟨s,[],rfl,Hs,rfl,⟨rfl,Or.inl ⟨rfl,rfl⟩⟩,Below.refl _ _⟩
 case round=>
  obtain⟨x,acc,rfl,HX,HE,HO,HB⟩:=hrel;by_cases h0:x=0
  ·subst h0
   have HE2:Hid (itemsL s=acc):=by show _=_;rw[HE.out,qdF,List.append_nil]
   obtain⟨va,vc,rfl,hU⟩:=qih HO.out;have HU:Hid _:=hU;have HFS:Hid (∀k,k<acc.length->w.heap.size<=(adOf va k).block):=qgt HO.out;clear hU HO HE;go_wp2;go_ret
   exact⟨va,vc,by rw[HE2.out];rfl,by rw[HE2.out];exact HU.out,HB.out,by rw[HE2.out];exact HFS.out⟩
  ·have htz:=qdu x HX.out h0 wr (HT.out.up HB.out)
   obtain⟨hk,hb,_⟩:=qcG x h0 HX.out;have hlt:=qgk hk hb;have HS:=qeD h0 HX.out;have HE2:Hid (itemsL s=(acc++[Lib.ctz 64 x])++itemsL (dropB x (Lib.ctz 64 x))):=by show _=_;rw[HE.out,HS];simp
   have hln:acc.length<=64:=by have:=q8m s;rw[HE.out,List.length_append]at this;omega
   have hne:((x:Int)==0)=false:=by simp;omega
   have hp:2 ^ Lib.ctz 64 x<18446744073709551616:=Nat.pow_lt_pow_right (by decide) hk
   have hdr:bits .andNot .u64 (x:Int) (IntKind.u64.wrap ((2:Int) ^ Lib.ctz 64 x))=((dropB x (Lib.ctz 64 x):Nat):Int):=by
    have e1:IntKind.u64.wrap ((2:Int) ^ Lib.ctz 64 x)=((2 ^ Lib.ctz 64 x:Nat):Int):=by
     rw[show (2:Int) ^ Lib.ctz 64 x=((2 ^ Lib.ctz 64 x:Nat):Int) by simp,IntKind.wrap_u64]
     generalize 2 ^ Lib.ctz 64 x=q at *
     omega
    rw[e1];exact u64_andNot_nat x _ HX.out hp
   have HX2:Hid (dropB x (Lib.ctz 64 x)<2 ^ 64):=Nat.lt_of_le_of_lt (qco _ _) HX.out;obtain⟨va,vc,rfl⟩:=q2b HO.out;clear HS hb HE HX;generalize dropB x (Lib.ctz 64 x)=y at *;generalize Lib.ctz 64 x=k at *
   go_wp2_with fail
   refine htz.mono ?_
   rintro e w3 ⟨rfl,hw⟩
   obtain rfl:wr=w3:=hw.symm
   have HOA:Hid ((wr.alloc (.cells #[.int .i64 (k:Int)] 3)).ownsRow w.heap.size 3 1 (.slice va acc.length vc) acc.length ((iU acc).map (Value.int .i64))):=World.ownsRow.alloc HO.out _;have HCA:Hid ((wr.alloc (.cells #[.int .i64 (k:Int)] 3)).cell? ⟨wr.heap.size,0,none⟩=some (.int .i64 (k:Int))):=qb (mha wr _).1 0;have HWA:Hid (Below w.heap.size w (wr.alloc (.cells #[.int .i64 (k:Int)] 3))):=HB.out.alloc HB.out.size _;have hszA:w.heap.size<=(wr.alloc (.cells #[.int .i64 (k:Int)] 3)).heap.size:=HWA.out.size;have HGE:Hid (∀q,(Value.slice va acc.length vc).ownBlock=some q->w.heap.size<=q):=q3o HO.out;clear HO HB htz
   go_wp2_with (at_builtin;refine qaN rfl _ _ rfl w.heap.size _ acc.length (iU acc) rfl HOA.out wr.heap.size (k:Int) rfl HCA.out (by omega) hszA ?_)
   intro v7 w7 hown7 hgr7;have HO7:Hid (w7.ownsRow w.heap.size 3 1 v7 (acc.length+1) ((iU acc++[(k:Int)]).map (Value.int .i64))):=by show World.ownsRow _ _ _ _ _ _ _;simpa using hown7
   have HW7:Hid (Below w.heap.size w w7):=HWA.out.grown hgr7 hszA (fun q e=>HGE.out q e)
   clear hown7 hgr7 HOA HCA HWA hszA HGE;go_wp2
   go_roundw
   case rel=>
    refine⟨y,acc++[k],rfl,HX2,HE2,?_,HW7⟩
    show World.ownsRow _ _ _ _ _ _ _
    rw[List.length_append,q9H];exact HO7.out
   case measure=>simp[intOf];omega
def tabG:Nat:=1
theorem Tab64.fr{w w':World}{F F':Nat->Prop}(h:Tab64 w)(fr:Fr w w' F F')(hn:¬F tabG):Tab64 w':=fun j hj=>fr.cell (h j hj) hn
structure MidL (T0:Tr) (p:Nat) (vs:Value) (x bn bl:Nat) (w:World) (F:Nat->Prop) (items:List It) (M:Mt) (B:Nat) (wj:World) (Fj:Nat->Prop) (ij:List It) (Mj:Mt):Prop where
 obj:RdO T0 p vs x bn bl wj Fj ij Mj
 fr:Fr w wj F Fj
 hi:items <+: ij
 hM:M <+: Mj
 good:GoodM Mj
 rb:wj.heap[B]? =some (rdO p x bn bl)
 rn:¬Fj B
 tab:Tab64 wj
 tn:¬Fj tabG
section
variable {T0:Tr} {p:Nat} {vs:Value} {x bn bl:Nat} {w:World} {F:Nat->Prop} {items:List It} {M:Mt} {B:Nat} {wj wk:World} {Fj Fk:Nat->Prop} {ij ik:List It} {Mj Mk:Mt}
theorem MidL.step(h:MidL T0 p vs x bn bl w F items M B wj Fj ij Mj)(fr:Fr wj wk Fj Fk)(hp:ij <+: ik)(hO:RdO T0 p vs x bn bl wk Fk ik Mk)(hm:Mj <+: Mk)(hg:GoodM Mk):MidL T0 p vs x bn bl w F items M B wk Fk ik Mk :=
 ⟨hO,h.fr.trans fr,h.hi.trans hp,h.hM.trans hm,hg,(qh h.rb h.rn fr).1,(qh h.rb h.rn fr).2,h.tab.fr fr h.tn,fr.out h.tn (World.block_lt_of_cell? _ _ (h.tab 0 (by decide)))⟩
theorem MidL.up(h:MidL T0 p vs x bn bl w F items M B wj Fj ij Mj)(hb:Below wj.heap.size wj wk):MidL T0 p vs x bn bl w F items M B wk Fj ij Mj:=h.step (Fr.ofBelow hb) (List.prefix_refl _) ((qp T0 p vs x bn bl).up h.obj hb) (List.prefix_refl _) h.good
theorem MidL.bad(h:MidL T0 p vs x bn bl w F items M B wj Fj ij Mj){R:Rt}(hR:R=none)(fr:Fr wj wk Fj Fk)(hp:ij <+: ik)(hm:Mj <+: Mk)(hO:RdO T0 p vs x bn bl wk Fk ik Mk):RetQ (RdO T0 p vs x bn bl) w F items M R (.panicked thrownP) wk :=
 ⟨Fk,ik,h.fr.trans fr,h.hi.trans hp,Or.inr ⟨hR,rfl,Mk,h.hM.trans hm,hO⟩⟩
theorem MidL.met(h:MidL T0 p vs x bn bl w F items M B wj Fj ij Mj)(k:Nat)(hk:k<Mj.length):∃a n cap g o j S,wj.cell? ⟨p,5,none⟩=some (.slice a n cap)/\(∀w',(Instr.indexAt 29 (.slice a n cap) (.int .i64 (k:Int))).run Tryz.prog w'=.ok (.pointer (some ⟨g,o,none⟩)) w')/\wj.cell? ⟨g,o,none⟩=some (.int .i64 ((j:Nat):Int))/\Rep ij j S/\KT S/\InC T0 S/\Mj[k]? =some S.flat:=by
 obtain⟨F1,kn,kl,fn,fl,hr⟩:=h.obj;obtain⟨G,mn,vm,met,hg,hF⟩:=hr.pg.ex;have hml:=hg.met.1;have hkm:k<met.length:=by omega
 obtain⟨S,hrep,hMk⟩:=hg.met.2 k met[k] (lge hkm);obtain⟨S2,k2,i2,e2⟩:=hr.pg.of S.flat (List.mem_of_getElem? hMk)
 have hw:S.WF:=by
  obtain⟨S3,h3,h4⟩:=hg.po.cov _ hrep.lt;have:=Rep.tree hrep h3
  subst this;rcases q3a hg.po.t0.kt h4 with q|q<;>exact q.wf
 have e:=q7f hw k2.wf e2;subst e;rcases hg.row.2 with⟨e,e0⟩|⟨g,cap,cur,rfl,_,hcell,hnc,hcm,hsz,htk⟩
 ·omega
 ·refine⟨some ⟨g,0,none⟩,met.length,cap,g,k,met[k],S,hg.c5,fun w'=>?_,?_,hrep,k2,i2,hMk⟩
  ·simp[Instr.indexAt,run_underlying Tryz.underlying29,asIntOf,q1c (show (Tryz.prog.info? 3).map (·.size)=some 1 by kernel_rfl),hkm,Result.andThen,go_sem,qg]
  ·rw[qb hcell k]
   have:cur.toList[k]? =(encM met)[k]? := by rw[<-htk,List.getElem?_take,if_pos (by omega)]
   rw[<-Array.getElem?_toList,this];simp[encM,hkm]
end
theorem qf5{T0 S:Tr}(t0:T0k T0)(kS:KT S)(hS:InC T0 S)(x:Nat){M:Mt}{k:Nat}(hk:M[k]? =some S.flat):aftM fuelN (growT (M.getD k [])) x M=aftC S x M:=by
 have e:M.getD k []=S.flat:=by rw[List.getD_eq_getElem?_getD,hk];rfl
 rw[e,q3k kS.wf];exact congrFun (aft_C kS (q55 t0.sz hS).2) M
structure IU (w:World) (F:Nat->Prop) (a:Option Addr) (c:Nat) (ks:List Nat):Prop where
 sl:ISl w a ks.length c ks
 nf:∀k,k<ks.length->¬F (adOf a k).block
theorem IU.fr{w w':World}{F F':Nat->Prop}{a:Option Addr}{c:Nat}{ks:List Nat}(h:IU w F a c ks)(fr:Fr w w' F F'):IU w' F' a c ks:=⟨fr.intSl h.sl h.nf,fun k hk=>fr.out (h.nf k hk) (h.sl.blk k hk)⟩
structure LH (w:World) (F:Nat->Prop) (M:Mt) (a:Option Addr) (c:Nat) (l:List Nat):Prop where
 us:US w F a l.length c l
 len:l.length<=1024
 bd:BdL l M.length
theorem LH.fr{w w':World}{F F':Nat->Prop}{M M':Mt}{a:Option Addr}{c:Nat}{l:List Nat}(h:LH w F M a c l)(fr:Fr w w' F F')(hM:M <+: M'):LH w' F' M' a c l:=⟨h.us.fr fr,h.len,h.bd.mono hM.length_le⟩
theorem LH.lst{w:World}{F:Nat->Prop}{M:Mt}{a:Option Addr}{c:Nat}{l:List Nat}(h:LH w F M a c l)(hg:GoodM M):LstH l:=⟨qT h.bd hg.few,h.len⟩
theorem qgC{s m:Nat}(hm:m<=64)(h:∀k,s.testBit k=true->k<m):∀k∈itemsL s,k<m:=(qam hm h (· < m)).2 h
theorem q9t{T0:Tr}{p:Nat}{vs:Value}{x bn bl:Nat}(hx8:x<256){w:World}{F:Nat->Prop}{items:List It}{M:Mt}(h:RdO T0 p vs x bn bl w F items M)(hT:Tab64 w)(hnG:¬F tabG)(a:Option Addr)(c:Nat)(l:List Nat)(hL:LH w F M a c l)(t0:T0k T0):
  Calls Tryz.prog 132 #[rdV p x bn bl,.slice a l.length c] w (fun e w'=>RetQ (RdO T0 p vs x bn bl) w F items M (stepM fuelN x l [] M) e w'/\NewE w e):=by
 have hb:=qc w (rdO p x bn bl);have hO:=(qp T0 p vs x bn bl).up h hb;have hg:GoodM M:=by obtain⟨_,_,_,_,_,hr⟩:=h;exact hr.pg.good
 have hlt:=(qp T0 p vs x bn bl).lt h;have HM0:Hid (MidL T0 p vs x bn bl w F items M w.heap.size (w.alloc (rdO p x bn bl)) F items M):=⟨hO,Fr.ofBelow hb,List.prefix_refl _,List.prefix_refl _,hg,(mha w _).1,fun e=>by have:=hlt _ e;omega,hT.up hb,hnG⟩
 have HL0:Hid (LH (w.alloc (rdO p x bn bl)) F M a c l):=hL.fr (Fr.ofBelow hb) (List.prefix_refl _);have HN0:Hid (LH (w.alloc (rdO p x bn bl)) F M none 0 []):=⟨qfx _ _,by simp,q1j false _⟩
 have HT0:=hiq t0;have hidx:=fun (i:Nat) (w:World) (h:i<l.length)=>hL.us.sl.idx l.length i w h nlr
 have hl1:l.length<=1024:=hL.len;have hx8':=hx8;obtain⟨R,hR⟩:∃R,R=stepM fuelN x l [] M:=⟨_,rfl⟩
 have HR0:Hid (R=stepM fuelN x (l.drop 0) [] M):=by rw[List.drop_zero];exact hR
 rw[<-hR];obtain⟨Q,hQ⟩:∃Q:Ending->World->Prop,Q=fun e w'=>RetQ (RdO T0 p vs x bn bl) w F items M R e w'/\NewE w e:=⟨_,rfl⟩
 have HQ:Hid (∀e w',RetQ (RdO T0 p vs x bn bl) w F items M R e w'->NewE w e->Q e w'):=fun e w' h h2=>by rw[hQ];exact⟨h,h2⟩
 have HW0:Hid (NewE w (.returned (.slice none 0 0))):=fun q n d h k hk=>by injection h with h;injection h with h1 h2 h3;omega
 rw[<-hQ];clear h hT hnG hL t0 hb hO hg hlt hR hQ;obtain⟨n,hn⟩:∃n,n=l.length:=⟨_,rfl⟩
 have HNL:=hiq hn;rw[<-hn]at hidx hl1 ⊢;clear hn;unfold rdV;go_enter Tryz.func132,Tryz.ntmps132
 go_wp2
 go_loopw [5,13] (fun v i wr=>∃(k:Nat) (q5:Option Addr) (d5:Nat) (out:List Nat) (Fj:Nat->Prop) (ij:List It) (Mj:Mt),k<=n/\i=.int .i64 (k:Int)/\v=.slice q5 out.length d5/\Hid (MidL T0 p vs x bn bl w F items M w.heap.size wr Fj ij Mj)/\Hid (LH wr Fj Mj q5 d5 out)/\Hid (LH wr Fj Mj a c l)/\Hid (R=stepM fuelN x (l.drop k) out Mj)/\Hid (NewE w (.returned (.slice q5 out.length d5)))) (fun _ i _=>n-(intOf i).toNat)
 case atStart=>exact⟨0,none,0,[],F,items,M,Nat.zero_le _,rfl,rfl,HM0,HN0,HL0,HR0,HW0⟩
 case round=>
  clear HM0 HN0 HL0 HR0 HW0;obtain⟨k,q5,d5,out,Fj,ij,Mj,hk,rfl,rfl,HMJ,HO,HLL,HR,HNW⟩:=hrel;by_cases hlt:k<n
  ·have hkl:k<l.length:=by have:=HNL.out;omega
   have hc:=HLL.out.us.sl.cell k hkl;have hix:=fun w'=>hidx k w' hlt
   have hset:(iU l).getD k 0=((l[k]:Nat):Int):=by simp[iU,List.getD_eq_getElem?_getD,hkl]
   rw[hset]at hc;have hs64:l[k]<2 ^ 64:=(HLL.out.lst HMJ.out.good).sm _ (List.getElem_mem hkl);have HIT:Hid (∀y∈itemsL l[k],y<Mj.length):=qgC HMJ.out.good.few (HLL.out.bd _ (List.getElem_mem hkl))
   have HRD:Hid (R=bindM (setM fuelN x (itemsL l[k]) [0] Mj) fun m M1=>bindM (twoM false out m M1) fun o M2=>stepM fuelN x (l.drop (k+1)) o M2):=by
    show _=_
    rw[HR.out,List.drop_eq_getElem_cons hkl,stepM]
   have jt:=q5A wr;have hil:(itemsL l[k]).length<=64:=q8m _;generalize l[k]=st at *;clear HR hset
   go_wp2_with fail
   refine jt.mono ?_
   rintro e w1 ⟨q1,C1,rfl,hU1,hb1,hf1⟩
   have m1:=HMJ.out.up hb1;have HAL:Hid (LH w1 Fj Mj q1 C1 [0]):=⟨⟨hU1,fun k hk hF=>by have:=hf1 k hk;have:=(qp T0 p vs x bn bl).lt HMJ.out.obj _ hF;omega⟩,by simp,q9F _⟩
   have HO1:Hid (LH w1 Fj Mj q5 d5 out):=HO.out.fr (Fr.ofBelow hb1) (List.prefix_refl _);have HL1:Hid (LH w1 Fj Mj a c l):=HLL.out.fr (Fr.ofBelow hb1) (List.prefix_refl _);have ji:=q94 st hs64 w1 m1.tab;have HM1:Hid _:=m1;clear jt hU1 hb1 hf1 HMJ HO HLL m1 hc hix;generalize itemsL st=ks at *
   go_wp2_with fail
   refine ji.mono ?_
   rintro e w2 ⟨ia,ic,rfl,hI,hb2,hf2⟩
   have HM2:Hid _:=HM1.out.up hb2;have HIU:Hid (IU w2 Fj ia ic ks):=⟨hI,fun k hk hF=>by have:=hf2 k hk;have:=(qp T0 p vs x bn bl).lt HM1.out.obj _ hF;omega⟩
   have HAL2:Hid (LH w2 Fj Mj q1 C1 [0]):=HAL.out.fr (Fr.ofBelow hb2) (List.prefix_refl _);have HO2:Hid (LH w2 Fj Mj q5 d5 out):=HO1.out.fr (Fr.ofBelow hb2) (List.prefix_refl _);have HL2:Hid (LH w2 Fj Mj a c l):=HL1.out.fr (Fr.ofBelow hb2) (List.prefix_refl _);have hidI:=fun (i:Nat) (w:World) (h:i<ks.length)=>hI.idx ks.length i w h nlr
   have HRI:Hid (R=bindM (setM fuelN x (ks.drop 0) [0] Mj) fun m M1=>bindM (twoM false out m M1) fun o M2=>stepM fuelN x (l.drop (k+1)) o M2):=by rw[List.drop_zero];exact HRD.out
   clear ji hI hb2 hf2 HM1 HAL HO1 HL1 HRD;go_wp2;generalize hLN:ks.length=ln at *;have HLN:=hiq hLN;clear hLN
   go_loopw [8,21] (fun v i w3=>∃(j:Nat) (q8:Option Addr) (d8:Nat) (al:List Nat) (Fi:Nat->Prop) (ii:List It) (Mi:Mt),j<=ln/\i=.int .i64 (j:Int)/\v=.slice q8 al.length d8/\Hid (MidL T0 p vs x bn bl w F items M w.heap.size w3 Fi ii Mi)/\Hid (Mj <+: Mi)/\Hid (LH w3 Fi Mi q8 d8 al)/\Hid (LH w3 Fi Mi q5 d5 out)/\Hid (LH w3 Fi Mi a c l)/\Hid (IU w3 Fi ia ic ks)/\Hid (R=bindM (setM fuelN x (ks.drop j) al Mi) fun m M1=>bindM (twoM false out m M1) fun o M2=>stepM fuelN x (l.drop (k+1)) o M2)) (fun _ i _=>ln-(intOf i).toNat)
   case atStart=>exact⟨0,q1,C1,[0],Fj,ij,Mj,Nat.zero_le _,rfl,rfl,HM2,List.prefix_refl _,HAL2,HO2,HL2,HIU,HRI⟩
   case round=>
    clear HM2 HAL2 HO2 HL2 HIU HRI;obtain⟨j,q8,d8,al,Fi,ii,Mi,hj,rfl,rfl,HMI,HPR,HAL,HO,HLL,HIU,HR⟩:=hrel;by_cases hltj:j<ln
    ·have hjk:j<ks.length:=by have:=HLN.out;omega
     have hcI:=HIU.out.sl.cell j hjk;have hixI:=fun w'=>hidI j w' hltj
     have hsI:(iU ks).getD j 0=((ks[j]:Nat):Int):=by simp[iU,List.getD_eq_getElem?_getD,hjk]
     rw[hsI]at hcI;have hkM:ks[j]<Mi.length:=Nat.lt_of_lt_of_le (HIT.out _ (List.getElem_mem hjk)) HPR.out.length_le;obtain⟨ma,mnn,mcap,mg,mo,mj,S,c5,hidM,cM,hrepM,kS,hS,hMk⟩:=HMI.out.met ks[j] hkM
     have HRD:Hid (R=bindM (aftC S x Mi) fun a' M1=>bindM (twoM true al a' M1) fun b' M2=>bindM (setM fuelN x (ks.drop (j+1)) b' M2) fun m M1=>bindM (twoM false out m M1) fun o M2=>stepM fuelN x (l.drop (k+1)) o M2):=by
      show _=_
      rw[HR.out,List.drop_eq_getElem_cons hjk,setM,qf5 HT0.out kS hS x hMk]
      cases aftC S x Mi with
      |none=>rfl
      |some z=>
       obtain⟨z1,z2⟩:=z
       show bindM (bindM (twoM true al z1 z2) _) _=bindM (twoM true al z1 z2) _
       cases twoM true al z1 z2 with
       |none=>rfl
       |some y=>rfl
     have m0:=HMI.out.up (Below.refl _ _).drew;have ja:=q81 HT0.out.kt hx8 S kS hS _ Fi ii Mi mj m0.obj hrepM;have HKS:=hiq kS;have c5d:(wr.drew).cell? ⟨p,5,none⟩=some (.slice ma mnn mcap):=c5;have cMd:(wr.drew).cell? ⟨mg,mo,none⟩=some (.int .i64 (mj:Int)):=cM;have HCL:Hid (∀w':World,w'.heap[w.heap.size]? =some (rdO p x bn bl)->w'.cell? ⟨w.heap.size,0,none⟩=some (.pointer (some ⟨p,0,none⟩))/\w'.cell? ⟨w.heap.size,1,none⟩=some (.int .u8 (x:Int))/\w'.cell? ⟨w.heap.size,2,none⟩=some (.map (some bn))/\w'.cell? ⟨w.heap.size,3,none⟩=some (.map (some bl))):=fun w' e=>⟨qb e 0,qb e 1,qb e 2,qb e 3⟩
     have hk0:=HCL.out _ m0.rb;have hk00:=HCL.out _ HMI.out.rb;unfold rdV at ja;generalize ks[j]=kj at *;clear HR hsI hrepM kS hS hMk hkM
     go_wp2_with fail
     obtain⟨e0,e1,e2,e3⟩:=hk0;obtain⟨g0,g1,g2,g3⟩:=hk00
     go_region_with (first
      | (revert ja;intro ja;go_at_call 155;(with_reducible refine ja.mono ?_);rintro e w4 ⟨F4,i4,fr4,hp4,⟨L4,M4,q4,d4,hs4,rfl,hU4,hO4⟩|⟨hs4,rfl,M4,hpm4,hO4⟩⟩;(case inr=>exact⟨rfl,HQ.out _ _ (m0.bad (by rw[HRD.out,hs4];first|done|rfl) fr4 hp4 hpm4 hO4) q5d⟩);have l4:=q1H m0.good HKS.out hs4;have m4:=m0.step fr4 hp4 hO4 l4.pre l4.good;have frw:Fr wr w4 Fi F4:=((Fr.ofBelow (Below.refl _ _).drew).trans fr4);have a4:=HAL.out.fr frw l4.pre;have jb:=qH (qp T0 p vs x bn bl) true m4.obj a4.us hU4 (a4.lst m4.good) l4.lst;unfold twF at jb;simp only[if_true]at jb)
      | (revert jb;intro jb;go_at_call 125;(with_reducible refine jb.mono ?_);rintro e w5 ⟨F5,i5,fr5,hp5,⟨L5,M5,q6,d6,hs5,rfl,hU5,hO5⟩|⟨hs5,rfl,M5,hpm5,hO5⟩⟩;(case inr=>exact⟨rfl,HQ.out _ _ (m4.bad (by rw[HRD.out,hs4];show bindM (twoM true al L4 M4) _=none;rw[hs5];rfl) fr5 hp5 hpm5 hO5) q5d⟩);have l5:=q8I m4.good a4.bd l4.bd hs5;have m5:=m4.step fr5 hp5 hO5 l5.pre l5.good;have fr5w:Fr wr w5 Fi F5:=(frw.trans fr5);have HRN:Hid (R=bindM (setM fuelN x (ks.drop (j+1)) L5 M5) fun m M1=>bindM (twoM false out m M1) fun o M2=>stepM fuelN x (l.drop (k+1)) o M2):=(by show _=_;rw[HRD.out,hs4];show bindM (twoM true al L4 M4) _=_;rw[hs5];rfl))
      |fail)
     all_goals
      have HM5:Hid _:=m5;have pr5:Mi <+: M5:=l4.pre.trans l5.pre;have HPR5:Hid (Mj <+: M5):=HPR.out.trans pr5;have HAL5:Hid (LH w5 F5 M5 q6 d6 L5):=⟨hU5,l5.len,l5.bd⟩;have HO5:Hid (LH w5 F5 M5 q5 d5 out):=HO.out.fr fr5w pr5;have HL5:Hid (LH w5 F5 M5 a c l):=HLL.out.fr fr5w pr5;have HI5:Hid (IU w5 F5 ia ic ks):=HIU.out.fr fr5w;clear ja jb HMI HPR HAL HO HLL HIU HRD m0 m4 m5 l4 l5 fr4 fr5 frw fr5w hU4 hU5 hO4 hO5 hs4 hs5 e0 e1 e2 e3 g0 g1 g2 g3 c5 cM c5d cMd hcI hixI a4 pr5;go_wp2
      go_roundw
      case rel=>exact⟨j+1,q6,d6,L5,F5,i5,M5,by omega,by go_num,rfl,HM5,HPR5,HAL5,HO5,HL5,HI5,HRN⟩
      case measure=>simp[intOf]<;>omega
    ·obtain rfl:j=ln:=by omega
     have HRF:Hid (R=bindM (twoM false out al Mi) fun o M2=>stepM fuelN x (l.drop (k+1)) o M2):=by
      show _=_
      rw[HR.out,List.drop_of_length_le (by have:=HLN.out;omega)]
      rfl
     have jo:=qeo (qp T0 p vs x bn bl) false HMI.out.obj HO.out.us HAL.out.us (HO.out.lst HMI.out.good) (HAL.out.lst HMI.out.good);unfold twF at jo;simp only[Bool.false_eq_true,if_false]at jo
     clear HR
     go_wp2_with fail
     refine jo.mono ?_
     rintro e w6 ⟨⟨F6,i6,fr6,hp6,⟨L6,M6,q7,d7,hs6,rfl,hU6,hO6⟩|⟨hs6,rfl,M6,hpm6,hO6⟩⟩,hnw⟩
     case inr=>exact⟨rfl,HQ.out _ _ (HMI.out.bad (by rw[HRF.out,hs6];rfl) fr6 hp6 hpm6 hO6) q5d⟩
     have HNW6:Hid (NewE w (.returned (.slice q7 L6.length d7))):=hnw.at HMI.out.fr.size;have l6:=q8I HMI.out.good HO.out.bd HAL.out.bd hs6;have HM6:Hid _:=HMI.out.step fr6 hp6 hO6 l6.pre l6.good;have HO6:Hid (LH w6 F6 M6 q7 d7 L6):=⟨hU6,l6.len,l6.bd⟩;have HL6:Hid (LH w6 F6 M6 a c l):=HLL.out.fr fr6 l6.pre;have HRN:Hid (R=stepM fuelN x (l.drop (k+1)) L6 M6):=by show _=_;rw[HRF.out,hs6];rfl
     clear jo HMI HPR HAL HO HLL HIU HRF l6 fr6 hU6 hO6 hs6 hnw;go_wp2
     go_roundw
     case rel=>exact⟨k+1,q7,d7,L6,F6,i6,M6,by omega,by go_num,rfl,HM6,HO6,HL6,HRN,HNW6⟩
     case measure=>simp[intOf]<;>omega
  ·obtain rfl:k=n:=by omega
   have HE:Hid (Q (.returned (.slice q5 out.length d5)) wr):=HQ.out _ _ ⟨Fj,ij,HMJ.out.fr,HMJ.out.hi,Or.inl ⟨out,Mj,q5,d5,by rw[HR.out,List.drop_of_length_le (by have:=HNL.out;omega)];rfl,rfl,HO.out.us,HMJ.out.obj⟩⟩ HNW.out
   clear HMJ HO HLL HR HNW;go_wp2;exact HE.out
def Erc (w:World) (b:Nat) (e:Int):Prop:=w.heap[b]? =some (.cells #[.int .i64 e] 25 (0,0))
theorem qbB(b:Nat)(e0:Int)(older:List PanicEntry)(w:World)(h1:Erc w b e0):
  CallsD Tryz.prog 123 #[.pointer (some ⟨b,0,none⟩)] (.panicking ({ v:=.iface 185 (.int .i64 9),recovered:=false }::older)) w fun e u' w'=>
   e=.returned (.tuple #[])/\u'=.panicking ({ v:=.iface 185 (.int .i64 9),recovered:=true }::older)/\Erc w' b 9/\w.grownBy w' (some b):=by
 refine callsD_of_wpS Tryz.func123 rfl fun c₀ cs hu=>?_
 have hta:∀w,(Instr.typeAssert (.iface 185 (.int .i64 9)) 20 185 true).run Tryz.prog w=.ok (.tuple #[.int .i64 9,.bool true]) w:=fun w=>by
  simp[Instr.typeAssert,go_sem]
 have f0:w.cell? ⟨b,0,none⟩=some (.int .i64 e0):=qb h1 0;have g0:w.frozen? ⟨b,0,none⟩=false:=frozen_of_row w b 0 _ _ h1;have lb:b<w.heap.size:=(aes h1).1
 have h2:=heap_setCell_same w b 0 _ _ (.int .i64 9) h1;have HR:Hid (Erc (w.setCell ⟨b,0,none⟩ (.int .i64 9)) b 9/\w.grownBy (w.setCell ⟨b,0,none⟩ (.int .i64 9)) (some b)):=⟨h2,⟨rfl,rfl,rfl,by simp,fun k hk hne=>Below.heap_setCell _ _ _ _ (fun e=>hne (congrArg some e))⟩⟩
 apply wpS_seq
 apply wpS_region
 simp[wpOpsS,go_sem,recoverD,hu,Tryz.ntmps123,Exit.thenS]
 refine wpS_of_wp ?_
 go_wp2;simp[bodyPostS,results,Tryz.results123]
 exact HR.out
theorem qbA(b:Nat)(w:World):
  CallsD Tryz.prog 123 #[.pointer (some ⟨b,0,none⟩)] .returning w fun e u' w'=>e=.returned (.tuple #[])/\u'=.returning/\w'=w:=by
 refine callsD_of_wpS Tryz.func123 rfl fun c₀ cs hu=>?_
 apply wpS_seq
 apply wpS_region
 simp[wpOpsS,go_sem,recoverD,hu,Tryz.ntmps123,Exit.thenS]
 refine wpS_of_wp ?_
 go_wp2
 cases c₀
 simp_all [bodyPostS,results,Tryz.results123]
theorem q3K(fid:Nat)(caps:Array Value)(w:World)(hE:EntersF fid)(P P':World->Prop)
  (hP:∀w1 w2 b,P w1->w1.grownBy w2 (some b)->b=w.heap.size->P w2) (hP':∀w1 w2 b,P' w1->w1.grownBy w2 (some b)->b=w.heap.size->P' w2)
  (jw:∀w0,w0=w.alloc (.cells #[.int .i64 0] 25)->Calls Tryz.prog fid caps w0 fun e w'=>(e=.returned (.tuple #[])/\P w'/\Erc w' w.heap.size 0)\/(e=.panicked thrownP/\P' w'/\Erc w' w.heap.size 0)):
  Calls Tryz.prog 94 #[.func (.func fid) #[] caps] w fun e w'=>(e=.returned (.int .i64 0)/\P w')\/(e=.returned (.int .i64 9)/\P' w'):=by
 have j0:=jw _ rfl;unfold EntersF at hE;clear jw;go_enter_defers Tryz.func94,Tryz.ntmps94
 go_wp2_with fail
 refine j0.mono ?_
 rintro e w1 (⟨rfl,hp,herc⟩|⟨rfl,hp,herc⟩)
 ·have f0:w1.cell? ⟨w.heap.size,0,none⟩=some (.int .i64 0):=qb herc 0
  have g0:w1.frozen? ⟨w.heap.size,0,none⟩=false:=frozen_of_row w1 _ 0 _ _ herc;have HP:Hid _:=hp;have HE2:Hid _:=herc;clear j0 hp herc;go_wp2;have k2:=heap_setCell_same w1 w.heap.size 0 _ _ (.int .i64 0) HE2.out;have hg:w1.grownBy (w1.setCell ⟨w.heap.size,0,none⟩ (.int .i64 0)) (some w.heap.size):=⟨rfl,rfl,rfl,by simp,fun k hk hne=>Below.heap_setCell _ _ _ _ (fun e=>hne (congrArg some e))⟩
  have hp2:=hP w1 _ _ HP.out hg rfl;refine leaves_cons (f:=123) (args:=#[.pointer (some ⟨w.heap.size,0,none⟩)]) (by simp) (by simp[go_sem]) ?_
  refine (qbA w.heap.size _).mono ?_
  rintro e u' w3 ⟨rfl,rfl,rfl⟩
  have f1:(w1.setCell ⟨w.heap.size,0,none⟩ (.int .i64 0)).cell? ⟨w.heap.size,0,none⟩=some (.int .i64 0):=qb k2 0;generalize w1.setCell ⟨w.heap.size,0,none⟩ (.int .i64 0)=W at *;simp[Leaves,settle,results,Tryz.results94,go_sem,f1]
  exact hp2
 ·refine leaves_cons (f:=123) (args:=#[.pointer (some ⟨w.heap.size,0,none⟩)]) (by simp) (by simp[go_sem]) ?_
  refine (qbB w.heap.size 0 [] w1 herc).mono ?_
  rintro e u' w2 ⟨rfl,rfl,herc2,hg2⟩
  have f1:w2.cell? ⟨w.heap.size,0,none⟩=some (.int .i64 9):=qb herc2 0;have hp2:=hP' w1 w2 _ hp hg2 rfl;simp[Leaves,settle,results,Tryz.results94,go_sem,f1]
  exact hp2
theorem qj7 {T0 : Tr} {p : Nat} {vs : Value} (x : Nat) {w w' : World} {F : Nat → Prop} {items : List It} {M : Mt} {bn bl : Nat} (h : PgO T0 w F p vs items M) (hb : Below w.heap.size w w') (h1 : MemM w' bn [] (fun _ => none)) (h2 : MemM w' bl [] (fun _ => none)) (hne : bn ≠ bl) (n1 : w.heap.size ≤ bn) (n2 : w.heap.size ≤ bl):
    RdO T0 p vs x bn bl w' (fun k=> F k ∨ k = bn ∨ k = bl) items M ∧ Fr w w' F (fun k=> F k ∨ k = bn ∨ k = bl) :=
  ⟨⟨F, [], [], _, _, h.up hb, h1, h2, hne, fun e=> by have := h.lt _ e; omega, fun e=> by have := h.lt _ e; omega, fun k=> Iff.rfl, fun i v hv=> (by cases hv), fun i v hv=> (by cases hv)⟩,
   ⟨hb.os, hb.tape, hb.output, hb.size, fun k hk _=> hb.block k hk, fun k hk=> by
    rcases hk with e | e | e
    · exact Or.inl e
    · right; omega
    · right; omega⟩⟩
theorem q9s{T0:Tr}{p:Nat}{vs:Value}(x:Nat){w:World}{F:Nat->Prop}{items:List It}{M:Mt}(h:PgO T0 w F p vs items M):
  Calls Tryz.prog 131 #[.pointer (some ⟨p,0,none⟩),.int .u8 (x:Int)] w fun e w'=>∃bn bl,e=.returned (rdV p x bn bl)/\RdO T0 p vs x bn bl w' (fun k=>F k\/k=bn\/k=bl) items M/\Fr w w' F (fun k=>F k\/k=bn\/k=bl)/\Below w.heap.size w w':=by
 have HH:Hid _:=h;have hmm:=@run_makeMap Tryz.prog;clear h;go_enter Tryz.func131,Tryz.ntmps131
 go_wp2;generalize hO:Obj.cells #[.pointer (some ⟨p,0,none⟩),.int .u8 (x:Int),.map (some (w.heap.size+1)),.map (some (w.heap.size+1+1))] 191=O
 have hb1:=qc w O;have hb2:=qc (w.alloc O) (.map #[] 0);have hb3:=qc ((w.alloc O).alloc (.map #[] 0)) (.map #[] 0);have hb:Below w.heap.size w (((w.alloc O).alloc (.map #[] 0)).alloc (.map #[] 0)):=qd (qd hb1 hb2) hb3;have z1:(w.alloc O).heap.size=w.heap.size+1:=by simp
 have z2:((w.alloc O).alloc (.map #[] 0)).heap.size=w.heap.size+1+1:=by simp
 have h1:MemM (((w.alloc O).alloc (.map #[] 0)).alloc (.map #[] 0)) (w.heap.size+1) [] (fun _=>none):=by
  have:=qcJ (w.alloc O)
  rw[z1]at this;exact this.far (hb3.block _ (by omega))
 have h2:MemM (((w.alloc O).alloc (.map #[] 0)).alloc (.map #[] 0)) (w.heap.size+1+1) [] (fun _=>none):=by
  have:=qcJ ((w.alloc O).alloc (.map #[] 0))
  rw[z2]at this;exact this
 have h0:(((w.alloc O).alloc (.map #[] 0)).alloc (.map #[] 0)).heap[w.heap.size]? =some O:=(hb3.block _ (by omega)).trans ((hb2.block _ (by omega)).trans (mha w O).1)
 clear hb3 z2;generalize ((w.alloc O).alloc (.map #[] 0)).alloc (.map #[] 0)=W at *;rw[<-hO]at h0;have e0:W.cell? ⟨w.heap.size,0,none⟩=some (.pointer (some ⟨p,0,none⟩)):=qb h0 0;have e1:W.cell? ⟨w.heap.size,1,none⟩=some (.int .u8 (x:Int)):=qb h0 1;have e2:W.cell? ⟨w.heap.size,2,none⟩=some (.map (some (w.heap.size+1))):=qb h0 2;have e3:W.cell? ⟨w.heap.size,3,none⟩=some (.map (some (w.heap.size+1+1))):=qb h0 3;obtain⟨r1,r2⟩:=qj7 x HH.out hb h1 h2 (by omega) (by omega) (by omega)
 refine bodyPost_ret (v:=rdV p x (w.heap.size+1) (w.heap.size+1+1)) (by simp[results,Tryz.results131,go_sem,e0,e1,e2,e3,rdV]) rfl ⟨_,_,rfl,r1,r2,hb⟩
theorem q85{T0:Tr}{p:Nat}{vs:Value}{w:World}{F:Nat->Prop}{items:List It}{M:Mt}(h:PgO T0 w F p vs items M)(a:Option Addr)(c:Nat)(l:List Nat)(hU:USl w a l.length c l)(sm:Sm l)(hl:l.length<=1024):
  Calls Tryz.prog 129 #[.pointer (some ⟨p,0,none⟩),.slice a l.length c] w fun e w'=>(∃b,e=.returned (.bool b)/\(b=true↔BdL l M.length))/\w'=w:=by
 obtain⟨G,mn,vm,met,hr,hF⟩:=h.ex;have c5:=hr.c5;obtain⟨ma,mc,rfl⟩:=qM hr.row;have hml:met.length=M.length:=hr.met.1;have hfew:=h.few;rw[hml]at c5;have hidx:=fun (i:Nat) (w:World) (h:i<l.length)=>hU.idx l.length i w h nlr
 have HC:Hid (∀i (h:i<l.length),w.cell? (adOf a i)=some (.int .u64 ((l[i]:Nat):Int))):=fun i hi=>by
  have:=hU.cell i hi
  rw[show (iU l).getD i 0=((l[i]:Nat):Int) by simp[iU,List.getD_eq_getElem?_getD,hi]]at this
  exact this
 have HSM:=hiq sm;clear h hr hF hU sm hml;obtain⟨n,hn⟩:∃n,n=l.length:=⟨_,rfl⟩
 have HNL:=hiq hn;rw[<-hn]at hidx hl ⊢;clear hn;generalize hm:M.length=m at *;clear hm;go_enter Tryz.func129,Tryz.ntmps129
 go_wp2
 go_loopw [9] (fun i wr=>∃k:Nat,k<=n/\i=.int .i64 (k:Int)/\wr=w/\Hid (BdL (l.take k) m)) (fun i _=>n-(intOf i).toNat)
 case atStart=>exact⟨0,Nat.zero_le _,rfl,rfl,by show BdL _ _;rw[List.take_zero];exact q1j false _⟩
 case round=>
  obtain⟨k,hk,rfl,rfl,HB⟩:=hrel;by_cases hlt:k<n
  ·have hkl:k<l.length:=by have:=HNL.out;omega
   have hc:=HC.out k hkl;have hix:=fun w'=>hidx k w' hlt
   have hs64:l[k]<2 ^ 64:=HSM.out _ (List.getElem_mem hkl)
   have HBN:Hid (l[k]<2 ^ m->BdL (l.take (k+1)) m):=fun hx s hs j hj=>by
    rw[List.take_add_one,List.mem_append]at hs;rcases hs with hs|hs
    ·exact HB.out s hs j hj
    ·rw[lge hkl]at hs
     simp at hs
     subst hs
     exact Nat.lt_of_not_le fun hle=>by
      have:=Nat.testBit_lt_two_pow (Nat.lt_of_lt_of_le hx (Nat.pow_le_pow_right (by decide) hle))
      rw[hj]at this;cases this
   have HBF:Hid (¬l[k]<2 ^ m->¬BdL l m):=fun hx hb=>hx (Nat.lt_pow_two_of_testBit _ fun j hj=>by
    cases ht:l[k].testBit j with
    |false=>rfl
    |true=>have:=hb _ (List.getElem_mem hkl) j ht;omega)
   generalize l[k]=y at *;clear HB;by_cases hy:y<2 ^ m
   ·have hz:((y:Int) / 2 ^ m)=0:=by
     rw[show ((2:Int) ^ m)=((2 ^ m:Nat):Int) by simp,<-Int.natCast_ediv,Nat.div_eq_of_lt hy];rfl
    have HBT:Hid _:=HBN.out hy;clear HBN HBF;go_wp2
    go_roundw
    case rel=>exact⟨k+1,by omega,by go_num,by first|trivial|rfl,HBT⟩
    case measure=>simp[intOf]<;>omega
   ·have hz:((y:Int) / 2 ^ m==0)=false:=by
     rw[show ((2:Int) ^ m)=((2 ^ m:Nat):Int) by simp,<-Int.natCast_ediv,beq_eq_false_iff_ne]
     have:0<y / 2 ^ m:=Nat.div_pos (by omega) (Nat.pow_pos (by decide))
     omega
    have HBT:Hid _:=HBF.out hy;clear HBN HBF;go_wp2;go_ret
    exact⟨⟨false,rfl,⟨fun h=>(by cases h),fun h=>absurd h HBT.out⟩⟩,rfl⟩
  ·obtain rfl:k=n:=by omega
   have HBT:Hid (BdL l m):=by
    have:=HB.out
    rw[List.take_of_length_le (by have:=HNL.out;omega)]at this
    exact this
   clear HB;go_wp2;go_ret
   exact⟨⟨true,rfl,⟨fun _=>HBT.out,fun _=>rfl⟩⟩,rfl⟩
structure StV (w:World) (F:Nat->Prop) (p x:Nat) (a:Option Addr) (n c:Nat) (v:Value) (b0 b1 b2 b3:Nat):Prop where
 h0:w.heap[b0]? =some (.cells #[.pointer (some ⟨p,0,none⟩)] 74 (0,0))
 h1:w.heap[b1]? =some (.cells #[.slice a n c] 46 (0,0))
 h2:w.heap[b2]? =some (.cells #[.int .u8 (x:Int)] 59 (0,0))
 h3:w.heap[b3]? =some (.cells #[v] 46 (0,0))
 n0:¬F b0
 n1:¬F b1
 n2:¬F b2
 n3:¬F b3
 d13:b1≠b3
theorem StV.fr{w w':World}{F F':Nat->Prop}{p x:Nat}{a:Option Addr}{n c:Nat}{v:Value}{b0 b1 b2 b3:Nat}(h:StV w F p x a n c v b0 b1 b2 b3)(fr:Fr w w' F F'):StV w' F' p x a n c v b0 b1 b2 b3 :=
 ⟨(qh h.h0 h.n0 fr).1,(qh h.h1 h.n1 fr).1,(qh h.h2 h.n2 fr).1,(qh h.h3 h.n3 fr).1,(qh h.h0 h.n0 fr).2,(qh h.h1 h.n1 fr).2,(qh h.h2 h.n2 fr).2,(qh h.h3 h.n3 fr).2,h.d13⟩
def StC (p x b0 b1 b2:Nat) (a:Option Addr) (n c:Nat) (w':World):Prop:=w'.cell? ⟨b0,0,none⟩=some (.pointer (some ⟨p,0,none⟩))/\w'.cell? ⟨b2,0,none⟩=some (.int .u8 (x:Int))/\w'.cell? ⟨b1,0,none⟩=some (.slice a n c)
theorem StV.cells{w:World}{F:Nat->Prop}{p x:Nat}{a:Option Addr}{n c:Nat}{v:Value}{b0 b1 b2 b3:Nat}(h:StV w F p x a n c v b0 b1 b2 b3):StC p x b0 b1 b2 a n c w:=⟨qb h.h0 0,qb h.h2 0,qb h.h1 0⟩
theorem StV.set{w:World}{F:Nat->Prop}{p x:Nat}{a:Option Addr}{n c:Nat}{v:Value}{b0 b1 b2 b3:Nat}(h:StV w F p x a n c v b0 b1 b2 b3)(u:Value):StC p x b0 b1 b2 a n c (w.setCell ⟨b3,0,none⟩ u):=by
 have e0:b0≠b3:=fun e=>by
  have:=h.h0
  rw[e,h.h3]at this;injection this with this;injection this with _ this _;exact absurd this (by decide)
 have e2:b2≠b3:=fun e=>by
  have:=h.h2
  rw[e,h.h3]at this;injection this with this;injection this with _ this _;exact absurd this (by decide)
 exact⟨qb ((Below.heap_setCell _ _ _ _ e0).trans h.h0) 0,qb ((Below.heap_setCell _ _ _ _ e2).trans h.h2) 0,qb ((Below.heap_setCell _ _ _ _ h.d13).trans h.h1) 0⟩
def StepQ (T0:Tr) (p:Nat) (vs:Value) (w:World) (F:Nat->Prop) (items:List It) (M:Mt) (b3:Nat) (R:Rt) (e:Ending) (w':World):Prop :=
 (e=.returned (.tuple #[])/\∃(L:List Nat) (M':Mt) (q:Option Addr) (d:Nat) (F':Nat->Prop) (items':List It),R=some (L,M')/\w'.heap[b3]? =some (.cells #[.slice q L.length d] 46 (0,0))/\PgO T0 w' F' p vs items' M'/\US w' F' q L.length d L/\¬F' b3/\items <+: items'/\M <+: M'/\Fr w w' (fun k=>F k\/k=b3) F'/\∀k,k<L.length->w.heap.size<=(adOf q k).block) \/
 (e=.panicked thrownP/\R=none/\∃(M':Mt) (F':Nat->Prop) (items':List It),PgO T0 w' F' p vs items' M'/\¬F' b3/\items <+: items'/\M <+: M'/\Fr w w' (fun k=>F k\/k=b3) F'/\w'.heap[b3]? =w.heap[b3]?)
theorem qje{w:World}{F:Nat->Prop}{a:Option Addr}{n c:Nat}{l:List Nat}{b:Nat}{T:TypeId}(h:US w F a n c l)(hb:w.heap[b]? =some (.cells #[.slice none 0 0] T (0,0))):∀k,k<n->(adOf a k).block≠b:=fun k hk e=>by
 have hc:=h.sl.cell k hk;unfold World.cell? at hc;rw[e,hb]at hc;simp at hc
 match ho:(adOf a k).off,hc with
 | 0,hc=>simp at hc
 |j+1,hc=>simp at hc
theorem qhe{T0:Tr}{p:Nat}{vs:Value}{x bn bl:Nat}{w w2:World}{F F2:Nat->Prop}{items i2:List It}{M M2:Mt}{b3:Nat}{R:Rt}{L:List Nat}{q:Option Addr}{d:Nat}(hR:R=some (L,M2))(h3:w2.heap[b3]? =some (.cells #[.slice none 0 0] 46 (0,0)))(n3:¬F2 b3)(fr:Fr w w2 F F2)(hp:items <+: i2)(hM:M <+: M2)(hU:US w2 F2 q L.length d L)(hO:RdO T0 p vs x bn bl w2 F2 i2 M2)(hnw:∀k,k<L.length->w.heap.size<=(adOf q k).block):
  StepQ T0 p vs w F items M b3 R (.returned (.tuple #[])) (w2.setCell ⟨b3,0,none⟩ (.slice q L.length d)):=by
 obtain⟨F1,kn,kl,fn,fl,hr⟩:=hO;have st:∀k,k≠b3->(w2.setCell ⟨b3,0,none⟩ (.slice q L.length d)).heap[k]? =w2.heap[k]? := fun k hk=>Below.heap_setCell _ _ _ _ hk
 have hoff:=qje hU h3;have hsub:∀k,F1 k->F2 k:=fun k hk=>(hr.ff k).2 (Or.inl hk)
 refine Or.inl ⟨rfl,L,M2,q,d,F1,i2,hR,?_,hr.pg.far fun k hk=>st k (fun e=>n3 (e ▸ hsub k hk)),⟨?_,fun k hk e=>hU.nf k hk (hsub _ e)⟩,fun e=>n3 (hsub _ e),hp,hM,?_,hnw⟩
 ·rw[heap_setCell_same w2 b3 0 _ _ _ h3];rfl
 ·have hs:=hU.sl
  refine⟨hs.hlen,hs.hcap,hs.bd,hs.idx,fun k hk=>?_,fun k hk=>by simp;exact hs.blk k hk,hs.nn⟩
  have:=hs.cell k hk
  unfold World.cell? at this ⊢;rw[st _ (hoff k hk)];exact this
 ·exact⟨fr.os,fr.tape,fr.output,by simp;exact fr.size,fun k hk hF=>(st k fun e=>hF (Or.inr e)).trans (fr.keep k hk fun e=>hF (Or.inl e)),fun k hk=>(fr.foot k (hsub k hk)).imp Or.inl id⟩
theorem qhd{T0:Tr}{p:Nat}{vs:Value}{x bn bl:Nat}{w w2:World}{F F2:Nat->Prop}{items i2:List It}{M M2:Mt}{b3:Nat}{R:Rt}(hR:R=none)(h3:w2.heap[b3]? =w.heap[b3]?)(n3:¬F2 b3)(fr:Fr w w2 F F2)(hp:items <+: i2)(hM:M <+: M2)(hO:RdO T0 p vs x bn bl w2 F2 i2 M2):
  StepQ T0 p vs w F items M b3 R (.panicked thrownP) w2:=by
 obtain⟨F1,kn,kl,fn,fl,hr⟩:=hO;have hsub:∀k,F1 k->F2 k:=fun k hk=>(hr.ff k).2 (Or.inl hk)
 exact Or.inr ⟨rfl,hR,M2,F1,i2,hr.pg,fun e=>n3 (hsub _ e),hp,hM,fr.alike (fun k hk=>Or.inl hk) hsub,h3⟩
theorem q87{T0:Tr}{p:Nat}{vs:Value}{x:Nat}(hx8:x<256){w:World}{F:Nat->Prop}{items:List It}{M:Mt}(h:PgO T0 w F p vs items M)(hT:Tab64 w)(hnG:¬F tabG)(a:Option Addr)(c:Nat)(l:List Nat)(hL:LH w F M a c l)(b0 b1 b2 b3:Nat)(hV:StV w F p x a l.length c (.slice none 0 0) b0 b1 b2 b3):
  Calls Tryz.prog 130 #[.pointer (some ⟨b0,0,none⟩),.pointer (some ⟨b2,0,none⟩),.pointer (some ⟨b1,0,none⟩),.pointer (some ⟨b3,0,none⟩)] w (StepQ T0 p vs w F items M b3 (stepM fuelN x l [] M)):=by
 have hVd:=hV.fr (Fr.ofBelow (F:=F) (Below.refl w.heap.size w).drew);have hk0:=hVd.cells;have hk00:=hV.cells;have jr:=q9s x (h.up (Below.refl w.heap.size w).drew);have HV:Hid _:=hVd;have HT:Hid (Tab64 w.drew):=hT.up (Below.refl _ _).drew;have HL:Hid (LH w.drew F M a c l):=hL.fr (Fr.ofBelow (Below.refl _ _).drew) (List.prefix_refl _);have HNG:=hiq hnG;have H0:Hid (T0k T0):=h.t0;have htl:Hid (tabG<w.heap.size):=World.block_lt_of_cell? _ _ (hT 0 (by decide))
 obtain⟨R,hR⟩:∃R,R=stepM fuelN x l [] M:=⟨_,rfl⟩
 rw[<-hR];have HR:Hid _:=hR;obtain⟨Q,hQ⟩:∃Q:Ending->World->Prop,Q=StepQ T0 p vs w F items M b3 R:=⟨_,rfl⟩
 have HQ:Hid (∀e w',StepQ T0 p vs w F items M b3 R e w'->Q e w'):=fun e w' h=>by rw[hQ];exact h
 rw[<-hQ];clear h hT hnG hL hV hVd hR hQ;generalize hN:l.length=n at *;have HN:Hid _:=hN;clear hN;unfold StC at *;unfold rdV at jr;go_enter Tryz.func130,Tryz.ntmps130
 go_wp2_with fail
 go_region_held2 (fun w'=>w'.cell? ⟨b0,0,none⟩=some (.pointer (some ⟨p,0,none⟩))/\w'.cell? ⟨b2,0,none⟩=some (.int .u8 (x:Int))/\w'.cell? ⟨b1,0,none⟩=some (.slice a n c)) (first|exact hk0|exact hk00|assumption|fail) (first
   | (revert jr;intro jr;go_at_call 131;(with_reducible refine jr.mono ?_);rintro e w1 ⟨bn,bl,rfl,hO1,fr1,hb1⟩;have hV1:=HV.out.fr fr1;have hk1:=hV1.cells;unfold StC at hk1;have js:=q9t hx8 hO1 (HT.out.up hb1) (fr1.out HNG.out htl.out) a c l (HL.out.fr fr1 (List.prefix_refl _)) H0.out;rw[HN.out,<-HR.out]at js;unfold rdV at js)
   | (revert js;intro js;go_at_call 132;(with_reducible refine js.mono ?_);rintro e w2 ⟨⟨F2,i2,fr2,hp2,⟨L2,M2,q2,d2,hs2,rfl,hU2,hO2⟩|⟨hs2,rfl,M2,hpm2,hO2⟩⟩,hnw2⟩;(case inr=>exact⟨rfl,HQ.out _ _ (qhd hs2 (((hV1.fr fr2).h3).trans HV.out.h3.symm) (hV1.fr fr2).n3 (((Fr.ofBelow (Below.refl _ _).drew).trans fr1).trans fr2) hp2 hpm2 hO2)⟩);have hV2:=hV1.fr fr2;have hk2:=hV2.cells;unfold StC at hk2;have hk3:=hV2.set (.slice q2 L2.length d2);unfold StC at hk3;have HE:Hid (Q (.returned (.tuple #[])) (w2.setCell ⟨b3,0,none⟩ (.slice q2 L2.length d2))):=(HQ.out _ _ (qhe hs2 hV2.h3 hV2.n3 (((Fr.ofBelow (Below.refl _ _).drew).trans fr1).trans fr2) hp2 (q2V fuelN x l [] M M2 L2 HL.out.bd (HR.out.symm.trans hs2)).1 hU2 hO2 ((hnw2.at ((Fr.ofBelow (Below.refl _ _).drew).trans fr1).size) _ _ _ rfl)));have z2:w2.cell? ⟨b3,0,none⟩=some (.slice none 0 0):=qb hV2.h3 0;have z3:w2.frozen? ⟨b3,0,none⟩=false:=frozen_of_row w2 b3 0 _ _ hV2.h3)
   |fail)
 all_goals
  clear jr js;go_wp2
  go_end0
  exact HE.out
theorem qfy{M:Mt}(hM:∀f∈M,SmT f)(nd:M.Nodup){i:Nat}(hi:i<M.length):nmF M (txOf M[i])=some i:=by
 rw[qcL hM (hM _ (List.getElem_mem hi)),List.findIdx?_eq_some_iff_getElem];refine⟨hi,by simp,fun j hj=>?_⟩
 intro e;have e':M[j]=M[i]:=by simpa using e
 have:=(List.getElem_inj nd).1 e'
 omega
theorem qfz{M:Mt}{y:ByteArray}{j:Nat}(h:nmF M y=some j):∃hj:j<M.length,txOf M[j]=y:=by
 unfold nmF at h;obtain⟨hj,h1,_⟩:=List.findIdx?_eq_some_iff_getElem.1 h;exact⟨hj,by simpa using h1⟩
def outN (M:Mt) (n i:Nat) (y:ByteArray):Option Nat:=(nmF M y).bind fun j=>if n<=j/\j<n+i then none else some j
theorem qfH(M:Mt)(n:Nat)(y:ByteArray):nmF M y=outN M n 0 y:=by
 unfold outN
 cases nmF M y with
 |none=>rfl
 |some j=>simp only[Option.bind_some];rw[if_neg (by omega)]
theorem qfG{M:Mt}(hM:∀f∈M,SmT f)(nd:M.Nodup){n i:Nat}(h:n+i<M.length)(y:ByteArray):(if y=txOf M[n+i] then none else outN M n i y)=outN M n (i+1) y:=by
 unfold outN;by_cases e:y=txOf M[n+i]
 ·rw[if_pos e,e,qfy hM nd h]
  simp only[Option.bind_some]
  rw[if_pos (by omega)]
 ·rw[if_neg e]
  cases hp:nmF M y with
  |none=>rfl
  |some j=>
   obtain⟨hj,ht⟩:=qfz hp;have:j≠n+i:=fun he=>e (by subst he;exact ht.symm)
   simp only[Option.bind_some]
   by_cases h1:n<=j/\j<n+i
   ·rw[if_pos h1,if_pos (by omega)]
   ·rw[if_neg h1,if_neg (by omega)]
theorem qeT{M:Mt}(hM:∀f∈M,SmT f)(nd:M.Nodup){n i:Nat}(h:n+i<M.length):(outN M n i (txOf M[n+i])).isSome=true:=by
 unfold outN;rw[qfy hM nd h];simp only[Option.bind_some]
 rw[if_neg (by omega)];rfl
theorem qgR{M:Mt}{n:Nat}(hn:n<=M.length)(y:ByteArray):outN M n (M.length-n) y=nmF (M.take n) y:=by
 unfold outN nmF
 have e:M.findIdx? (fun f=>decide (txOf f=y))=((M.take n).findIdx? fun f=>decide (txOf f=y)).or (((M.drop n).findIdx? fun f=>decide (txOf f=y)).map (· + (M.take n).length)):=by
  rw[<-List.findIdx?_append,List.take_append_drop]
 rw[e]
 cases h1:(M.take n).findIdx? fun f=>decide (txOf f=y) with
 |some j=>
  have hj:=(List.findIdx?_eq_some_iff_getElem.1 h1).1
  rw[List.length_take]at hj;simp only[Option.some_or,Option.bind_some]
  rw[if_neg (by omega)]
 |none=>
  simp only[Option.none_or]
  cases h2:(M.drop n).findIdx? fun f=>decide (txOf f=y) with
  |none=>rfl
  |some j=>
   have hj:=(List.findIdx?_eq_some_iff_getElem.1 h2).1
   rw[List.length_drop]at hj;simp only[Option.map_some,Option.bind_some,List.length_take]
   rw[if_pos (by omega)]
theorem q8d{w:World}{ops:Array Oper}{o:Oper}{a:Act}{K:Act->World->Prop}{Q:Exit->Act->World->Prop}{E:Prop}(hw:Region.wanted o (yielded ops a.tmps)=true)(m x:Operand)
  (ho:o.op=.call { callee:=.builtin .delete,args:=#[m,x],argTypes:=#[76,9] }) (b n:Nat) (f:ByteArray->Option Nat) (y:ByteArray) (hm:a.eval m=.map (some b)) (hx:a.eval x=.string y)
  (h:NumS w b n f) (hy:SOk y) (hf:(f y).isSome=true)
  (hK:∀w',NumS w' b (n-1) (fun z=>if z=y then none else f z)->w.grownBy w' (some b)->K (a.put o.dst (.tuple #[])) w'):
  if Region.wanted o (yielded ops a.tmps)=true then Oper.wp Tryz.prog o a w K Q else E:=by
 rw[if_pos hw];obtain⟨w',hr,h1,h2⟩:=h.drop hy hf o.type;unfold Oper.wp execOp;simp only[ho,resolve,invoke,builtin,Sem.run_bind,Sem.run_pure,Result.andThen_ok,List.map_toArray,List.map_cons,List.map_nil,hm,hx,hr]
 exact hK w' h1 h2
structure FgS (T0:Tr) (w wr:World) (G:Nat->Prop) (p mn:Nat) (vm vs:Value) (items:List It) (met:List Nat) (M:Mt) (n k:Nat):Prop where
 po:PtO T0 wr G p 128 (pgRest p mn vm vs) items
 num:NumS wr mn (met.length-k) (outN M n k)
 row:wr.ownsRow 0 3 1 vm met.length (encM met)
 fr:Fr w wr (FQ G mn vm) (FQ G mn vm)
theorem FgS.c4{T0:Tr}{w wr:World}{G:Nat->Prop}{p mn:Nat}{vm vs:Value}{items:List It}{met:List Nat}{M:Mt}{n k:Nat}(h:FgS T0 w wr G p mn vm vs items met M n k):wr.cell? ⟨p,4,none⟩=some (.map (some mn))/\wr.cell? ⟨p,5,none⟩=some vm/\wr.frozen? ⟨p,5,none⟩=false/\G p:=by
 obtain⟨vi,mp,vt,hb,hg⟩:=h.po.blk;exact⟨qb hb 4,qb hb 5,frozen_of_row wr p 5 _ _ hb,hg⟩
theorem FgS.next{T0:Tr}{w wr w1 w2:World}{G:Nat->Prop}{p mn:Nat}{vm vs:Value}{items:List It}{met:List Nat}{M:Mt}{n k:Nat}{y:ByteArray}(h:FgS T0 w wr G p mn vm vs items met M n k)(ng:¬G mn)(nv:∀q,vm.ownBlock=some q->¬G q)(ht:TextP T0 wr.drew G p 128 (pgRest p mn vm vs) items w1)
  (hn:NumS w2 mn (met.length-k-1) (fun z=>if z=y then none else outN M n k z)) (hy:∀z,(if z=y then none else outN M n k z)=outN M n (k+1) z) (hg:w1.grownBy w2 (some mn)):
  FgS T0 w w2 G p mn vm vs items met M n (k+1):=by
 have fr1:Fr wr w1 G G:=(Fr.ofBelow (Below.refl _ _).drew).trans ht.2;obtain⟨es,cl,hmap⟩:=h.num.isMap;have hvn:vm.ownBlock≠some mn:=q2H h.row hmap fun cs e=>by cases e
 have st:∀q,q<w1.heap.size->q≠mn->w2.heap[q]? =w1.heap[q]? := fun q hq hne=>hg.block q hq (fun e=>hne (by injection e))
 have hs1:=fr1.size;refine⟨ht.1.far fun q hq=>st q (ht.1.lt q hq) (fun e=>ng (e ▸ hq)),?_,qs h.row fun q hq=>(st q (by have:=qS h.row q hq;omega) (fun e=>hvn (e ▸ hq))).trans (fr1.keep q (qS h.row q hq) (nv q hq)),h.fr.trans ⟨hg.os.trans fr1.os,hg.tape.trans fr1.tape,hg.output.trans fr1.output,Nat.le_trans fr1.size hg.size,fun q hq hF=>(st q (by omega) (fun e=>hF (Or.inr (Or.inl e)))).trans (fr1.keep q hq fun e=>hF (Or.inl e)),fun _ hq=>Or.inl hq⟩⟩
 rw[show met.length-(k+1)=met.length-k-1 by omega]
 exact hn.alike fun z _=>hy z
theorem qeA{T0:Tr}{w wr:World}{F G:Nat->Prop}{p mn:Nat}{va:Option Addr}{vc L:Nat}{vs:Value}{items:List It}{met:List Nat}{M:Mt}{n:Nat}(h:PgO T0 w F p vs items M)(hr:PgR T0 w G p mn (.slice va L vc) vs items met M)(hF:∀k,F k↔FQ G mn (.slice va L vc) k)(hL:met.length=L)(hn:n<=M.length)(hS:FgS T0 w wr G p mn (.slice va L vc) vs items met M n (L-n)):
  ∃F',PgO T0 (wr.setCell ⟨p,5,none⟩ (.slice va n vc)) F' p vs items (M.take n)/\Fr w (wr.setCell ⟨p,5,none⟩ (.slice va n vc)) F F':=by
 have hml:=hr.met.1;have hrow:=hS.row;rw[hL]at hrow;obtain⟨va',vc',vb,e,_,hown,_,_,hob⟩:=q8t hrow (m:=n) (by omega)
 injection e with e1 _ e3;subst e1 e3;obtain⟨_,_,_,hgp⟩:=hS.c4;have hob':(Value.slice va n vc).ownBlock=(Value.slice va L vc).ownBlock:=hob;have st:∀k,k≠p->(wr.setCell ⟨p,5,none⟩ (.slice va n vc)).heap[k]? =wr.heap[k]? := fun k hk=>Below.heap_setCell _ _ _ _ hk
 have hmlen:(met.take n).length=n:=by rw[List.length_take];omega
 have hMlen:(M.take n).length=n:=by rw[List.length_take];omega
 refine⟨FQ G mn (.slice va n vc),⟨by rw[hMlen];have:=h.few;omega,h.nd.sublist (List.take_sublist _ _),fun f hf=>h.of f (List.mem_of_mem_take hf),G,mn,.slice va n vc,met.take n,⟨hS.po.setRest (j:=2) (.slice va n vc),?_,?_,⟨by rw[hmlen,hMlen],fun q i hq=>?_⟩,hr.ng,fun q hq=>hr.nv q (hob' ▸ hq)⟩,fun k=>Iff.rfl⟩,?_⟩
 ·rw[hmlen]
  exact qs hown fun q hq=>st q (fun e=>hr.nv q (hob' ▸ hq) (e ▸ hgp))
 ·rw[hmlen]
  have h1:=hS.num;rw[show met.length-(L-n)=n by omega,show L-n=M.length-n by omega]at h1
  exact(h1.far (st mn (fun e=>hr.ng (e ▸ hgp)))).alike fun y _=>qgR hn y
 ·have hqn:q<n:=by have:=(List.getElem?_eq_some_iff.1 hq).1;omega
  rw[List.getElem?_take,if_pos hqn]at hq;obtain⟨S,h1,h2⟩:=hr.met.2 q i hq;exact⟨S,h1,by rw[List.getElem?_take,if_pos hqn];exact h2⟩
 ·have fr:=hS.fr
  exact⟨fr.os,fr.tape,fr.output,by simp;exact fr.size,fun k hk hf=>(st k fun e=>hf ((hF k).2 (Or.inl (e ▸ hgp)))).trans (fr.keep k hk fun e=>hf ((hF k).2 e)),fun k hk=>by
   refine (fr.foot k ?_).imp (fun e=>(hF k).2 e) id
   rcases hk with e|e|e
   ·exact Or.inl e
   ·exact Or.inr (Or.inl e)
   ·exact Or.inr (Or.inr (hob' ▸ e))⟩
theorem q75{T0:Tr}{w:World}{F:Nat->Prop}{p:Nat}{vs:Value}{items:List It}{M:Mt}(h:PgO T0 w F p vs items M)(n:Nat)(hn:n<=M.length):
  Calls Tryz.prog 133 #[.pointer (some ⟨p,0,none⟩),.int .i64 (n:Int)] w fun e w'=>e=.returned (.tuple #[])/\∃F',PgO T0 w' F' p vs items (M.take n)/\Fr w w' F F':=by
 obtain⟨G,mn,vm,met,hr,hF⟩:=h.ex;have hml:=hr.met.1;obtain⟨va,vc,vb,rfl,hpre,_,hcut,_,_⟩:=q8t hr.row (m:=n) (by omega)
 have HH:Hid _:=h;have HRR:Hid _:=hr;have HF:Hid _:=hF;have HC0:Hid (FgS T0 w w G p mn (.slice va met.length vc) vs items met M n 0):=⟨hr.po,by rw[Nat.sub_zero];exact hr.num.alike fun y _=>qfH M n y,hr.row,Fr.ofBelow (Below.refl _ _)⟩
 have c5:=hr.c5;have HSM:Hid (∀f∈M,SmT f):=h.small h.t0.kt;have HML:=hiq hml;have HN:=hiq hn;have hfew:met.length<=64:=by have:=h.few;omega
 have hn64:n<=met.length:=by omega
 have HCUT:Hid _:=hcut;clear h hr hF hml hn;generalize hL:met.length=L at *;have HL:=hiq hL;clear hL;go_enter Tryz.func133,Tryz.ntmps133
 go_wp2
 go_loopw [13] (fun i wr=>∃k:Nat,k<=L-n/\i=.int .i64 (k:Int)/\Hid (FgS T0 w wr G p mn (.slice va L vc) vs items met M n k)) (fun i _=>(L-n)-(intOf i).toNat)
 case atStart=>exact⟨0,Nat.zero_le _,rfl,HC0⟩
 case round=>
  obtain⟨k,hk,rfl,HC⟩:=hrel;clear HC0 c5;by_cases hlt:k<L-n
  ·have hkm:n+k<met.length:=by have:=HL.out;omega
   have hkM:n+k<M.length:=by have:=HML.out;omega
   obtain⟨va',vc',vb',e',_,_,hcut',hns',_⟩:=q8t (show wr.ownsRow 0 3 1 (.slice va L vc) L (encM met) by have:=HC.out.row;rw[HL.out]at this;exact this) (m:=n) hn64
   injection e' with e1 e2 e3;subst e1 e3
   have eb:vb=vb':=by
    have:=(HCUT.out wr).symm.trans (hcut' wr)
    injection this with this;injection this
   subst eb;have hdl:k<(met.drop n).length:=by rw[List.length_drop];omega
   obtain⟨g1,o1,s1,hix,hcx⟩:=hns'.at k hdl;have hval:(met.drop n)[k]=met[n+k]:=by simp
   rw[hval]at hcx;obtain⟨S,hrep,hMk⟩:=HRR.out.met.2 (n+k) met[n+k] (lge hkm);have hMg:M[n+k]=S.flat:=by rw[lge hkM]at hMk;injection hMk
   obtain⟨S2,k2,i2,e2⟩:=HH.out.of S.flat (List.mem_of_getElem? hMk)
   have hw:S.WF:=by
    obtain⟨S3,h3,h4⟩:=HRR.out.po.cov _ hrep.lt;have:=Rep.tree hrep h3
    subst this;rcases q3a HRR.out.po.t0.kt h4 with q|q<;>exact q.wf
   have e:=q7f hw k2.wf e2;subst e;have jt:=q4D (HC.out.po.up (Below.refl _ _).drew) met[n+k] S hrep i2;have htx:txB S=txOf M[n+k]:=by rw[hMg];rfl
   have HSO:Hid (SOk (txB S)):=by unfold Hid SOk;rw[q7A];have:=(q55 HH.out.t0.sz i2).1;omega
   have HTH:Hid ((outN M n k (txB S)).isSome=true):=by rw[htx];exact qeT HSM.out HH.out.nd hkM
   have HNX:Hid (∀z,(if z=txB S then none else outN M n k z)=outN M n (k+1) z):=fun z=>by rw[htx];exact qfG HSM.out HH.out.nd hkM z
   obtain⟨c4,c5,z5,hgp⟩:=HC.out.c4;have c4d:wr.drew.cell? ⟨p,4,none⟩=some (.map (some mn)):=c4;have HPN:Hid (p≠mn):=fun e=>HRR.out.ng (e ▸ hgp)
   generalize txB S=tx at *;generalize met[n+k]=mi at *;clear hval hMg hMk hrep k2 i2 e2 hw htx hcut' hns';go_wp2
   go_region_held2 (fun w'=>w'.cell? ⟨p,4,none⟩=some (.map (some mn))) (first|exact c4d|exact c4|assumption|fail) (first
    | (revert jt;intro jt;go_at_call 152;(with_reducible refine jt.mono ?_);rintro e w1 ⟨rfl,hq⟩;have hfr1:Fr wr w1 G G:=((Fr.ofBelow (Below.refl _ _).drew).trans hq.2);have hnum1:=HC.out.num.far (hfr1.keep mn HC.out.num.lt HRR.out.ng);have c41:w1.cell? ⟨p,4,none⟩=some (.map (some mn)):=(by obtain⟨vi,mp,vt,hb,_⟩:=hq.1.blk;exact qb hb 4))
    | (revert hnum1;intro hnum1;refine q8d rfl _ _ rfl mn _ (outN M n k) tx rfl rfl hnum1 HSO.out HTH.out ?_;intro w6 hn6 hg6;have c46:w6.cell? ⟨p,4,none⟩=some (.map (some mn)):=(by unfold World.cell? at c41 ⊢;rw[hg6.block p (by have:=hq.1.lt p hgp;exact this) (fun e=>HPN.out (by injection e))];exact c41))
    |fail)
   all_goals
    have HC6:Hid (FgS T0 w w6 G p mn (.slice va L vc) vs items met M n (k+1)):=HC.out.next HRR.out.ng HRR.out.nv hq hn6 HNX.out hg6;clear jt hnum1 hq hn6 hg6 hfr1 c4 c4d c41 c46 c5 z5 hix hcx;go_wp2
    go_roundw
    case rel=>exact⟨k+1,by omega,by go_num,HC6⟩
    case measure=>simp[intOf]<;>omega
  ·obtain rfl:k=L-n:=by omega
   obtain⟨c4,c5,z5,hgp⟩:=HC.out.c4;have HFIN:Hid _:=qeA HH.out HRR.out HF.out HL.out HN.out HC.out;clear HC;go_wp2
   go_end0
   exact⟨rfl,HFIN.out⟩
end Go.Proofs.YtailhklbmenaoaaGreatDoor
