/- Texts of the proof, put together: what it uses. -/
import Derived.Deep.RegionHeld2
import Derived.Test.YtekeaodpdcnfjaaGreatDoorX15
import Derived.Test.YtekeaodpdcnfjaaGreatDoorX18
set_option maxRecDepth 100000
set_option maxHeartbeats 16000000
namespace Go.Proofs.YtekeaodpdcnfjaaGreatDoor
open Go.RowKit Go.Maps
theorem q96{T0:Tr}{p:Nat}{vs:Value}{x bn bl:Nat}(op:Nat)(ho:op=11∨op=12)(c d:Tr)(kS:KT (.bin (op,0) c d))(hc:LvQ T0 p vs x bn bl 118 c)(hd:LvQ T0 p vs x bn bl 118 d):LvQ T0 p vs x bn bl 139 (.bin (op,0) c d):=by
 intro w F items M i h hi
 obtain ⟨pp,m,l,hx,hm,hl⟩:∃ pp m l:Nat,items[i]? = some ⟨op,pp,(m:Int),(l:Int)⟩∧Rep items m c∧Rep items l d:=by cases hi with | bin h h1 h2 h3 h4=>exact ⟨0,_,_,h,h3,h4⟩
 obtain ⟨F1,_,_,_,_,hrd⟩:=id h
 obtain ⟨G,rest,hpo⟩:=hrd.pg.part
 obtain ⟨a,n,cap,g,o,c0,hidx,x0,x1,x2,x3⟩:=(hpo.up (qc w (rdO p x bn bl))).at hx
 obtain ⟨m0,m00⟩:=qH h op pp (m:Int) ((l:Int))
 have hk0:=m0.cells
 have hk00:=m00.cells
 have HCL:Hid (∀ w':World,w'.heap[w.heap.size]? = some (rdO p x bn bl)→w'.heap[w.heap.size+1]? = some (itO ⟨op,pp,(m:Int),(l:Int)⟩)→MidS p x bn bl w.heap.size (m:Int) ((l:Int)) w'):=fun w' e1 e2=>⟨⟨qb e1 0,qb e1 1,qb e1 2,qb e1 3⟩,qb e2 2,qb e2 3⟩
 have hbx:=(MapKept.heap_alloc w (rdO p x bn bl)).1
 have r0:(w.alloc (rdO p x bn bl)).cell? ⟨w.heap.size,0,none⟩=some (.pointer (some ⟨p,0,none⟩)):=qb hbx 0
 obtain ⟨kc,kd⟩:=qB kS (by omega)
 have j1:=hc _ F items M m m0.obj hm
 obtain ⟨R,hR⟩:∃ R,R=aftC (.bin (op,0) c d) x M:=⟨_,rfl⟩
 have HR0:Hid (R=bindM (aftC c x M) fun a M1=>bindM (aftC d x M1) fun b M2=>twoM (op == 11) a b M2):=by show _=_;rw[hR];exact q5v kS ho x M
 rw[← hR]
 obtain ⟨Q,hQ⟩:∃ Q:Ending→World→Prop,Q=RetQ (RdO T0 p vs x bn bl) w F items M R:=⟨_,rfl⟩
 have HQ:Hid (∀ e w',RetQ (RdO T0 p vs x bn bl) w F items M R e w'→Q e w'):=fun e w' h=>by rw[hQ];exact h
 rw[← hQ]
 clear hrd hpo hR hQ hbx h hx
 have n0:((op:Int) == 0)=false:=by rw[beq_eq_false_iff_ne];omega
 have n4:((op:Int) == 4)=false:=by rw[beq_eq_false_iff_ne];omega
 have n1:((op:Int) == 1)=false:=by rw[beq_eq_false_iff_ne];omega
 have n5:((op:Int) == 5)=false:=by rw[beq_eq_false_iff_ne];omega
 have n2:((op:Int) == 2)=false:=by rw[beq_eq_false_iff_ne];omega
 have n6:((op:Int) == 6)=false:=by rw[beq_eq_false_iff_ne];omega
 have n7:((op:Int) == 7)=false:=by rw[beq_eq_false_iff_ne];omega
 have n8:((op:Int) == 8)=false:=by rw[beq_eq_false_iff_ne];omega
 have n15:((op:Int) == 15)=false:=by rw[beq_eq_false_iff_ne];omega
 have n16:((op:Int) == 16)=false:=by rw[beq_eq_false_iff_ne];omega
 have n17:((op:Int) == 17)=false:=by rw[beq_eq_false_iff_ne];omega

 rcases ho with ho | ho
 ·have n11:((op:Int) == 11)=true:=by rw[beq_iff_eq];omega
  have ob11:(op == 11)=true:=by simp[ho]
  rw[ob11]at HR0
  clear ho ob11
  unfold boxW itO rdO MidS at *
  unfold rdV at *
  dsimp only at *
  go_enter Tryz.func139,Tryz.ntmps139
  go_wp2_with fail
  go_region_held2 (fun w'=>(w'.cell? ⟨w.heap.size,0,none⟩=some (.pointer (some ⟨p,0,none⟩))∧w'.cell? ⟨w.heap.size,1,none⟩=some (.int .u8 (x:Int))∧w'.cell? ⟨w.heap.size,2,none⟩=some (.map (some bn))∧w'.cell? ⟨w.heap.size,3,none⟩=some (.map (some bl)))∧w'.cell? ⟨w.heap.size+1,2,none⟩=some (.int .i64 (m:Int))∧w'.cell? ⟨w.heap.size+1,3,none⟩=some (.int .i64 (l:Int))) (first | exact hk0 | exact hk00 | assumption | fail) (first
   | (revert j1;intro j1;go_at_call 118;(with_reducible refine j1.mono ?_);rintro e w1 ⟨F1,i1,fr1,hp1,⟨L1,M1,q1,d1,hs1,rfl,hU1,hO1⟩ | ⟨hs1,rfl,M1,hpm1,hO1⟩⟩;(case inr=>exact ⟨rfl,HQ.out _ _ (m0.bad (by rw[HR0.out,hs1];first | done | rfl) fr1 hp1 hpm1 hO1)⟩);have hr1:=HR0.out;rw[hs1]at hr1;dsimp only[bindM]at hr1;have HR1:Hid _:=hr1;clear hr1;have l1:=q1l m0.good kc hs1;have m1:=m0.step fr1 hp1 hO1 l1.pre l1.good;have hk1:=HCL.out _ m1.rb m1.xb;have j2:=hd _ F1 i1 M1 l m1.obj (hl.pre m1.hi);unfold rdV at j2)
   | (revert j2;intro j2;go_at_call 118;(with_reducible refine j2.mono ?_);rintro e w2 ⟨F2,i2,fr2,hp2,⟨L2,M2,q2,d2,hs2,rfl,hU2,hO2⟩ | ⟨hs2,rfl,M2,hpm2,hO2⟩⟩;(case inr=>exact ⟨rfl,HQ.out _ _ (m1.bad (by rw[HR1.out,hs2];first | done | rfl) fr2 hp2 hpm2 hO2)⟩);have hr2:=HR1.out;rw[hs2]at hr2;dsimp only[bindM]at hr2;have HR2:Hid _:=hr2;clear hr2;have l2:=q1l m1.good kd hs2;have m2:=m1.step fr2 hp2 hO2 l2.pre l2.good;have hk2:=HCL.out _ m2.rb m2.xb;have j3:=qF (qo T0 p vs x bn bl) true m2.obj (hU1.fr fr2) (hU2) l1.lst l2.lst;unfold twF at j3;simp only[if_true]at j3)
   | (revert j3;intro j3;go_at_call 79;(with_reducible refine j3.mono ?_);rintro e w3 ⟨F3,i3,fr3,hp3,⟨L3,M3,q3,d3,hs3,rfl,hU3,hO3⟩ | ⟨hs3,rfl,M3,hpm3,hO3⟩⟩;(case inr=>exact ⟨rfl,HQ.out _ _ (m2.bad (by rw[HR2.out,hs3];first | done | rfl) fr3 hp3 hpm3 hO3)⟩);have hk3:Hid (Q (.returned (.slice q3 L3.length d3)) w3):=(HQ.out _ _ (m2.fin (by rw[HR2.out,hs3];first | done | rfl) fr3 hp3 hU3 hO3));have hkk3:=HCL.out _ (qg m2.rb m2.rn fr3).1 (qg m2.xb m2.xn fr3).1)
   | fail)
  all_goals
   clear j1 j2 j3
   go_wp2
   exact hk3.out
 ·have n11:((op:Int) == 11)=false:=by rw[beq_eq_false_iff_ne];omega
  have n12:((op:Int) == 12)=true:=by rw[beq_iff_eq];omega
  have ob11:(op == 11)=false:=by simp[ho]
  rw[ob11]at HR0
  clear ho ob11
  unfold boxW itO rdO MidS at *
  unfold rdV at *
  dsimp only at *
  go_enter Tryz.func139,Tryz.ntmps139
  go_wp2_with fail
  go_region_held2 (fun w'=>(w'.cell? ⟨w.heap.size,0,none⟩=some (.pointer (some ⟨p,0,none⟩))∧w'.cell? ⟨w.heap.size,1,none⟩=some (.int .u8 (x:Int))∧w'.cell? ⟨w.heap.size,2,none⟩=some (.map (some bn))∧w'.cell? ⟨w.heap.size,3,none⟩=some (.map (some bl)))∧w'.cell? ⟨w.heap.size+1,2,none⟩=some (.int .i64 (m:Int))∧w'.cell? ⟨w.heap.size+1,3,none⟩=some (.int .i64 (l:Int))) (first | exact hk0 | exact hk00 | assumption | fail) (first
   | (revert j1;intro j1;go_at_call 118;(with_reducible refine j1.mono ?_);rintro e w1 ⟨F1,i1,fr1,hp1,⟨L1,M1,q1,d1,hs1,rfl,hU1,hO1⟩ | ⟨hs1,rfl,M1,hpm1,hO1⟩⟩;(case inr=>exact ⟨rfl,HQ.out _ _ (m0.bad (by rw[HR0.out,hs1];first | done | rfl) fr1 hp1 hpm1 hO1)⟩);have hr1:=HR0.out;rw[hs1]at hr1;dsimp only[bindM]at hr1;have HR1:Hid _:=hr1;clear hr1;have l1:=q1l m0.good kc hs1;have m1:=m0.step fr1 hp1 hO1 l1.pre l1.good;have hk1:=HCL.out _ m1.rb m1.xb;have j2:=hd _ F1 i1 M1 l m1.obj (hl.pre m1.hi);unfold rdV at j2)
   | (revert j2;intro j2;go_at_call 118;(with_reducible refine j2.mono ?_);rintro e w2 ⟨F2,i2,fr2,hp2,⟨L2,M2,q2,d2,hs2,rfl,hU2,hO2⟩ | ⟨hs2,rfl,M2,hpm2,hO2⟩⟩;(case inr=>exact ⟨rfl,HQ.out _ _ (m1.bad (by rw[HR1.out,hs2];first | done | rfl) fr2 hp2 hpm2 hO2)⟩);have hr2:=HR1.out;rw[hs2]at hr2;dsimp only[bindM]at hr2;have HR2:Hid _:=hr2;clear hr2;have l2:=q1l m1.good kd hs2;have m2:=m1.step fr2 hp2 hO2 l2.pre l2.good;have hk2:=HCL.out _ m2.rb m2.xb;have j3:=qF (qo T0 p vs x bn bl) false m2.obj (hU1.fr fr2) (hU2) l1.lst l2.lst;unfold twF at j3;simp only[Bool.false_eq_true,if_false]at j3)
   | (revert j3;intro j3;go_at_call 80;(with_reducible refine j3.mono ?_);rintro e w3 ⟨F3,i3,fr3,hp3,⟨L3,M3,q3,d3,hs3,rfl,hU3,hO3⟩ | ⟨hs3,rfl,M3,hpm3,hO3⟩⟩;(case inr=>exact ⟨rfl,HQ.out _ _ (m2.bad (by rw[HR2.out,hs3];first | done | rfl) fr3 hp3 hpm3 hO3)⟩);have hk3:Hid (Q (.returned (.slice q3 L3.length d3)) w3):=(HQ.out _ _ (m2.fin (by rw[HR2.out,hs3];first | done | rfl) fr3 hp3 hU3 hO3));have hkk3:=HCL.out _ (qg m2.rb m2.rn fr3).1 (qg m2.xb m2.xn fr3).1)
   | fail)
  all_goals
   clear j1 j2 j3
   go_wp2
   exact hk3.out
theorem q6X{T0:Tr}{p:Nat}{vs:Value}{x bn bl:Nat}(op:Nat)(ho:op=15∨op=16)(c d:Tr)(kS:KT (.bin (op,0) c d))(hS:InC T0 (.bin (op,0) c d))(hc:LvQ T0 p vs x bn bl 118 c)(hd:LvQ T0 p vs x bn bl 118 d):LvQ T0 p vs x bn bl 139 (.bin (op,0) c d):=by
 intro w F items M i h hi
 obtain ⟨pp,m,l,hx,hm,hl⟩:∃ pp m l:Nat,items[i]? = some ⟨op,pp,(m:Int),(l:Int)⟩∧Rep items m c∧Rep items l d:=by cases hi with | bin h h1 h2 h3 h4=>exact ⟨0,_,_,h,h3,h4⟩
 obtain ⟨F1,_,_,_,_,hrd⟩:=id h
 obtain ⟨G,rest,hpo⟩:=hrd.pg.part
 obtain ⟨a,n,cap,g,o,c0,hidx,x0,x1,x2,x3⟩:=(hpo.up (qc w (rdO p x bn bl))).at hx
 obtain ⟨m0,m00⟩:=qH h op pp (m:Int) ((l:Int))
 have hk0:=m0.cells
 have hk00:=m00.cells
 have HCL:Hid (∀ w':World,w'.heap[w.heap.size]? = some (rdO p x bn bl)→w'.heap[w.heap.size+1]? = some (itO ⟨op,pp,(m:Int),(l:Int)⟩)→MidS p x bn bl w.heap.size (m:Int) ((l:Int)) w'):=fun w' e1 e2=>⟨⟨qb e1 0,qb e1 1,qb e1 2,qb e1 3⟩,qb e2 2,qb e2 3⟩
 have hbx:=(MapKept.heap_alloc w (rdO p x bn bl)).1
 have r0:(w.alloc (rdO p x bn bl)).cell? ⟨w.heap.size,0,none⟩=some (.pointer (some ⟨p,0,none⟩)):=qb hbx 0
 obtain ⟨kc,kd⟩:=qB kS (by omega)
 have HI:Hid (Rep items i (.bin (op,0) c d)):=hi
 have HKS:Hid (KT (.bin (op,0) c d)∧InC T0 (.bin (op,0) c d)):=⟨kS,hS⟩
 have j1:=hd _ F items M l m0.obj hl
 obtain ⟨R,hR⟩:∃ R,R=aftC (.bin (op,0) c d) x M:=⟨_,rfl⟩
 have HR0:Hid (R=bindM (aftC d x M) fun b M1=>bindM (aftC c x M1) fun a M2=>bindM (needM (.bin (op,0) c d) M2) fun u M3=>bindM (twoM (op == 15) a u M3) fun v M4=>twoM (op == 16) b v M4):=by show _=_;rw[hR];exact qaO kS ho x M
 rw[← hR]
 obtain ⟨Q,hQ⟩:∃ Q:Ending→World→Prop,Q=RetQ (RdO T0 p vs x bn bl) w F items M R:=⟨_,rfl⟩
 have HQ:Hid (∀ e w',RetQ (RdO T0 p vs x bn bl) w F items M R e w'→Q e w'):=fun e w' h=>by rw[hQ];exact h
 rw[← hQ]
 clear hrd hpo hR hQ hbx h hx
 have n0:((op:Int) == 0)=false:=by rw[beq_eq_false_iff_ne];omega
 have n4:((op:Int) == 4)=false:=by rw[beq_eq_false_iff_ne];omega
 have n1:((op:Int) == 1)=false:=by rw[beq_eq_false_iff_ne];omega
 have n5:((op:Int) == 5)=false:=by rw[beq_eq_false_iff_ne];omega
 have n2:((op:Int) == 2)=false:=by rw[beq_eq_false_iff_ne];omega
 have n6:((op:Int) == 6)=false:=by rw[beq_eq_false_iff_ne];omega
 have n11:((op:Int) == 11)=false:=by rw[beq_eq_false_iff_ne];omega
 have n12:((op:Int) == 12)=false:=by rw[beq_eq_false_iff_ne];omega
 have n7:((op:Int) == 7)=false:=by rw[beq_eq_false_iff_ne];omega
 have n8:((op:Int) == 8)=false:=by rw[beq_eq_false_iff_ne];omega
 have n17:((op:Int) == 17)=false:=by rw[beq_eq_false_iff_ne];omega

 rcases ho with ho | ho
 ·have n15:((op:Int) == 15)=true:=by rw[beq_iff_eq];omega
  have ob15:(op == 15)=true:=by simp[ho]
  have ob16:(op == 16)=false:=by simp[ho]
  rw[ob15,ob16]at HR0
  clear ho ob15 ob16
  unfold boxW itO rdO MidS at *
  unfold rdV at *
  dsimp only at *
  go_enter Tryz.func139,Tryz.ntmps139
  go_wp2_with fail
  go_region_held2 (fun w'=>(w'.cell? ⟨w.heap.size,0,none⟩=some (.pointer (some ⟨p,0,none⟩))∧w'.cell? ⟨w.heap.size,1,none⟩=some (.int .u8 (x:Int))∧w'.cell? ⟨w.heap.size,2,none⟩=some (.map (some bn))∧w'.cell? ⟨w.heap.size,3,none⟩=some (.map (some bl)))∧w'.cell? ⟨w.heap.size+1,2,none⟩=some (.int .i64 (m:Int))∧w'.cell? ⟨w.heap.size+1,3,none⟩=some (.int .i64 (l:Int))) (first | exact hk0 | exact hk00 | assumption | fail) (first
   | (revert j1;intro j1;go_at_call 118;(with_reducible refine j1.mono ?_);rintro e w1 ⟨F1,i1,fr1,hp1,⟨L1,M1,q1,d1,hs1,rfl,hU1,hO1⟩ | ⟨hs1,rfl,M1,hpm1,hO1⟩⟩;(case inr=>exact ⟨rfl,HQ.out _ _ (m0.bad (by rw[HR0.out,hs1];first | done | rfl) fr1 hp1 hpm1 hO1)⟩);have hr1:=HR0.out;rw[hs1]at hr1;dsimp only[bindM]at hr1;have HR1:Hid _:=hr1;clear hr1;have l1:=q1l m0.good kd hs1;have m1:=m0.step fr1 hp1 hO1 l1.pre l1.good;have hk1:=HCL.out _ m1.rb m1.xb;have j2:=hc _ F1 i1 M1 m m1.obj (hm.pre m1.hi);unfold rdV at j2)
   | (revert j2;intro j2;go_at_call 118;(with_reducible refine j2.mono ?_);rintro e w2 ⟨F2,i2,fr2,hp2,⟨L2,M2,q2,d2,hs2,rfl,hU2,hO2⟩ | ⟨hs2,rfl,M2,hpm2,hO2⟩⟩;(case inr=>exact ⟨rfl,HQ.out _ _ (m1.bad (by rw[HR1.out,hs2];first | done | rfl) fr2 hp2 hpm2 hO2)⟩);have hr2:=HR1.out;rw[hs2]at hr2;dsimp only[bindM]at hr2;have HR2:Hid _:=hr2;clear hr2;have l2:=q1l m1.good kc hs2;have m2:=m1.step fr2 hp2 hO2 l2.pre l2.good;have hk2:=HCL.out _ m2.rb m2.xb;have j3:=qO m2.obj i _ (HI.out.pre m2.hi) HKS.out.1 HKS.out.2;unfold rdV at j3)
   | (revert j3;intro j3;go_at_call 148;(with_reducible refine j3.mono ?_);rintro e w3 ⟨F3,i3,fr3,hp3,⟨L3,M3,q3,d3,hs3,rfl,hU3,hO3⟩ | ⟨hs3,rfl,M3,hpm3,hO3⟩⟩;(case inr=>exact ⟨rfl,HQ.out _ _ (m2.bad (by rw[HR2.out,hs3];first | done | rfl) fr3 hp3 hpm3 hO3)⟩);have hr3:=HR2.out;rw[hs3]at hr3;dsimp only[bindM]at hr3;have HR3:Hid _:=hr3;clear hr3;have l3:=q2X m2.good HKS.out.1 hs3;have m3:=m2.step fr3 hp3 hO3 l3.pre l3.good;have hk3:=HCL.out _ m3.rb m3.xb;have j4:=qF (qo T0 p vs x bn bl) true m3.obj (hU2.fr fr3) (hU3) l2.lst l3.lst;unfold twF at j4;simp only[if_true]at j4)
   | (revert j4;intro j4;go_at_call 79;(with_reducible refine j4.mono ?_);rintro e w4 ⟨F4,i4,fr4,hp4,⟨L4,M4,q4,d4,hs4,rfl,hU4,hO4⟩ | ⟨hs4,rfl,M4,hpm4,hO4⟩⟩;(case inr=>exact ⟨rfl,HQ.out _ _ (m3.bad (by rw[HR3.out,hs4];first | done | rfl) fr4 hp4 hpm4 hO4)⟩);have hr4:=HR3.out;rw[hs4]at hr4;dsimp only[bindM]at hr4;have HR4:Hid _:=hr4;clear hr4;have l4:=q6F m3.good (l2.mono l3.pre) (l3.bd) hs4;have m4:=m3.step fr4 hp4 hO4 l4.pre l4.good;have hk4:=HCL.out _ m4.rb m4.xb;have j5:=qF (qo T0 p vs x bn bl) false m4.obj (((hU1.fr fr2).fr fr3).fr fr4) (hU4) l1.lst l4.lst;unfold twF at j5;simp only[Bool.false_eq_true,if_false]at j5)
   | (revert j5;intro j5;go_at_call 80;(with_reducible refine j5.mono ?_);rintro e w5 ⟨F5,i5,fr5,hp5,⟨L5,M5,q5,d5,hs5,rfl,hU5,hO5⟩ | ⟨hs5,rfl,M5,hpm5,hO5⟩⟩;(case inr=>exact ⟨rfl,HQ.out _ _ (m4.bad (by rw[HR4.out,hs5];first | done | rfl) fr5 hp5 hpm5 hO5)⟩);have hk5:Hid (Q (.returned (.slice q5 L5.length d5)) w5):=(HQ.out _ _ (m4.fin (by rw[HR4.out,hs5];first | done | rfl) fr5 hp5 hU5 hO5));have hkk5:=HCL.out _ (qg m4.rb m4.rn fr5).1 (qg m4.xb m4.xn fr5).1)
   | fail)
  all_goals
   clear j1 j2 j3 j4 j5
   go_wp2
   exact hk5.out
 ·have n15:((op:Int) == 15)=false:=by rw[beq_eq_false_iff_ne];omega
  have n16:((op:Int) == 16)=true:=by rw[beq_iff_eq];omega
  have ob15:(op == 15)=false:=by simp[ho]
  have ob16:(op == 16)=true:=by simp[ho]
  rw[ob15,ob16]at HR0
  clear ho ob15 ob16
  unfold boxW itO rdO MidS at *
  unfold rdV at *
  dsimp only at *
  go_enter Tryz.func139,Tryz.ntmps139
  go_wp2_with fail
  go_region_held2 (fun w'=>(w'.cell? ⟨w.heap.size,0,none⟩=some (.pointer (some ⟨p,0,none⟩))∧w'.cell? ⟨w.heap.size,1,none⟩=some (.int .u8 (x:Int))∧w'.cell? ⟨w.heap.size,2,none⟩=some (.map (some bn))∧w'.cell? ⟨w.heap.size,3,none⟩=some (.map (some bl)))∧w'.cell? ⟨w.heap.size+1,2,none⟩=some (.int .i64 (m:Int))∧w'.cell? ⟨w.heap.size+1,3,none⟩=some (.int .i64 (l:Int))) (first | exact hk0 | exact hk00 | assumption | fail) (first
   | (revert j1;intro j1;go_at_call 118;(with_reducible refine j1.mono ?_);rintro e w1 ⟨F1,i1,fr1,hp1,⟨L1,M1,q1,d1,hs1,rfl,hU1,hO1⟩ | ⟨hs1,rfl,M1,hpm1,hO1⟩⟩;(case inr=>exact ⟨rfl,HQ.out _ _ (m0.bad (by rw[HR0.out,hs1];first | done | rfl) fr1 hp1 hpm1 hO1)⟩);have hr1:=HR0.out;rw[hs1]at hr1;dsimp only[bindM]at hr1;have HR1:Hid _:=hr1;clear hr1;have l1:=q1l m0.good kd hs1;have m1:=m0.step fr1 hp1 hO1 l1.pre l1.good;have hk1:=HCL.out _ m1.rb m1.xb;have j2:=hc _ F1 i1 M1 m m1.obj (hm.pre m1.hi);unfold rdV at j2)
   | (revert j2;intro j2;go_at_call 118;(with_reducible refine j2.mono ?_);rintro e w2 ⟨F2,i2,fr2,hp2,⟨L2,M2,q2,d2,hs2,rfl,hU2,hO2⟩ | ⟨hs2,rfl,M2,hpm2,hO2⟩⟩;(case inr=>exact ⟨rfl,HQ.out _ _ (m1.bad (by rw[HR1.out,hs2];first | done | rfl) fr2 hp2 hpm2 hO2)⟩);have hr2:=HR1.out;rw[hs2]at hr2;dsimp only[bindM]at hr2;have HR2:Hid _:=hr2;clear hr2;have l2:=q1l m1.good kc hs2;have m2:=m1.step fr2 hp2 hO2 l2.pre l2.good;have hk2:=HCL.out _ m2.rb m2.xb;have j3:=qO m2.obj i _ (HI.out.pre m2.hi) HKS.out.1 HKS.out.2;unfold rdV at j3)
   | (revert j3;intro j3;go_at_call 148;(with_reducible refine j3.mono ?_);rintro e w3 ⟨F3,i3,fr3,hp3,⟨L3,M3,q3,d3,hs3,rfl,hU3,hO3⟩ | ⟨hs3,rfl,M3,hpm3,hO3⟩⟩;(case inr=>exact ⟨rfl,HQ.out _ _ (m2.bad (by rw[HR2.out,hs3];first | done | rfl) fr3 hp3 hpm3 hO3)⟩);have hr3:=HR2.out;rw[hs3]at hr3;dsimp only[bindM]at hr3;have HR3:Hid _:=hr3;clear hr3;have l3:=q2X m2.good HKS.out.1 hs3;have m3:=m2.step fr3 hp3 hO3 l3.pre l3.good;have hk3:=HCL.out _ m3.rb m3.xb;have j4:=qF (qo T0 p vs x bn bl) false m3.obj (hU2.fr fr3) (hU3) l2.lst l3.lst;unfold twF at j4;simp only[Bool.false_eq_true,if_false]at j4)
   | (revert j4;intro j4;go_at_call 80;(with_reducible refine j4.mono ?_);rintro e w4 ⟨F4,i4,fr4,hp4,⟨L4,M4,q4,d4,hs4,rfl,hU4,hO4⟩ | ⟨hs4,rfl,M4,hpm4,hO4⟩⟩;(case inr=>exact ⟨rfl,HQ.out _ _ (m3.bad (by rw[HR3.out,hs4];first | done | rfl) fr4 hp4 hpm4 hO4)⟩);have hr4:=HR3.out;rw[hs4]at hr4;dsimp only[bindM]at hr4;have HR4:Hid _:=hr4;clear hr4;have l4:=q6F m3.good (l2.mono l3.pre) (l3.bd) hs4;have m4:=m3.step fr4 hp4 hO4 l4.pre l4.good;have hk4:=HCL.out _ m4.rb m4.xb;have j5:=qF (qo T0 p vs x bn bl) true m4.obj (((hU1.fr fr2).fr fr3).fr fr4) (hU4) l1.lst l4.lst;unfold twF at j5;simp only[if_true]at j5)
   | (revert j5;intro j5;go_at_call 79;(with_reducible refine j5.mono ?_);rintro e w5 ⟨F5,i5,fr5,hp5,⟨L5,M5,q5,d5,hs5,rfl,hU5,hO5⟩ | ⟨hs5,rfl,M5,hpm5,hO5⟩⟩;(case inr=>exact ⟨rfl,HQ.out _ _ (m4.bad (by rw[HR4.out,hs5];first | done | rfl) fr5 hp5 hpm5 hO5)⟩);have hk5:Hid (Q (.returned (.slice q5 L5.length d5)) w5):=(HQ.out _ _ (m4.fin (by rw[HR4.out,hs5];first | done | rfl) fr5 hp5 hU5 hO5));have hkk5:=HCL.out _ (qg m4.rb m4.rn fr5).1 (qg m4.xb m4.xn fr5).1)
   | fail)
  all_goals
   clear j1 j2 j3 j4 j5
   go_wp2
   exact hk5.out
def wyF (box:Bool):FuncId:=if box then 151 else 150
def WyQ (T0:Tr) (p:Nat) (vs:Value) (x bn bl:Nat) (box:Bool) (r f:Tr):Prop:=∀ (w:World) (F:Nat→Prop) (items:List It) (M:Mt) (i k:Nat) (a:Option Addr) (c:Nat) (s:List Nat),RdO T0 p vs x bn bl w F items M→US w F a s.length c s→s.length≤1024→BdL s M.length→Rep items i r→Rep items k f →
 Calls Tryz.prog (wyF box) #[rdV p x bn bl,.int .i64 (i:Int),.slice a s.length c,.int .i64 (k:Int)] w (RetQ (RdO T0 p vs x bn bl) w F items M (pthC box r s f x M))
theorem q97{T0:Tr}{p:Nat}{vs:Value}{x bn bl:Nat}(op:Nat)(ho:op=17∨op=18)(c d:Tr)(kS:KT (.bin (op,0) c d))(hd:LvQ T0 p vs x bn bl 118 d)(hw:∀ box,box=(op == 18)→WyQ T0 p vs x bn bl box c d):LvQ T0 p vs x bn bl 139 (.bin (op,0) c d):=by
 intro w F items M i h hi
 obtain ⟨pp,m,l,hx,hm,hl⟩:∃ pp m l:Nat,items[i]? = some ⟨op,pp,(m:Int),(l:Int)⟩∧Rep items m c∧Rep items l d:=by cases hi with | bin h h1 h2 h3 h4=>exact ⟨0,_,_,h,h3,h4⟩
 obtain ⟨F1,_,_,_,_,hrd⟩:=id h
 obtain ⟨G,rest,hpo⟩:=hrd.pg.part
 obtain ⟨a,n,cap,g,o,c0,hidx,x0,x1,x2,x3⟩:=(hpo.up (qc w (rdO p x bn bl))).at hx
 obtain ⟨m0,m00⟩:=qH h op pp (m:Int) ((l:Int))
 have hk0:=m0.cells
 have hk00:=m00.cells
 have HCL:Hid (∀ w':World,w'.heap[w.heap.size]? = some (rdO p x bn bl)→w'.heap[w.heap.size+1]? = some (itO ⟨op,pp,(m:Int),(l:Int)⟩)→MidS p x bn bl w.heap.size (m:Int) ((l:Int)) w'):=fun w' e1 e2=>⟨⟨qb e1 0,qb e1 1,qb e1 2,qb e1 3⟩,qb e2 2,qb e2 3⟩
 have hbx:=(MapKept.heap_alloc w (rdO p x bn bl)).1
 have r0:(w.alloc (rdO p x bn bl)).cell? ⟨w.heap.size,0,none⟩=some (.pointer (some ⟨p,0,none⟩)):=qb hbx 0
 obtain ⟨kc,kd⟩:=q1e kS (by omega)
 have HW:Hid ((op=17→WyQ T0 p vs x bn bl false c d)∧(op=18→WyQ T0 p vs x bn bl true c d)):=⟨fun h=>hw false (by rw[h];rfl),fun h=>hw true (by rw[h];rfl)⟩
 have j1:=hd _ F items M l m0.obj hl
 obtain ⟨R,hR⟩:∃ R,R=aftC (.bin (op,0) c d) x M:=⟨_,rfl⟩
 have HR0:Hid (R=bindM (aftC d x M) fun s M1=>pthC (op == 18) c s d x M1):=by show _=_;rw[hR];exact qbW kS ho x M
 rw[← hR]
 obtain ⟨Q,hQ⟩:∃ Q:Ending→World→Prop,Q=RetQ (RdO T0 p vs x bn bl) w F items M R:=⟨_,rfl⟩
 have HQ:Hid (∀ e w',RetQ (RdO T0 p vs x bn bl) w F items M R e w'→Q e w'):=fun e w' h=>by rw[hQ];exact h
 rw[← hQ]
 clear hrd hpo hR hQ hbx h hx
 have n0:((op:Int) == 0)=false:=by rw[beq_eq_false_iff_ne];omega
 have n4:((op:Int) == 4)=false:=by rw[beq_eq_false_iff_ne];omega
 have n1:((op:Int) == 1)=false:=by rw[beq_eq_false_iff_ne];omega
 have n5:((op:Int) == 5)=false:=by rw[beq_eq_false_iff_ne];omega
 have n2:((op:Int) == 2)=false:=by rw[beq_eq_false_iff_ne];omega
 have n6:((op:Int) == 6)=false:=by rw[beq_eq_false_iff_ne];omega
 have n11:((op:Int) == 11)=false:=by rw[beq_eq_false_iff_ne];omega
 have n12:((op:Int) == 12)=false:=by rw[beq_eq_false_iff_ne];omega
 have n7:((op:Int) == 7)=false:=by rw[beq_eq_false_iff_ne];omega
 have n8:((op:Int) == 8)=false:=by rw[beq_eq_false_iff_ne];omega
 have n15:((op:Int) == 15)=false:=by rw[beq_eq_false_iff_ne];omega
 have n16:((op:Int) == 16)=false:=by rw[beq_eq_false_iff_ne];omega

 rcases ho with ho | ho
 ·have n17:((op:Int) == 17)=true:=by rw[beq_iff_eq];omega
  have ob18:(op == 18)=false:=by simp[ho]
  rw[ob18]at HR0
  have HW1:Hid _:=HW.out.1 ho
  clear ho ob18
  unfold boxW itO rdO MidS at *
  unfold rdV at *
  dsimp only at *
  go_enter Tryz.func139,Tryz.ntmps139
  go_wp2_with fail
  go_region_held2 (fun w'=>(w'.cell? ⟨w.heap.size,0,none⟩=some (.pointer (some ⟨p,0,none⟩))∧w'.cell? ⟨w.heap.size,1,none⟩=some (.int .u8 (x:Int))∧w'.cell? ⟨w.heap.size,2,none⟩=some (.map (some bn))∧w'.cell? ⟨w.heap.size,3,none⟩=some (.map (some bl)))∧w'.cell? ⟨w.heap.size+1,2,none⟩=some (.int .i64 (m:Int))∧w'.cell? ⟨w.heap.size+1,3,none⟩=some (.int .i64 (l:Int))) (first | exact hk0 | exact hk00 | assumption | fail) (first
   | (revert j1;intro j1;go_at_call 118;(with_reducible refine j1.mono ?_);rintro e w1 ⟨F1,i1,fr1,hp1,⟨L1,M1,q1,d1,hs1,rfl,hU1,hO1⟩ | ⟨hs1,rfl,M1,hpm1,hO1⟩⟩;(case inr=>exact ⟨rfl,HQ.out _ _ (m0.bad (by rw[HR0.out,hs1];first | done | rfl) fr1 hp1 hpm1 hO1)⟩);have hr1:=HR0.out;rw[hs1]at hr1;dsimp only[bindM]at hr1;have HR1:Hid _:=hr1;clear hr1;have l1:=q1l m0.good kd hs1;have m1:=m0.step fr1 hp1 hO1 l1.pre l1.good;have hk1:=HCL.out _ m1.rb m1.xb;have j2:=HW1.out _ F1 i1 M1 m l _ _ L1 m1.obj hU1 l1.len l1.bd (hm.pre m1.hi) (hl.pre m1.hi);(try unfold wyF at j2);(try unfold rdV at j2);simp only[Bool.false_eq_true,if_false]at j2)
   | (revert j2;intro j2;go_at_call 150;(with_reducible refine j2.mono ?_);rintro e w2 ⟨F2,i2,fr2,hp2,⟨L2,M2,q2,d2,hs2,rfl,hU2,hO2⟩ | ⟨hs2,rfl,M2,hpm2,hO2⟩⟩;(case inr=>exact ⟨rfl,HQ.out _ _ (m1.bad (by rw[HR1.out,hs2];first | done | rfl) fr2 hp2 hpm2 hO2)⟩);have hk2:Hid (Q (.returned (.slice q2 L2.length d2)) w2):=(HQ.out _ _ (m1.fin (by rw[HR1.out,hs2];first | done | rfl) fr2 hp2 hU2 hO2));have hkk2:=HCL.out _ (qg m1.rb m1.rn fr2).1 (qg m1.xb m1.xn fr2).1)
   | fail)
  all_goals
   clear j1 j2
   go_wp2
   exact hk2.out
 ·have n17:((op:Int) == 17)=false:=by rw[beq_eq_false_iff_ne];omega
  have n18:((op:Int) == 18)=true:=by rw[beq_iff_eq];omega
  have ob18:(op == 18)=true:=by simp[ho]
  rw[ob18]at HR0
  have HW1:Hid _:=HW.out.2 ho
  clear ho ob18
  unfold boxW itO rdO MidS at *
  unfold rdV at *
  dsimp only at *
  go_enter Tryz.func139,Tryz.ntmps139
  go_wp2_with fail
  go_region_held2 (fun w'=>(w'.cell? ⟨w.heap.size,0,none⟩=some (.pointer (some ⟨p,0,none⟩))∧w'.cell? ⟨w.heap.size,1,none⟩=some (.int .u8 (x:Int))∧w'.cell? ⟨w.heap.size,2,none⟩=some (.map (some bn))∧w'.cell? ⟨w.heap.size,3,none⟩=some (.map (some bl)))∧w'.cell? ⟨w.heap.size+1,2,none⟩=some (.int .i64 (m:Int))∧w'.cell? ⟨w.heap.size+1,3,none⟩=some (.int .i64 (l:Int))) (first | exact hk0 | exact hk00 | assumption | fail) (first
   | (revert j1;intro j1;go_at_call 118;(with_reducible refine j1.mono ?_);rintro e w1 ⟨F1,i1,fr1,hp1,⟨L1,M1,q1,d1,hs1,rfl,hU1,hO1⟩ | ⟨hs1,rfl,M1,hpm1,hO1⟩⟩;(case inr=>exact ⟨rfl,HQ.out _ _ (m0.bad (by rw[HR0.out,hs1];first | done | rfl) fr1 hp1 hpm1 hO1)⟩);have hr1:=HR0.out;rw[hs1]at hr1;dsimp only[bindM]at hr1;have HR1:Hid _:=hr1;clear hr1;have l1:=q1l m0.good kd hs1;have m1:=m0.step fr1 hp1 hO1 l1.pre l1.good;have hk1:=HCL.out _ m1.rb m1.xb;have j2:=HW1.out _ F1 i1 M1 m l _ _ L1 m1.obj hU1 l1.len l1.bd (hm.pre m1.hi) (hl.pre m1.hi);(try unfold wyF at j2);(try unfold rdV at j2);simp only[if_true]at j2)
   | (revert j2;intro j2;go_at_call 151;(with_reducible refine j2.mono ?_);rintro e w2 ⟨F2,i2,fr2,hp2,⟨L2,M2,q2,d2,hs2,rfl,hU2,hO2⟩ | ⟨hs2,rfl,M2,hpm2,hO2⟩⟩;(case inr=>exact ⟨rfl,HQ.out _ _ (m1.bad (by rw[HR1.out,hs2];first | done | rfl) fr2 hp2 hpm2 hO2)⟩);have hk2:Hid (Q (.returned (.slice q2 L2.length d2)) w2):=(HQ.out _ _ (m1.fin (by rw[HR1.out,hs2];first | done | rfl) fr2 hp2 hU2 hO2));have hkk2:=HCL.out _ (qg m1.rb m1.rn fr2).1 (qg m1.xb m1.xn fr2).1)
   | fail)
  all_goals
   clear j1 j2
   go_wp2
   exact hk2.out
theorem q8s{T0:Tr}{p:Nat}{vs:Value}{x bn bl:Nat}(op:Nat)(ho:op=7∨op=8)(c:Tr)(kS:KT (.un (op,0) c))(hS:InC T0 (.un (op,0) c)):LvQ T0 p vs x bn bl 139 (.un (op,0) c):=by
 intro w F items M i h hi
 obtain ⟨pp,m,hx,hm⟩:∃ pp m:Nat,items[i]? = some ⟨op,pp,(m:Int),-1⟩∧Rep items m c:=by cases hi with | un h h1 h2=>exact ⟨0,_,h,h2⟩
 obtain ⟨F1,_,_,_,_,hrd⟩:=id h
 obtain ⟨G,rest,hpo⟩:=hrd.pg.part
 obtain ⟨a,n,cap,g,o,c0,hidx,x0,x1,x2,x3⟩:=(hpo.up (qc w (rdO p x bn bl))).at hx
 obtain ⟨m0,m00⟩:=qH h op pp (m:Int) ((-1))
 have hk0:=m0.cells
 have hk00:=m00.cells
 have HCL:Hid (∀ w':World,w'.heap[w.heap.size]? = some (rdO p x bn bl)→w'.heap[w.heap.size+1]? = some (itO ⟨op,pp,(m:Int),(-1)⟩)→MidS p x bn bl w.heap.size (m:Int) ((-1)) w'):=fun w' e1 e2=>⟨⟨qb e1 0,qb e1 1,qb e1 2,qb e1 3⟩,qb e2 2,qb e2 3⟩
 have hbx:=(MapKept.heap_alloc w (rdO p x bn bl)).1
 have r0:(w.alloc (rdO p x bn bl)).cell? ⟨w.heap.size,0,none⟩=some (.pointer (some ⟨p,0,none⟩)):=qb hbx 0
 have kc:KT c:=by
  rcases kt_un kS with ⟨_,⟨h6,_⟩ | ⟨_,hc⟩⟩
  ·omega
  ·exact hc
 have HKS:Hid (KT c∧InC T0 c):=⟨kc,qdN hS⟩
 obtain ⟨R,hR⟩:∃ R,R=aftC (.un (op,0) c) x M:=⟨_,rfl⟩
 have HR0:Hid (R=bindM (needM (.leaf (if op=7 then 4 else 5,0)) M) fun a M1=>bindM (needM c M1) fun b M2=>twoM (op == 7) a b M2):=by show _=_;rw[hR];exact qb6 ho c x M
 rw[← hR]
 obtain ⟨Q,hQ⟩:∃ Q:Ending→World→Prop,Q=RetQ (RdO T0 p vs x bn bl) w F items M R:=⟨_,rfl⟩
 have HQ:Hid (∀ e w',RetQ (RdO T0 p vs x bn bl) w F items M R e w'→Q e w'):=fun e w' h=>by rw[hQ];exact h
 rw[← hQ]
 clear hrd hpo hR hQ hbx h hx
 have n0:((op:Int) == 0)=false:=by rw[beq_eq_false_iff_ne];omega
 have n4:((op:Int) == 4)=false:=by rw[beq_eq_false_iff_ne];omega
 have n1:((op:Int) == 1)=false:=by rw[beq_eq_false_iff_ne];omega
 have n5:((op:Int) == 5)=false:=by rw[beq_eq_false_iff_ne];omega
 have n2:((op:Int) == 2)=false:=by rw[beq_eq_false_iff_ne];omega
 have n6:((op:Int) == 6)=false:=by rw[beq_eq_false_iff_ne];omega
 have n11:((op:Int) == 11)=false:=by rw[beq_eq_false_iff_ne];omega
 have n12:((op:Int) == 12)=false:=by rw[beq_eq_false_iff_ne];omega
 have n15:((op:Int) == 15)=false:=by rw[beq_eq_false_iff_ne];omega
 have n16:((op:Int) == 16)=false:=by rw[beq_eq_false_iff_ne];omega
 have n17:((op:Int) == 17)=false:=by rw[beq_eq_false_iff_ne];omega

 rcases ho with ho | ho
 ·have n7:((op:Int) == 7)=true:=by rw[beq_iff_eq];omega
  have ob7:(op == 7)=true:=by simp[ho]
  rw[ob7]at HR0
  have j1:Calls Tryz.prog 149 #[.pointer (some ⟨p,0,none⟩),.int .u8 4] (boxW w p x bn bl op pp (m:Int) (-1)).drew (KeptQ T0 p vs x bn bl (boxW w p x bn bl op pp (m:Int) (-1)).drew F items M (.leaf (4,0))):=q2z m0.obj fun G rest hpo=>q3E hpo 4 (by simp)
  rw[show (if op=7 then 4 else 5)=4 by simp[ho]]at HR0
  clear ho ob7
  unfold boxW itO rdO MidS at *
  unfold rdV at *
  dsimp only at *
  go_enter Tryz.func139,Tryz.ntmps139
  go_wp2_with fail
  go_region_held2 (fun w'=>(w'.cell? ⟨w.heap.size,0,none⟩=some (.pointer (some ⟨p,0,none⟩))∧w'.cell? ⟨w.heap.size,1,none⟩=some (.int .u8 (x:Int))∧w'.cell? ⟨w.heap.size,2,none⟩=some (.map (some bn))∧w'.cell? ⟨w.heap.size,3,none⟩=some (.map (some bl)))∧w'.cell? ⟨w.heap.size+1,2,none⟩=some (.int .i64 (m:Int))∧w'.cell? ⟨w.heap.size+1,3,none⟩=some (.int .i64 (-1))) (first | exact hk0 | exact hk00 | assumption | fail) (first
   | (revert j1;intro j1;go_at_call 149;(with_reducible refine j1.mono ?_);rintro e w1 ⟨n1,i1,F1,rfl,hp1,hrep1,fr1,hO1⟩;have m1:=m0.step fr1 hp1 hO1 (List.prefix_refl _) m0.good;have hk1:=HCL.out _ m1.rb m1.xb;have HR1:Hid _:=HR0.out;have j2:=qO m1.obj n1 _ hrep1 (q2a 4 (by simp)) (q5D (by simp));unfold rdV at j2)
   | (revert j2;intro j2;go_at_call 148;(with_reducible refine j2.mono ?_);rintro e w2 ⟨F2,i2,fr2,hp2,⟨L2,M2,q2,d2,hs2,rfl,hU2,hO2⟩ | ⟨hs2,rfl,M2,hpm2,hO2⟩⟩;(case inr=>exact ⟨rfl,HQ.out _ _ (m1.bad (by rw[HR1.out,hs2];first | done | rfl) fr2 hp2 hpm2 hO2)⟩);have hr2:=HR1.out;rw[hs2]at hr2;dsimp only[bindM]at hr2;have HR2:Hid _:=hr2;clear hr2;have l2:=q2X m1.good (q2a 4 (by simp)) hs2;have m2:=m1.step fr2 hp2 hO2 l2.pre l2.good;have hk2:=HCL.out _ m2.rb m2.xb;have j3:=qO m2.obj m _ (hm.pre m2.hi) HKS.out.1 HKS.out.2;unfold rdV at j3)
   | (revert j3;intro j3;go_at_call 148;(with_reducible refine j3.mono ?_);rintro e w3 ⟨F3,i3,fr3,hp3,⟨L3,M3,q3,d3,hs3,rfl,hU3,hO3⟩ | ⟨hs3,rfl,M3,hpm3,hO3⟩⟩;(case inr=>exact ⟨rfl,HQ.out _ _ (m2.bad (by rw[HR2.out,hs3];first | done | rfl) fr3 hp3 hpm3 hO3)⟩);have hr3:=HR2.out;rw[hs3]at hr3;dsimp only[bindM]at hr3;have HR3:Hid _:=hr3;clear hr3;have l3:=q2X m2.good HKS.out.1 hs3;have m3:=m2.step fr3 hp3 hO3 l3.pre l3.good;have hk3:=HCL.out _ m3.rb m3.xb;have j4:=qF (qo T0 p vs x bn bl) true m3.obj (hU2.fr fr3) (hU3) l2.lst l3.lst;unfold twF at j4;simp only[if_true]at j4)
   | (revert j4;intro j4;go_at_call 79;(with_reducible refine j4.mono ?_);rintro e w4 ⟨F4,i4,fr4,hp4,⟨L4,M4,q4,d4,hs4,rfl,hU4,hO4⟩ | ⟨hs4,rfl,M4,hpm4,hO4⟩⟩;(case inr=>exact ⟨rfl,HQ.out _ _ (m3.bad (by rw[HR3.out,hs4];first | done | rfl) fr4 hp4 hpm4 hO4)⟩);have hk4:Hid (Q (.returned (.slice q4 L4.length d4)) w4):=(HQ.out _ _ (m3.fin (by rw[HR3.out,hs4];first | done | rfl) fr4 hp4 hU4 hO4));have hkk4:=HCL.out _ (qg m3.rb m3.rn fr4).1 (qg m3.xb m3.xn fr4).1)
   | fail)
  all_goals
   clear j1 j2 j3 j4
   go_wp2
   exact hk4.out
 ·have n7:((op:Int) == 7)=false:=by rw[beq_eq_false_iff_ne];omega
  have n8:((op:Int) == 8)=true:=by rw[beq_iff_eq];omega
  have ob7:(op == 7)=false:=by simp[ho]
  rw[ob7]at HR0
  have j1:Calls Tryz.prog 149 #[.pointer (some ⟨p,0,none⟩),.int .u8 5] (boxW w p x bn bl op pp (m:Int) (-1)).drew (KeptQ T0 p vs x bn bl (boxW w p x bn bl op pp (m:Int) (-1)).drew F items M (.leaf (5,0))):=q2z m0.obj fun G rest hpo=>q3E hpo 5 (by simp)
  rw[show (if op=7 then 4 else 5)=5 by simp[ho]]at HR0
  clear ho ob7
  unfold boxW itO rdO MidS at *
  unfold rdV at *
  dsimp only at *
  go_enter Tryz.func139,Tryz.ntmps139
  go_wp2_with fail
  go_region_held2 (fun w'=>(w'.cell? ⟨w.heap.size,0,none⟩=some (.pointer (some ⟨p,0,none⟩))∧w'.cell? ⟨w.heap.size,1,none⟩=some (.int .u8 (x:Int))∧w'.cell? ⟨w.heap.size,2,none⟩=some (.map (some bn))∧w'.cell? ⟨w.heap.size,3,none⟩=some (.map (some bl)))∧w'.cell? ⟨w.heap.size+1,2,none⟩=some (.int .i64 (m:Int))∧w'.cell? ⟨w.heap.size+1,3,none⟩=some (.int .i64 (-1))) (first | exact hk0 | exact hk00 | assumption | fail) (first
   | (revert j1;intro j1;go_at_call 149;(with_reducible refine j1.mono ?_);rintro e w1 ⟨n1,i1,F1,rfl,hp1,hrep1,fr1,hO1⟩;have m1:=m0.step fr1 hp1 hO1 (List.prefix_refl _) m0.good;have hk1:=HCL.out _ m1.rb m1.xb;have HR1:Hid _:=HR0.out;have j2:=qO m1.obj n1 _ hrep1 (q2a 5 (by simp)) (q5D (by simp));unfold rdV at j2)
   | (revert j2;intro j2;go_at_call 148;(with_reducible refine j2.mono ?_);rintro e w2 ⟨F2,i2,fr2,hp2,⟨L2,M2,q2,d2,hs2,rfl,hU2,hO2⟩ | ⟨hs2,rfl,M2,hpm2,hO2⟩⟩;(case inr=>exact ⟨rfl,HQ.out _ _ (m1.bad (by rw[HR1.out,hs2];first | done | rfl) fr2 hp2 hpm2 hO2)⟩);have hr2:=HR1.out;rw[hs2]at hr2;dsimp only[bindM]at hr2;have HR2:Hid _:=hr2;clear hr2;have l2:=q2X m1.good (q2a 5 (by simp)) hs2;have m2:=m1.step fr2 hp2 hO2 l2.pre l2.good;have hk2:=HCL.out _ m2.rb m2.xb;have j3:=qO m2.obj m _ (hm.pre m2.hi) HKS.out.1 HKS.out.2;unfold rdV at j3)
   | (revert j3;intro j3;go_at_call 148;(with_reducible refine j3.mono ?_);rintro e w3 ⟨F3,i3,fr3,hp3,⟨L3,M3,q3,d3,hs3,rfl,hU3,hO3⟩ | ⟨hs3,rfl,M3,hpm3,hO3⟩⟩;(case inr=>exact ⟨rfl,HQ.out _ _ (m2.bad (by rw[HR2.out,hs3];first | done | rfl) fr3 hp3 hpm3 hO3)⟩);have hr3:=HR2.out;rw[hs3]at hr3;dsimp only[bindM]at hr3;have HR3:Hid _:=hr3;clear hr3;have l3:=q2X m2.good HKS.out.1 hs3;have m3:=m2.step fr3 hp3 hO3 l3.pre l3.good;have hk3:=HCL.out _ m3.rb m3.xb;have j4:=qF (qo T0 p vs x bn bl) false m3.obj (hU2.fr fr3) (hU3) l2.lst l3.lst;unfold twF at j4;simp only[Bool.false_eq_true,if_false]at j4)
   | (revert j4;intro j4;go_at_call 80;(with_reducible refine j4.mono ?_);rintro e w4 ⟨F4,i4,fr4,hp4,⟨L4,M4,q4,d4,hs4,rfl,hU4,hO4⟩ | ⟨hs4,rfl,M4,hpm4,hO4⟩⟩;(case inr=>exact ⟨rfl,HQ.out _ _ (m3.bad (by rw[HR3.out,hs4];first | done | rfl) fr4 hp4 hpm4 hO4)⟩);have hk4:Hid (Q (.returned (.slice q4 L4.length d4)) w4):=(HQ.out _ _ (m3.fin (by rw[HR3.out,hs4];first | done | rfl) fr4 hp4 hU4 hO4));have hkk4:=HCL.out _ (qg m3.rb m3.rn fr4).1 (qg m3.xb m3.xn fr4).1)
   | fail)
  all_goals
   clear j1 j2 j3 j4
   go_wp2
   exact hk4.out
theorem q9B{T0:Tr}{p:Nat}{vs:Value}{x bn bl:Nat}{w w1 w':World}{F:Nat→Prop}{items:List It}{M:Mt}{R:Rt}{l:List Nat}{e:Ending}(h:RdO T0 p vs x bn bl w F items M)(hb:Below w.heap.size w w1)(hR:R=some (l,M))(hn:NewL l w1 e w'):RetQ (RdO T0 p vs x bn bl) w F items M R e w':=by
 rw[hR]
 exact (q3S (qo T0 p vs x bn bl) ((qo T0 p vs x bn bl).up h hb) hn).after (Fr.ofBelow hb) (List.prefix_refl _) (List.prefix_refl _)
theorem q98{T0:Tr}{p:Nat}{vs:Value}{x bn bl:Nat}(op:Nat)(ho:op=0∨op=4∨op=1∨op=5):LvQ T0 p vs x bn bl 139 (.leaf (op,0)):=by
 intro w F items M i h hi
 obtain ⟨pp,hx⟩:∃ pp:Nat,items[i]? = some ⟨op,pp,-1,-1⟩:=by cases hi with | leaf h=>exact ⟨0,h⟩
 obtain ⟨F1,_,_,_,_,hrd⟩:=id h
 obtain ⟨G,rest,hpo⟩:=hrd.pg.part
 obtain ⟨a,n,cap,g,o,c0,hidx,x0,x1,x2,x3⟩:=(hpo.up (qc w (rdO p x bn bl))).at hx
 have hbx:=(MapKept.heap_alloc w (rdO p x bn bl)).1
 have r0:(w.alloc (rdO p x bn bl)).cell? ⟨w.heap.size,0,none⟩=some (.pointer (some ⟨p,0,none⟩)):=qb hbx 0
 have hb:Below w.heap.size w (boxW w p x bn bl op pp (-1) (-1)):=qd (qc _ _) (qc _ _)
 have HN:Hid (∀ e w',NewL (yesM (op == 0 || op == 4)) (boxW w p x bn bl op pp (-1) (-1)) e w'→RetQ (RdO T0 p vs x bn bl) w F items M (aftC (.leaf (op,0)) x M) e w'):=fun e w' hn=>q9B h hb (by rw[q4J];rw[if_neg (by dsimp only;omega)]) hn
 have jj:=q1D (boxW w p x bn bl op pp (-1) (-1))
 clear hrd hpo hbx h hx hb hi
 generalize aftC (.leaf (op,0)) x M=R at *
 obtain ⟨Q,hQ⟩:∃ Q:Ending→World→Prop,Q=RetQ (RdO T0 p vs x bn bl) w F items M R:=⟨_,rfl⟩
 rw[← hQ]at HN ⊢
 clear hQ
 rcases ho with rfl | rfl | rfl | rfl
 ·unfold boxW itO rdO at *
  unfold rdV
  dsimp only at *
  go_enter Tryz.func139,Tryz.ntmps139
  go_wp2_with fail
  refine jj.mono ?_
  rintro e w1 ⟨q,C,rfl,hU,hb,hf⟩
  have HE:Hid (Q (.returned (.slice q [0].length C)) w1):=HN.out _ _ ⟨q,C,rfl,hU,hb,hf⟩
  clear jj hU hb hf
  go_wp2
  exact HE.out
 ·unfold boxW itO rdO at *
  unfold rdV
  dsimp only at *
  go_enter Tryz.func139,Tryz.ntmps139
  go_wp2_with fail
  refine jj.mono ?_
  rintro e w1 ⟨q,C,rfl,hU,hb,hf⟩
  have HE:Hid (Q (.returned (.slice q [0].length C)) w1):=HN.out _ _ ⟨q,C,rfl,hU,hb,hf⟩
  clear jj hU hb hf
  go_wp2
  exact HE.out
 ·have HE:Hid _:=HN.out _ _ (q3d _ _ (Below.refl _ _))
  unfold boxW itO rdO at *
  unfold rdV
  dsimp only at *
  clear jj
  go_enter Tryz.func139,Tryz.ntmps139
  go_wp2
  exact HE.out
 ·have HE:Hid _:=HN.out _ _ (q3d _ _ (Below.refl _ _))
  unfold boxW itO rdO at *
  unfold rdV
  dsimp only at *
  clear jj
  go_enter Tryz.func139,Tryz.ntmps139
  go_wp2
  exact HE.out
theorem q8t{T0:Tr}{p:Nat}{vs:Value}{x bn bl:Nat}(hx8:x<256)(q:Nat)(hq:q≤7):LvQ T0 p vs x bn bl 139 (.leaf (2,q)):=by
 intro w F items M i h hi
 obtain ⟨op,hop,hx⟩:∃ op:Nat,op=2∧items[i]? = some ⟨op,q,-1,-1⟩:=by cases hi with | leaf h=>exact ⟨2,rfl,h⟩
 obtain ⟨F1,_,_,_,_,hrd⟩:=id h
 obtain ⟨G,rest,hpo⟩:=hrd.pg.part
 obtain ⟨a,n,cap,g,o,c0,hidx,x0,x1,x2,x3⟩:=(hpo.up (qc w (rdO p x bn bl))).at hx
 obtain ⟨m0,m00⟩:=qH h op q (-1) (-1)
 have hbx:=(MapKept.heap_alloc w (rdO p x bn bl)).1
 have r0:(w.alloc (rdO p x bn bl)).cell? ⟨w.heap.size,0,none⟩=some (.pointer (some ⟨p,0,none⟩)):=qb hbx 0
 have s0:=m00.cells
 have s1:(boxW w p x bn bl op q (-1) (-1)).cell? ⟨w.heap.size+1,1,none⟩=some (.int .u8 (q:Int)):=qb m00.xb 1
 have hb:Below w.heap.size w (boxW w p x bn bl op q (-1) (-1)):=qd (qc _ _) (qc _ _)
 have hhas:=q4j p x bn bl q hx8 hq (boxW w p x bn bl op q (-1) (-1))
 have HN:Hid (∀ w1 e w',Below (boxW w p x bn bl op q (-1) (-1)).heap.size (boxW w p x bn bl op q (-1) (-1)) w1→NewL (yesM (x.testBit q)) w1 e w'→RetQ (RdO T0 p vs x bn bl) w F items M (aftC (.leaf (2,q)) x M) e w'):=fun w1 e w' hb1 hn=>q9B h (qd hb hb1) (by rw[q4J];rfl) hn
 clear hrd hpo hbx h hx hb hi m0 m00
 generalize aftC (.leaf (2,q)) x M=R at *
 obtain ⟨Q,hQ⟩:∃ Q:Ending→World→Prop,Q=RetQ (RdO T0 p vs x bn bl) w F items M R:=⟨_,rfl⟩
 rw[← hQ]at HN ⊢
 clear hQ
 have n0:((op:Int) == 0)=false:=by rw[beq_eq_false_iff_ne];omega
 have n1:((op:Int) == 1)=false:=by rw[beq_eq_false_iff_ne];omega
 have n4:((op:Int) == 4)=false:=by rw[beq_eq_false_iff_ne];omega
 have n5:((op:Int) == 5)=false:=by rw[beq_eq_false_iff_ne];omega
 have n2:((op:Int) == 2)=true:=by rw[beq_iff_eq];omega
 clear hop
 obtain ⟨⟨s00,s01,s02,s03⟩,_⟩:=s0
 unfold boxW itO rdO at *
 unfold rdV at *
 dsimp only at *
 go_enter Tryz.func139,Tryz.ntmps139
 go_wp2_with fail
 refine hhas.mono ?_
 rintro e w1 ⟨rfl,hb1⟩
 have jw:=q3H (x.testBit q) w1
 have HB1:Hid _:=hb1
 clear hhas hb1
 generalize x.testBit q=tb at *
 go_wp2_with fail
 refine jw.mono ?_
 intro e w2 hn
 have hn':=hn
 obtain ⟨qq,C,rfl,_⟩:=hn'
 have HE:Hid (Q (.returned (.slice qq (yesM tb).length C)) w2):=HN.out w1 _ _ HB1.out hn
 clear jw hn
 go_wp2
 exact HE.out
theorem q95{T0:Tr}{p:Nat}{vs:Value}{x bn bl:Nat}(hx8:x<256)(q:Nat)(hq:q≤7):LvQ T0 p vs x bn bl 139 (.un (6,0) (.leaf (2,q))):=by
 intro w F items M i h hi
 obtain ⟨op,pp,m,hop,hx,hm⟩:∃ op pp m:Nat,op=6∧items[i]? = some ⟨op,pp,(m:Int),-1⟩∧Rep items m (.leaf (2,q)):=by cases hi with | un h h1 h2=>exact ⟨6,0,_,rfl,h,h2⟩
 have hxm:items[m]? = some ⟨2,q,-1,-1⟩:=by cases hm with | leaf h=>exact h
 obtain ⟨m0,m00⟩:=qH h op pp (m:Int) (-1)
 have hb:Below w.heap.size w (boxW w p x bn bl op pp (m:Int) (-1)):=qd (qc _ _) (qc _ _)
 obtain ⟨F1,_,_,_,_,hrd⟩:=id h
 obtain ⟨G,rest,hpo⟩:=hrd.pg.part
 obtain ⟨a,n,cap,g,o,c0,hidx,x0,x1,x2,x3⟩:=(hpo.up (qc w (rdO p x bn bl))).at hx
 obtain ⟨a',n',cap',g',o',c0',hidx',_,y1,_,_⟩:=(hpo.up hb).at hxm
 have ea:Value.slice a n cap=.slice a' n' cap':=by
  have e1:=(hpo.up (qc w (rdO p x bn bl))).up (qc _ (itO ⟨op,pp,(m:Int),-1⟩))
  have e2:(boxW w p x bn bl op pp (m:Int) (-1)).cell? ⟨p,0,none⟩=(w.alloc (rdO p x bn bl)).cell? ⟨p,0,none⟩:=by
   obtain ⟨vi,mp,vt,hbk,_⟩:=(hpo.up (qc w (rdO p x bn bl))).blk
   obtain ⟨vi',mp',vt',hbk',_⟩:=e1.blk
   have hlt:=(Array.getElem?_eq_some_iff.1 hbk).1
   have:(boxW w p x bn bl op pp (m:Int) (-1)).heap[p]? = (w.alloc (rdO p x bn bl)).heap[p]? := (qc (w.alloc (rdO p x bn bl)) (itO ⟨op,pp,(m:Int),-1⟩)).block p hlt
   unfold World.cell?
   rw[this]
  rw[c0',c0]at e2
  injection e2 with e2
  exact e2.symm
 injection ea with ea1 ea2 ea3
 subst ea1 ea2 ea3
 have hbx:=(MapKept.heap_alloc w (rdO p x bn bl)).1
 have r0:(w.alloc (rdO p x bn bl)).cell? ⟨w.heap.size,0,none⟩=some (.pointer (some ⟨p,0,none⟩)):=qb hbx 0
 have hk0:=m0.cells
 have hk00:=m00.cells
 have hcc:(boxW w p x bn bl op pp (m:Int) (-1)).drew.cell? ⟨p,0,none⟩=some (.slice a n cap):=c0'
 have hyy:(boxW w p x bn bl op pp (m:Int) (-1)).drew.cell? ⟨g',o'+1,none⟩=some (.int .u8 (q:Int)):=y1
 have hhas:=q4j p x bn bl q hx8 hq (boxW w p x bn bl op pp (m:Int) (-1)).drew
 have HN:Hid (∀ w1 e w',Below (boxW w p x bn bl op pp (m:Int) (-1)).drew.heap.size (boxW w p x bn bl op pp (m:Int) (-1)).drew w1→NewL (yesM (!x.testBit q)) w1 e w'→RetQ (RdO T0 p vs x bn bl) w F items M (aftC (.un (6,0) (.leaf (2,q))) x M) e w'):=fun w1 e w' hb1 hn=>q9B h (qd hb.drew hb1) (by rw[qbV];rfl) hn
 clear hrd hpo hbx h hx hb hi m0 m00 hm hxm
 generalize aftC (.un (6,0) (.leaf (2,q))) x M=R at *
 obtain ⟨Q,hQ⟩:∃ Q:Ending→World→Prop,Q=RetQ (RdO T0 p vs x bn bl) w F items M R:=⟨_,rfl⟩
 rw[← hQ]at HN ⊢
 clear hQ
 have n0:((op:Int) == 0)=false:=by rw[beq_eq_false_iff_ne];omega
 have n1:((op:Int) == 1)=false:=by rw[beq_eq_false_iff_ne];omega
 have n4:((op:Int) == 4)=false:=by rw[beq_eq_false_iff_ne];omega
 have n5:((op:Int) == 5)=false:=by rw[beq_eq_false_iff_ne];omega
 have n2:((op:Int) == 2)=false:=by rw[beq_eq_false_iff_ne];omega
 have n6:((op:Int) == 6)=true:=by rw[beq_iff_eq];omega
 clear hop
 unfold boxW itO rdO MidS at *
 unfold rdV at *
 dsimp only at *
 have hS0:=And.intro (And.intro hcc hyy) hk0
 have hS00:=And.intro (And.intro c0' y1) hk00
 have HKC:Hid (∀ (wa wb:World) (ad:Addr) (v:Value),wa.cell? ad=some v→Below wa.heap.size wa wb→wb.cell? ad=some v):=fun wa wb ad v h1 h2=>qm h1 h2
 go_enter Tryz.func139,Tryz.ntmps139
 go_wp2_with fail
 go_region_held2 (fun w'=>(w'.cell? ⟨p,0,none⟩=some (.slice a n cap)∧w'.cell? ⟨g',o'+1,none⟩=some (.int .u8 (q:Int)))∧(w'.cell? ⟨w.heap.size,0,none⟩=some (.pointer (some ⟨p,0,none⟩))∧w'.cell? ⟨w.heap.size,1,none⟩=some (.int .u8 (x:Int))∧w'.cell? ⟨w.heap.size,2,none⟩=some (.map (some bn))∧w'.cell? ⟨w.heap.size,3,none⟩=some (.map (some bl)))∧w'.cell? ⟨w.heap.size+1,2,none⟩=some (.int .i64 (m:Int))∧w'.cell? ⟨w.heap.size+1,3,none⟩=some (.int .i64 (-1))) (first | exact hS0 | exact hS00 | assumption | fail) (first
  | (go_at_call 147;(with_reducible refine hhas.mono ?_);rintro e w1 ⟨rfl,hb1⟩;have hS1:=And.intro (And.intro (HKC.out _ w1 _ _ hS0.1.1 hb1) (HKC.out _ w1 _ _ hS0.1.2 hb1)) (And.intro (And.intro (HKC.out _ w1 _ _ hS0.2.1.1 hb1) (And.intro (HKC.out _ w1 _ _ hS0.2.1.2.1 hb1) (And.intro (HKC.out _ w1 _ _ hS0.2.1.2.2.1 hb1) (HKC.out _ w1 _ _ hS0.2.1.2.2.2 hb1)))) (And.intro (HKC.out _ w1 _ _ hS0.2.2.1 hb1) (HKC.out _ w1 _ _ hS0.2.2.2 hb1)));have jw:=q3H (!x.testBit q) w1)
  | (revert jw;intro jw;go_at_call 146;(with_reducible refine jw.mono ?_);intro e w2 hn;have hn':=hn;obtain ⟨qq,C,rfl,_,hb2,_⟩:=hn';have HE:Hid (Q (.returned (.slice qq (yesM (!x.testBit q)).length C)) w2):=(HN.out w1 _ _ hb1 hn);have hS2:=And.intro (And.intro (HKC.out _ w2 _ _ hS1.1.1 hb2) (HKC.out _ w2 _ _ hS1.1.2 hb2)) (And.intro (And.intro (HKC.out _ w2 _ _ hS1.2.1.1 hb2) (And.intro (HKC.out _ w2 _ _ hS1.2.1.2.1 hb2) (And.intro (HKC.out _ w2 _ _ hS1.2.1.2.2.1 hb2) (HKC.out _ w2 _ _ hS1.2.1.2.2.2 hb2)))) (And.intro (HKC.out _ w2 _ _ hS1.2.2.1 hb2) (HKC.out _ w2 _ _ hS1.2.2.2 hb2))))
  | fail)
 all_goals
  clear hhas jw
  go_wp2
  exact HE.out
theorem qdJ(b:Bool):hoB (yesM b) 0=b:=by cases b <;> decide
theorem q3C{T0:Tr}{p:Nat}{vs:Value}{x bn bl:Nat}{w:World}{F:Nat→Prop}{items:List It}{M:Mt}(h:RdO T0 p vs x bn bl w F items M)(i:Nat)(S:Tr)(hi:Rep items i S)(kS:KT S)(pS:plainT S=true)(ha:LvQ T0 p vs x bn bl 118 S) :
  Calls Tryz.prog 153 #[rdV p x bn bl,.int .i64 (i:Int)] w fun e w'=>e=.returned (.bool (plV x S))∧∃ F' items',Fr w w' F F'∧items <+: items'∧RdO T0 p vs x bn bl w' F' items' M:=by
 have hb:=qc w (rdO p x bn bl)
 have hO:=(qo T0 p vs x bn bl).up h hb
 have j1:=ha _ F items M i hO hi
 rw[q2F M kS pS]at j1
 have hbx:=(MapKept.heap_alloc w (rdO p x bn bl)).1
 have b0:(w.alloc (rdO p x bn bl)).cell? ⟨w.heap.size,0,none⟩=some (.pointer (some ⟨p,0,none⟩)):=qb hbx 0
 have b1:(w.alloc (rdO p x bn bl)).cell? ⟨w.heap.size,1,none⟩=some (.int .u8 (x:Int)):=qb hbx 1
 have b2:(w.alloc (rdO p x bn bl)).cell? ⟨w.heap.size,2,none⟩=some (.map (some bn)):=qb hbx 2
 have b3:(w.alloc (rdO p x bn bl)).cell? ⟨w.heap.size,3,none⟩=some (.map (some bl)):=qb hbx 3
 have HB:Hid (Fr w (w.alloc (rdO p x bn bl)) F F):=Fr.ofBelow hb
 clear h hb hO hbx hi kS pS ha
 generalize plV x S=v at *
 unfold rdO rdV at *
 go_enter Tryz.func153,Tryz.ntmps153
 go_wp2_with fail
 refine j1.mono ?_
 rintro e w1 ⟨F1,i1,fr1,hp1,⟨L,M1,q,d,hs,rfl,hU,hO1⟩ | ⟨hs,_⟩⟩
 ·injection hs with hs
  injection hs with hs1 hs2
  subst hs1 hs2
  have sm:Sm (yesM v):=fun y hy=>by
   unfold yesM at hy
   cases v with
   | true=>simp at hy;subst hy;decide
   | false=>simp at hy
  have j2:=q2n q (yesM v).length d (yesM v) 0 w1 hU.sl sm (by decide)
  rw[qdJ]at j2
  have HF:Hid (Fr w w1 F F1):=HB.out.trans fr1
  have HO:Hid _:=hO1
  clear j1 fr1 hU hO1 sm
  generalize (yesM v).length=n at *
  go_wp2_with fail
  refine j2.mono ?_
  rintro e w2 ⟨rfl,hb2⟩
  have HE:Hid (∃ F' items',Fr w w2 F F'∧items <+: items'∧RdO T0 p vs x bn bl w2 F' items' M):=⟨F1,i1,HF.out.trans (Fr.ofBelow hb2),hp1,(qo T0 p vs x bn bl).up HO.out hb2⟩
  clear j2 hb2 HF HO
  go_wp2
  go_ret
  exact ⟨rfl,HE.out⟩
 ·cases hs
theorem qbx{M:Mt}(hM:∀ f∈M,SmT f)(nd:M.Nodup){i:Nat}(hi:i<M.length):nmF M (txOf M[i])=some i:=by
 rw[q9E hM (hM _ (List.getElem_mem hi)),List.findIdx?_eq_some_iff_getElem]
 refine ⟨hi,by simp,fun j hj=>?_⟩
 intro e
 have e':M[j]=M[i]:=by simpa using e
 have:=(List.getElem_inj nd).1 e'
 omega
theorem qby{M:Mt}{y:ByteArray}{j:Nat}(h:nmF M y=some j):∃ hj:j<M.length,txOf M[j]=y:=by
 unfold nmF at h
 obtain ⟨hj,h1,_⟩:=List.findIdx?_eq_some_iff_getElem.1 h
 exact ⟨hj,by simpa using h1⟩
def outN (M:Mt) (n i:Nat) (y:ByteArray):Option Nat:=(nmF M y).bind fun j=>if n≤j∧j<n+i then none else some j
theorem qbG(M:Mt)(n:Nat)(y:ByteArray):nmF M y=outN M n 0 y:=by
 unfold outN
 cases nmF M y with
 | none=>rfl
 | some j=>simp only[Option.bind_some];rw[if_neg (by omega)]
theorem qbF{M:Mt}(hM:∀ f∈M,SmT f)(nd:M.Nodup){n i:Nat}(h:n+i<M.length)(y:ByteArray):(if y=txOf M[n+i] then none else outN M n i y)=outN M n (i+1) y:=by
 unfold outN
 by_cases e:y=txOf M[n+i]
 ·rw[if_pos e,e,qbx hM nd h]
  simp only[Option.bind_some]
  rw[if_pos (by omega)]
 ·rw[if_neg e]
  cases hp:nmF M y with
  | none=>rfl
  | some j =>
   obtain ⟨hj,ht⟩:=qby hp
   have:j≠n+i:=fun he=>e (by subst he;exact ht.symm)
   simp only[Option.bind_some]
   by_cases h1:n≤j∧j<n+i
   ·rw[if_pos h1,if_pos (by omega)]
   ·rw[if_neg h1,if_neg (by omega)]
theorem qb3{M:Mt}(hM:∀ f∈M,SmT f)(nd:M.Nodup){n i:Nat}(h:n+i<M.length):(outN M n i (txOf M[n+i])).isSome=true:=by
 unfold outN
 rw[qbx hM nd h]
 simp only[Option.bind_some]
 rw[if_neg (by omega)];rfl
theorem qcp{M:Mt}{n:Nat}(hn:n≤M.length)(y:ByteArray):outN M n (M.length - n) y=nmF (M.take n) y:=by
 unfold outN nmF
 have e:M.findIdx? (fun f=>decide (txOf f=y))=((M.take n).findIdx? fun f=>decide (txOf f=y)).or (((M.drop n).findIdx? fun f=>decide (txOf f=y)).map (· + (M.take n).length)):=by
  rw[← List.findIdx?_append,List.take_append_drop]
 rw[e]
 cases h1:(M.take n).findIdx? fun f=>decide (txOf f=y) with
 | some j =>
  have hj:=(List.findIdx?_eq_some_iff_getElem.1 h1).1
  rw[List.length_take]at hj
  simp only[Option.some_or,Option.bind_some]
  rw[if_neg (by omega)]
 | none =>
  simp only[Option.none_or]
  cases h2:(M.drop n).findIdx? fun f=>decide (txOf f=y) with
  | none=>rfl
  | some j =>
   have hj:=(List.findIdx?_eq_some_iff_getElem.1 h2).1
   rw[List.length_drop]at hj
   simp only[Option.map_some,Option.bind_some,List.length_take]
   rw[if_pos (by omega)]
theorem q6g{w:World}{ops:Array Oper}{o:Oper}{a:Act}{K:Act→World→Prop}{Q:Exit→Act→World→Prop}{E:Prop}(hw:Region.wanted o (yielded ops a.tmps)=true)(m x:Operand)
  (ho:o.op=.call { callee:=.builtin .delete,args:=#[m,x],argTypes:=#[107,9] }) (b n:Nat) (f:ByteArray→Option Nat) (y:ByteArray) (hm:a.eval m=.map (some b)) (hx:a.eval x=.string y)
  (h:NumS w b n f) (hy:SOk y) (hf:(f y).isSome=true)
  (hK:∀ w',NumS w' b (n - 1) (fun z=>if z=y then none else f z)→w.grownBy w' (some b)→K (a.put o.dst (.tuple #[])) w') :
  if Region.wanted o (yielded ops a.tmps)=true then Oper.wp Tryz.prog o a w K Q else E:=by
 rw[if_pos hw]
 obtain ⟨w',hr,h1,h2⟩:=h.drop hy hf o.type
 unfold Oper.wp execOp
 simp only[ho,resolve,invoke,builtin,Sem.run_bind,Sem.run_pure,Result.andThen_ok,List.map_toArray,List.map_cons,List.map_nil,hm,hx,hr]
 exact hK w' h1 h2
structure FgS (T0:Tr) (w wr:World) (G:Nat→Prop) (p mn:Nat) (vm vs:Value) (items:List It) (met:List Nat) (M:Mt) (n k:Nat):Prop where
 po:PtO T0 wr G p 109 (pgRest p mn vm vs) items
 num:NumS wr mn (met.length - k) (outN M n k)
 row:wr.ownsRow 0 3 1 vm met.length (encM met)
 fr:Fr w wr (FQ G mn vm) (FQ G mn vm)
theorem FgS.c4{T0:Tr}{w wr:World}{G:Nat→Prop}{p mn:Nat}{vm vs:Value}{items:List It}{met:List Nat}{M:Mt}{n k:Nat}(h:FgS T0 w wr G p mn vm vs items met M n k):wr.cell? ⟨p,4,none⟩=some (.map (some mn))∧wr.cell? ⟨p,5,none⟩=some vm∧wr.frozen? ⟨p,5,none⟩=false∧G p:=by
 obtain ⟨vi,mp,vt,hb,hg⟩:=h.po.blk
 exact ⟨qb hb 4,qb hb 5,frozen_of_row wr p 5 _ _ hb,hg⟩
theorem FgS.next{T0:Tr}{w wr w1 w2:World}{G:Nat→Prop}{p mn:Nat}{vm vs:Value}{items:List It}{met:List Nat}{M:Mt}{n k:Nat}{y:ByteArray}(h:FgS T0 w wr G p mn vm vs items met M n k)(ng:¬ G mn)(nv:∀ q,vm.ownBlock=some q→¬ G q)(ht:TextP T0 wr.drew G p 109 (pgRest p mn vm vs) items w1)
  (hn:NumS w2 mn (met.length - k - 1) (fun z=>if z=y then none else outN M n k z)) (hy:∀ z,(if z=y then none else outN M n k z)=outN M n (k+1) z) (hg:w1.grownBy w2 (some mn)) :
  FgS T0 w w2 G p mn vm vs items met M n (k+1):=by
 have fr1:Fr wr w1 G G:=(Fr.ofBelow (Below.refl _ _).drew).trans ht.2
 obtain ⟨es,cl,hmap⟩:=h.num.isMap
 have hvn:vm.ownBlock≠some mn:=q12 h.row hmap fun cs e=>by cases e
 have st:∀ q,q<w1.heap.size→q≠mn→w2.heap[q]? = w1.heap[q]? := fun q hq hne=>hg.block q hq (fun e=>hne (by injection e))
 have hs1:=fr1.size
 refine ⟨ht.1.far fun q hq=>st q (ht.1.lt q hq) (fun e=>ng (e ▸ hq)),?_,qj h.row fun q hq=>(st q (by have:=qu h.row q hq;omega) (fun e=>hvn (e ▸ hq))).trans (fr1.keep q (qu h.row q hq) (nv q hq)),h.fr.trans ⟨hg.os.trans fr1.os,hg.tape.trans fr1.tape,hg.output.trans fr1.output,Nat.le_trans fr1.size hg.size,fun q hq hF=>(st q (by omega) (fun e=>hF (Or.inr (Or.inl e)))).trans (fr1.keep q hq fun e=>hF (Or.inl e)),fun _ hq=>Or.inl hq⟩⟩
 rw[show met.length - (k+1)=met.length - k - 1 by omega]
 exact hn.alike fun z _=>hy z
theorem qaS{T0:Tr}{w wr:World}{F G:Nat→Prop}{p mn:Nat}{va:Option Addr}{vc L:Nat}{vs:Value}{items:List It}{met:List Nat}{M:Mt}{n:Nat}(h:PgO T0 w F p vs items M)(hr:PgR T0 w G p mn (.slice va L vc) vs items met M)(hF:∀ k,F k↔FQ G mn (.slice va L vc) k)(hL:met.length=L)(hn:n≤M.length)(hS:FgS T0 w wr G p mn (.slice va L vc) vs items met M n (L - n)) :
  ∃ F',PgO T0 (wr.setCell ⟨p,5,none⟩ (.slice va n vc)) F' p vs items (M.take n)∧Fr w (wr.setCell ⟨p,5,none⟩ (.slice va n vc)) F F':=by
 have hml:=hr.met.1
 have hrow:=hS.row
 rw[hL]at hrow
 obtain ⟨va',vc',vb,e,_,hown,_,_,hob⟩:=q6u hrow (m:=n) (by omega)
 injection e with e1 _ e3
 subst e1 e3
 obtain ⟨_,_,_,hgp⟩:=hS.c4
 have hob':(Value.slice va n vc).ownBlock=(Value.slice va L vc).ownBlock:=hob
 have st:∀ k,k≠p→(wr.setCell ⟨p,5,none⟩ (.slice va n vc)).heap[k]? = wr.heap[k]? := fun k hk=>Below.heap_setCell _ _ _ _ hk
 have hmlen:(met.take n).length=n:=by rw[List.length_take];omega
 have hMlen:(M.take n).length=n:=by rw[List.length_take];omega
 refine ⟨FQ G mn (.slice va n vc),⟨by rw[hMlen];have:=h.few;omega,h.nd.sublist (List.take_sublist _ _),fun f hf=>h.of f (List.mem_of_mem_take hf),G,mn,.slice va n vc,met.take n,⟨hS.po.setRest (j:=2) (.slice va n vc),?_,?_,⟨by rw[hmlen,hMlen],fun q i hq=>?_⟩,hr.ng,fun q hq=>hr.nv q (hob' ▸ hq)⟩,fun k=>Iff.rfl⟩,?_⟩
 ·rw[hmlen]
  exact qj hown fun q hq=>st q (fun e=>hr.nv q (hob' ▸ hq) (e ▸ hgp))
 ·rw[hmlen]
  have h1:=hS.num
  rw[show met.length - (L - n)=n by omega,show L - n=M.length - n by omega]at h1
  exact (h1.far (st mn (fun e=>hr.ng (e ▸ hgp)))).alike fun y _=>qcp hn y
 ·have hqn:q<n:=by have:=(List.getElem?_eq_some_iff.1 hq).1;omega
  rw[List.getElem?_take,if_pos hqn]at hq
  obtain ⟨S,h1,h2⟩:=hr.met.2 q i hq
  exact ⟨S,h1,by rw[List.getElem?_take,if_pos hqn];exact h2⟩
 ·have fr:=hS.fr
  exact ⟨fr.os,fr.tape,fr.output,by simp;exact fr.size,fun k hk hf=>(st k fun e=>hf ((hF k).2 (Or.inl (e ▸ hgp)))).trans (fr.keep k hk fun e=>hf ((hF k).2 e)),fun k hk=>by
   refine (fr.foot k ?_).imp (fun e=>(hF k).2 e) id
   rcases hk with e | e | e
   ·exact Or.inl e
   ·exact Or.inr (Or.inl e)
   ·exact Or.inr (Or.inr (hob' ▸ e))⟩
theorem q5r{T0:Tr}{w:World}{F:Nat→Prop}{p:Nat}{vs:Value}{items:List It}{M:Mt}(h:PgO T0 w F p vs items M)(n:Nat)(hn:n≤M.length) :
  Calls Tryz.prog 87 #[.pointer (some ⟨p,0,none⟩),.int .i64 (n:Int)] w fun e w'=>e=.returned (.tuple #[])∧∃ F',PgO T0 w' F' p vs items (M.take n)∧Fr w w' F F':=by
 obtain ⟨G,mn,vm,met,hr,hF⟩:=h.ex
 have hml:=hr.met.1
 obtain ⟨va,vc,vb,rfl,hpre,_,hcut,_,_⟩:=q6u hr.row (m:=n) (by omega)
 have HH:Hid _:=h
 have HRR:Hid _:=hr
 have HF:Hid _:=hF
 have HC0:Hid (FgS T0 w w G p mn (.slice va met.length vc) vs items met M n 0):=⟨hr.po,by rw[Nat.sub_zero];exact hr.num.alike fun y _=>qbG M n y,hr.row,Fr.ofBelow (Below.refl _ _)⟩
 have c5:=hr.c5
 have HSM:Hid (∀ f∈M,SmT f):=h.small h.t0.kt
 have HML:Hid (met.length=M.length):=hml
 have HN:Hid (n≤M.length):=hn
 have hfew:met.length≤64:=by have:=h.few;omega
 have hn64:n≤met.length:=by omega
 have HCUT:Hid _:=hcut
 clear h hr hF hml hn
 generalize hL:met.length=L at *
 have HL:Hid (met.length=L):=hL
 clear hL
 go_enter Tryz.func87,Tryz.ntmps87
 go_wp2
 go_loopw [13] (fun i wr=>∃ k:Nat,k≤L - n∧i=.int .i64 (k:Int)∧Hid (FgS T0 w wr G p mn (.slice va L vc) vs items met M n k)) (fun i _=>(L - n) - (intOf i).toNat)
 case atStart=>exact ⟨0,Nat.zero_le _,rfl,HC0⟩
 case round =>
  obtain ⟨k,hk,rfl,HC⟩:=hrel
  clear HC0 c5
  by_cases hlt:k<L - n
  ·have hkm:n+k<met.length:=by have:=HL.out;omega
   have hkM:n+k<M.length:=by have:=HML.out;omega
   obtain ⟨va',vc',vb',e',_,_,hcut',hns',_⟩:=q6u (show wr.ownsRow 0 3 1 (.slice va L vc) L (encM met) by have:=HC.out.row;rw[HL.out]at this;exact this) (m:=n) hn64
   injection e' with e1 e2 e3
   subst e1 e3
   have eb:vb=vb':=by
    have:=(HCUT.out wr).symm.trans (hcut' wr)
    injection this with this
    injection this
   subst eb
   have hdl:k<(met.drop n).length:=by rw[List.length_drop];omega
   obtain ⟨g1,o1,s1,hix,hcx⟩:=hns'.at k hdl
   have hval:(met.drop n)[k]=met[n+k]:=by simp
   rw[hval]at hcx
   obtain ⟨S,hrep,hMk⟩:=HRR.out.met.2 (n+k) met[n+k] (List.getElem?_eq_getElem hkm)
   have hMg:M[n+k]=S.flat:=by rw[List.getElem?_eq_getElem hkM]at hMk;injection hMk
   obtain ⟨S2,k2,i2,e2⟩:=HH.out.of S.flat (List.mem_of_getElem? hMk)
   have hw:S.WF:=by
    obtain ⟨S3,h3,h4⟩:=HRR.out.po.cov _ hrep.lt
    have:=Rep.tree hrep h3
    subst this
    rcases q2y HRR.out.po.t0.kt h4 with q | q <;> exact q.wf
   have e:=q5y hw k2.wf e2
   subst e
   have jt:=q3G (HC.out.po.up (Below.refl _ _).drew) met[n+k] S hrep i2
   have htx:txB S=txOf M[n+k]:=by rw[hMg];rfl
   have HSO:Hid (SOk (txB S)):=by unfold Hid SOk;rw[q5S];have:=(q45 HH.out.t0.sz i2).1;omega
   have HTH:Hid ((outN M n k (txB S)).isSome=true):=by rw[htx];exact qb3 HSM.out HH.out.nd hkM
   have HNX:Hid (∀ z,(if z=txB S then none else outN M n k z)=outN M n (k+1) z):=fun z=>by rw[htx];exact qbF HSM.out HH.out.nd hkM z
   obtain ⟨c4,c5,z5,hgp⟩:=HC.out.c4
   have c4d:wr.drew.cell? ⟨p,4,none⟩=some (.map (some mn)):=c4
   have HPN:Hid (p≠mn):=fun e=>HRR.out.ng (e ▸ hgp)
   generalize txB S=tx at *
   generalize met[n+k]=mi at *
   clear hval hMg hMk hrep k2 i2 e2 hw htx hcut' hns'
   go_wp2
   go_region_held2 (fun w'=>w'.cell? ⟨p,4,none⟩=some (.map (some mn))) (first | exact c4d | exact c4 | assumption | fail) (first
    | (revert jt;intro jt;go_at_call 115;(with_reducible refine jt.mono ?_);rintro e w1 ⟨rfl,hq⟩;have hfr1:Fr wr w1 G G:=((Fr.ofBelow (Below.refl _ _).drew).trans hq.2);have hnum1:=HC.out.num.far (hfr1.keep mn HC.out.num.lt HRR.out.ng);have c41:w1.cell? ⟨p,4,none⟩=some (.map (some mn)):=(by obtain ⟨vi,mp,vt,hb,_⟩:=hq.1.blk;exact qb hb 4))
    | (revert hnum1;intro hnum1;refine q6g rfl _ _ rfl mn _ (outN M n k) tx rfl rfl hnum1 HSO.out HTH.out ?_;intro w6 hn6 hg6;have c46:w6.cell? ⟨p,4,none⟩=some (.map (some mn)):=(by unfold World.cell? at c41 ⊢;rw[hg6.block p (by have:=hq.1.lt p hgp;exact this) (fun e=>HPN.out (by injection e))];exact c41))
    | fail)
   all_goals
    have HC6:Hid (FgS T0 w w6 G p mn (.slice va L vc) vs items met M n (k+1)):=HC.out.next HRR.out.ng HRR.out.nv hq hn6 HNX.out hg6
    clear jt hnum1 hq hn6 hg6 hfr1 c4 c4d c41 c46 c5 z5 hix hcx
    go_wp2
    go_roundw
    case rel=>exact ⟨k+1,by omega,by go_num,HC6⟩
    case measure=>simp[intOf] <;> omega
  ·obtain rfl:k=L - n:=by omega
   obtain ⟨c4,c5,z5,hgp⟩:=HC.out.c4
   have HFIN:Hid _:=qaS HH.out HRR.out HF.out HL.out HN.out HC.out
   clear HC
   go_wp2
   go_end0
   exact ⟨rfl,HFIN.out⟩
end Go.Proofs.YtekeaodpdcnfjaaGreatDoor
