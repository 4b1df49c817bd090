/- Texts of the proof, put together: what it uses. -/
import Derived.Test.YtailhklbmenaoaaGreatDoorZ24
set_option maxRecDepth 100000
set_option maxHeartbeats 16000000
namespace Go.Proofs.YtailhklbmenaoaaGreatDoor
open Go.RowKit Go.Maps
theorem qaF {T0 : Tr} {p : Nat} {vs : Value} {x bn bl : Nat} (op : Nat) (ho : op = 11 ∨ op = 12) (c d : Tr) (kS : KT (.bin (op,0) c d)) (hc : LvQ T0 p vs x bn bl 155 c) (hd : LvQ T0 p vs x bn bl 155 d) : LvQ T0 p vs x bn bl 168 (.bin (op,0) c d) := by
 intro w F items M i h hi
 obtain ⟨pp,m,l,hx,hm,hl⟩ : ∃ pp m l : Nat,items[i]? = some ⟨op,pp,(m : Int),(l : Int)⟩ ∧ Rep items m c ∧ Rep items l d := by cases hi with | bin h h1 h2 h3 h4 => exact ⟨0,_,_,h,h3,h4⟩
 obtain ⟨F1,_,_,_,_,hrd⟩ := id h
 obtain ⟨G,rest,hpo⟩ := hrd.pg.part
 obtain ⟨a,n,cap,g,o,c0,hidx,x0,x1,x2,x3⟩ := (hpo.up (qd w (rdO p x bn bl))).at hx
 obtain ⟨m0,m00⟩ := qI h op pp (m : Int) ((l : Int))
 have hk0 := m0.cells
 have hk00 := m00.cells
 have HCL : Hid (∀ w' : World,w'.heap[w.heap.size]? = some (rdO p x bn bl) → w'.heap[w.heap.size + 1]? = some (itO ⟨op,pp,(m : Int),(l : Int)⟩) → MidS p x bn bl w.heap.size (m : Int) ((l : Int)) w') := fun w' e1 e2 => ⟨⟨qb e1 0,qb e1 1,qb e1 2,qb e1 3⟩,qb e2 2,qb e2 3⟩
 have hbx := (MapKept.heap_alloc w (rdO p x bn bl)).1
 have r0 : (w.alloc (rdO p x bn bl)).cell? ⟨w.heap.size,0,none⟩ = some (.pointer (some ⟨p,0,none⟩)) := qb hbx 0
 obtain ⟨kc,kd⟩ := qB kS (by omega)
 have j1 := hc _ F items M m m0.obj hm
 obtain ⟨R,hR⟩ : ∃ R,R = aftC (.bin (op,0) c d) x M := ⟨_,rfl⟩
 have HR0 : Hid (R = bindM (aftC c x M) fun a M1 => bindM (aftC d x M1) fun b M2 => twoM (op == 11) a b M2) := by show _ = _; rw [hR]; exact q6d kS ho x M
 rw [← hR]
 obtain ⟨Q,hQ⟩ : ∃ Q : Ending → World → Prop,Q = RetQ (RdO T0 p vs x bn bl) w F items M R := ⟨_,rfl⟩
 have HQ : Hid (∀ e w',RetQ (RdO T0 p vs x bn bl) w F items M R e w' → Q e w') := fun e w' h => by rw [hQ]; exact h
 rw [← hQ]
 clear hrd hpo hR hQ hbx h hx
 have n0 : ((op : Int) == 0) = false := by rw [beq_eq_false_iff_ne]; omega
 have n4 : ((op : Int) == 4) = false := by rw [beq_eq_false_iff_ne]; omega
 have n1 : ((op : Int) == 1) = false := by rw [beq_eq_false_iff_ne]; omega
 have n5 : ((op : Int) == 5) = false := by rw [beq_eq_false_iff_ne]; omega
 have n2 : ((op : Int) == 2) = false := by rw [beq_eq_false_iff_ne]; omega
 have n6 : ((op : Int) == 6) = false := by rw [beq_eq_false_iff_ne]; omega
 have n7 : ((op : Int) == 7) = false := by rw [beq_eq_false_iff_ne]; omega
 have n8 : ((op : Int) == 8) = false := by rw [beq_eq_false_iff_ne]; omega
 have n15 : ((op : Int) == 15) = false := by rw [beq_eq_false_iff_ne]; omega
 have n16 : ((op : Int) == 16) = false := by rw [beq_eq_false_iff_ne]; omega
 have n17 : ((op : Int) == 17) = false := by rw [beq_eq_false_iff_ne]; omega

 rcases ho with ho | ho
 ·have n11 : ((op : Int) == 11) = true := by rw [beq_iff_eq]; omega
  have ob11 : (op == 11) = true := by simp [ho]
  rw [ob11] at HR0
  clear ho ob11
  unfold boxW itO rdO MidS at *
  unfold rdV at *
  dsimp only at *
  go_enter Tryz.func168,Tryz.ntmps168
  go_wp2_with fail
  go_region_held2 (fun w' => (w'.cell? ⟨w.heap.size,0,none⟩ = some (.pointer (some ⟨p,0,none⟩)) ∧ w'.cell? ⟨w.heap.size,1,none⟩ = some (.int .u8 (x : Int)) ∧ w'.cell? ⟨w.heap.size,2,none⟩ = some (.map (some bn)) ∧ w'.cell? ⟨w.heap.size,3,none⟩ = some (.map (some bl))) ∧ w'.cell? ⟨w.heap.size + 1,2,none⟩ = some (.int .i64 (m : Int)) ∧ w'.cell? ⟨w.heap.size + 1,3,none⟩ = some (.int .i64 (l : Int))) (first | exact hk0 | exact hk00 | assumption | fail) (first
   | (revert j1; intro j1; go_at_call 155; (with_reducible refine j1.mono ?_); rintro e w1 ⟨F1,i1,fr1,hp1,⟨L1,M1,q1,d1,hs1,rfl,hU1,hO1⟩ | ⟨hs1,rfl,M1,hpm1,hO1⟩⟩; (case inr => exact ⟨rfl,HQ.out _ _ (m0.bad (by rw [HR0.out,hs1]; first | done | rfl) fr1 hp1 hpm1 hO1)⟩); have hr1 := HR0.out; rw [hs1] at hr1; dsimp only [bindM] at hr1; have HR1 : Hid _ := hr1; clear hr1; have l1 := q1r m0.good kc hs1; have m1 := m0.step fr1 hp1 hO1 l1.pre l1.good; have hk1 := HCL.out _ m1.rb m1.xb; have j2 := hd _ F1 i1 M1 l m1.obj (hl.pre m1.hi); unfold rdV at j2)
   | (revert j2; intro j2; go_at_call 155; (with_reducible refine j2.mono ?_); rintro e w2 ⟨F2,i2,fr2,hp2,⟨L2,M2,q2,d2,hs2,rfl,hU2,hO2⟩ | ⟨hs2,rfl,M2,hpm2,hO2⟩⟩; (case inr => exact ⟨rfl,HQ.out _ _ (m1.bad (by rw [HR1.out,hs2]; first | done | rfl) fr2 hp2 hpm2 hO2)⟩); have hr2 := HR1.out; rw [hs2] at hr2; dsimp only [bindM] at hr2; have HR2 : Hid _ := hr2; clear hr2; have l2 := q1r m1.good kd hs2; have m2 := m1.step fr2 hp2 hO2 l2.pre l2.good; have hk2 := HCL.out _ m2.rb m2.xb; have j3 := qF (qp T0 p vs x bn bl) true m2.obj (hU1.fr fr2) (hU2) l1.lst l2.lst; unfold twF at j3; simp only [if_true] at j3)
   | (revert j3; intro j3; go_at_call 125; (with_reducible refine j3.mono ?_); rintro e w3 ⟨F3,i3,fr3,hp3,⟨L3,M3,q3,d3,hs3,rfl,hU3,hO3⟩ | ⟨hs3,rfl,M3,hpm3,hO3⟩⟩; (case inr => exact ⟨rfl,HQ.out _ _ (m2.bad (by rw [HR2.out,hs3]; first | done | rfl) fr3 hp3 hpm3 hO3)⟩); have hk3 : Hid (Q (.returned (.slice q3 L3.length d3)) w3) := (HQ.out _ _ (m2.fin (by rw [HR2.out,hs3]; first | done | rfl) fr3 hp3 hU3 hO3)); have hkk3 := HCL.out _ (qh m2.rb m2.rn fr3).1 (qh m2.xb m2.xn fr3).1)
   | fail)
  all_goals
   clear j1 j2 j3
   go_wp2
   exact hk3.out
 ·have n11 : ((op : Int) == 11) = false := by rw [beq_eq_false_iff_ne]; omega
  have n12 : ((op : Int) == 12) = true := by rw [beq_iff_eq]; omega
  have ob11 : (op == 11) = false := by simp [ho]
  rw [ob11] at HR0
  clear ho ob11
  unfold boxW itO rdO MidS at *
  unfold rdV at *
  dsimp only at *
  go_enter Tryz.func168,Tryz.ntmps168
  go_wp2_with fail
  go_region_held2 (fun w' => (w'.cell? ⟨w.heap.size,0,none⟩ = some (.pointer (some ⟨p,0,none⟩)) ∧ w'.cell? ⟨w.heap.size,1,none⟩ = some (.int .u8 (x : Int)) ∧ w'.cell? ⟨w.heap.size,2,none⟩ = some (.map (some bn)) ∧ w'.cell? ⟨w.heap.size,3,none⟩ = some (.map (some bl))) ∧ w'.cell? ⟨w.heap.size + 1,2,none⟩ = some (.int .i64 (m : Int)) ∧ w'.cell? ⟨w.heap.size + 1,3,none⟩ = some (.int .i64 (l : Int))) (first | exact hk0 | exact hk00 | assumption | fail) (first
   | (revert j1; intro j1; go_at_call 155; (with_reducible refine j1.mono ?_); rintro e w1 ⟨F1,i1,fr1,hp1,⟨L1,M1,q1,d1,hs1,rfl,hU1,hO1⟩ | ⟨hs1,rfl,M1,hpm1,hO1⟩⟩; (case inr => exact ⟨rfl,HQ.out _ _ (m0.bad (by rw [HR0.out,hs1]; first | done | rfl) fr1 hp1 hpm1 hO1)⟩); have hr1 := HR0.out; rw [hs1] at hr1; dsimp only [bindM] at hr1; have HR1 : Hid _ := hr1; clear hr1; have l1 := q1r m0.good kc hs1; have m1 := m0.step fr1 hp1 hO1 l1.pre l1.good; have hk1 := HCL.out _ m1.rb m1.xb; have j2 := hd _ F1 i1 M1 l m1.obj (hl.pre m1.hi); unfold rdV at j2)
   | (revert j2; intro j2; go_at_call 155; (with_reducible refine j2.mono ?_); rintro e w2 ⟨F2,i2,fr2,hp2,⟨L2,M2,q2,d2,hs2,rfl,hU2,hO2⟩ | ⟨hs2,rfl,M2,hpm2,hO2⟩⟩; (case inr => exact ⟨rfl,HQ.out _ _ (m1.bad (by rw [HR1.out,hs2]; first | done | rfl) fr2 hp2 hpm2 hO2)⟩); have hr2 := HR1.out; rw [hs2] at hr2; dsimp only [bindM] at hr2; have HR2 : Hid _ := hr2; clear hr2; have l2 := q1r m1.good kd hs2; have m2 := m1.step fr2 hp2 hO2 l2.pre l2.good; have hk2 := HCL.out _ m2.rb m2.xb; have j3 := qF (qp T0 p vs x bn bl) false m2.obj (hU1.fr fr2) (hU2) l1.lst l2.lst; unfold twF at j3; simp only [Bool.false_eq_true,if_false] at j3)
   | (revert j3; intro j3; go_at_call 126; (with_reducible refine j3.mono ?_); rintro e w3 ⟨F3,i3,fr3,hp3,⟨L3,M3,q3,d3,hs3,rfl,hU3,hO3⟩ | ⟨hs3,rfl,M3,hpm3,hO3⟩⟩; (case inr => exact ⟨rfl,HQ.out _ _ (m2.bad (by rw [HR2.out,hs3]; first | done | rfl) fr3 hp3 hpm3 hO3)⟩); have hk3 : Hid (Q (.returned (.slice q3 L3.length d3)) w3) := (HQ.out _ _ (m2.fin (by rw [HR2.out,hs3]; first | done | rfl) fr3 hp3 hU3 hO3)); have hkk3 := HCL.out _ (qh m2.rb m2.rn fr3).1 (qh m2.xb m2.xn fr3).1)
   | fail)
  all_goals
   clear j1 j2 j3
   go_wp2
   exact hk3.out
theorem q7Z {T0 : Tr} {p : Nat} {vs : Value} {x bn bl : Nat} (op : Nat) (ho : op = 15 ∨ op = 16) (c d : Tr) (kS : KT (.bin (op,0) c d)) (hS : InC T0 (.bin (op,0) c d)) (hc : LvQ T0 p vs x bn bl 155 c) (hd : LvQ T0 p vs x bn bl 155 d) : LvQ T0 p vs x bn bl 168 (.bin (op,0) c d) := by
 intro w F items M i h hi
 obtain ⟨pp,m,l,hx,hm,hl⟩ : ∃ pp m l : Nat,items[i]? = some ⟨op,pp,(m : Int),(l : Int)⟩ ∧ Rep items m c ∧ Rep items l d := by cases hi with | bin h h1 h2 h3 h4 => exact ⟨0,_,_,h,h3,h4⟩
 obtain ⟨F1,_,_,_,_,hrd⟩ := id h
 obtain ⟨G,rest,hpo⟩ := hrd.pg.part
 obtain ⟨a,n,cap,g,o,c0,hidx,x0,x1,x2,x3⟩ := (hpo.up (qd w (rdO p x bn bl))).at hx
 obtain ⟨m0,m00⟩ := qI h op pp (m : Int) ((l : Int))
 have hk0 := m0.cells
 have hk00 := m00.cells
 have HCL : Hid (∀ w' : World,w'.heap[w.heap.size]? = some (rdO p x bn bl) → w'.heap[w.heap.size + 1]? = some (itO ⟨op,pp,(m : Int),(l : Int)⟩) → MidS p x bn bl w.heap.size (m : Int) ((l : Int)) w') := fun w' e1 e2 => ⟨⟨qb e1 0,qb e1 1,qb e1 2,qb e1 3⟩,qb e2 2,qb e2 3⟩
 have hbx := (MapKept.heap_alloc w (rdO p x bn bl)).1
 have r0 : (w.alloc (rdO p x bn bl)).cell? ⟨w.heap.size,0,none⟩ = some (.pointer (some ⟨p,0,none⟩)) := qb hbx 0
 obtain ⟨kc,kd⟩ := qB kS (by omega)
 have HI : Hid (Rep items i (.bin (op,0) c d)) := hi
 have HKS : Hid (KT (.bin (op,0) c d) ∧ InC T0 (.bin (op,0) c d)) := ⟨kS,hS⟩
 have j1 := hd _ F items M l m0.obj hl
 obtain ⟨R,hR⟩ : ∃ R,R = aftC (.bin (op,0) c d) x M := ⟨_,rfl⟩
 have HR0 : Hid (R = bindM (aftC d x M) fun b M1 => bindM (aftC c x M1) fun a M2 => bindM (needM (.bin (op,0) c d) M2) fun u M3 => bindM (twoM (op == 15) a u M3) fun v M4 => twoM (op == 16) b v M4) := by show _ = _; rw [hR]; exact qcN kS ho x M
 rw [← hR]
 obtain ⟨Q,hQ⟩ : ∃ Q : Ending → World → Prop,Q = RetQ (RdO T0 p vs x bn bl) w F items M R := ⟨_,rfl⟩
 have HQ : Hid (∀ e w',RetQ (RdO T0 p vs x bn bl) w F items M R e w' → Q e w') := fun e w' h => by rw [hQ]; exact h
 rw [← hQ]
 clear hrd hpo hR hQ hbx h hx
 have n0 : ((op : Int) == 0) = false := by rw [beq_eq_false_iff_ne]; omega
 have n4 : ((op : Int) == 4) = false := by rw [beq_eq_false_iff_ne]; omega
 have n1 : ((op : Int) == 1) = false := by rw [beq_eq_false_iff_ne]; omega
 have n5 : ((op : Int) == 5) = false := by rw [beq_eq_false_iff_ne]; omega
 have n2 : ((op : Int) == 2) = false := by rw [beq_eq_false_iff_ne]; omega
 have n6 : ((op : Int) == 6) = false := by rw [beq_eq_false_iff_ne]; omega
 have n11 : ((op : Int) == 11) = false := by rw [beq_eq_false_iff_ne]; omega
 have n12 : ((op : Int) == 12) = false := by rw [beq_eq_false_iff_ne]; omega
 have n7 : ((op : Int) == 7) = false := by rw [beq_eq_false_iff_ne]; omega
 have n8 : ((op : Int) == 8) = false := by rw [beq_eq_false_iff_ne]; omega
 have n17 : ((op : Int) == 17) = false := by rw [beq_eq_false_iff_ne]; omega

 rcases ho with ho | ho
 ·have n15 : ((op : Int) == 15) = true := by rw [beq_iff_eq]; omega
  have ob15 : (op == 15) = true := by simp [ho]
  have ob16 : (op == 16) = false := by simp [ho]
  rw [ob15,ob16] at HR0
  clear ho ob15 ob16
  unfold boxW itO rdO MidS at *
  unfold rdV at *
  dsimp only at *
  go_enter Tryz.func168,Tryz.ntmps168
  go_wp2_with fail
  go_region_held2 (fun w' => (w'.cell? ⟨w.heap.size,0,none⟩ = some (.pointer (some ⟨p,0,none⟩)) ∧ w'.cell? ⟨w.heap.size,1,none⟩ = some (.int .u8 (x : Int)) ∧ w'.cell? ⟨w.heap.size,2,none⟩ = some (.map (some bn)) ∧ w'.cell? ⟨w.heap.size,3,none⟩ = some (.map (some bl))) ∧ w'.cell? ⟨w.heap.size + 1,2,none⟩ = some (.int .i64 (m : Int)) ∧ w'.cell? ⟨w.heap.size + 1,3,none⟩ = some (.int .i64 (l : Int))) (first | exact hk0 | exact hk00 | assumption | fail) (first
   | (revert j1; intro j1; go_at_call 155; (with_reducible refine j1.mono ?_); rintro e w1 ⟨F1,i1,fr1,hp1,⟨L1,M1,q1,d1,hs1,rfl,hU1,hO1⟩ | ⟨hs1,rfl,M1,hpm1,hO1⟩⟩; (case inr => exact ⟨rfl,HQ.out _ _ (m0.bad (by rw [HR0.out,hs1]; first | done | rfl) fr1 hp1 hpm1 hO1)⟩); have hr1 := HR0.out; rw [hs1] at hr1; dsimp only [bindM] at hr1; have HR1 : Hid _ := hr1; clear hr1; have l1 := q1r m0.good kd hs1; have m1 := m0.step fr1 hp1 hO1 l1.pre l1.good; have hk1 := HCL.out _ m1.rb m1.xb; have j2 := hc _ F1 i1 M1 m m1.obj (hm.pre m1.hi); unfold rdV at j2)
   | (revert j2; intro j2; go_at_call 155; (with_reducible refine j2.mono ?_); rintro e w2 ⟨F2,i2,fr2,hp2,⟨L2,M2,q2,d2,hs2,rfl,hU2,hO2⟩ | ⟨hs2,rfl,M2,hpm2,hO2⟩⟩; (case inr => exact ⟨rfl,HQ.out _ _ (m1.bad (by rw [HR1.out,hs2]; first | done | rfl) fr2 hp2 hpm2 hO2)⟩); have hr2 := HR1.out; rw [hs2] at hr2; dsimp only [bindM] at hr2; have HR2 : Hid _ := hr2; clear hr2; have l2 := q1r m1.good kc hs2; have m2 := m1.step fr2 hp2 hO2 l2.pre l2.good; have hk2 := HCL.out _ m2.rb m2.xb; have j3 := qS m2.obj i _ (HI.out.pre m2.hi) HKS.out.1 HKS.out.2; unfold rdV at j3)
   | (revert j3; intro j3; go_at_call 176; (with_reducible refine j3.mono ?_); rintro e w3 ⟨F3,i3,fr3,hp3,⟨L3,M3,q3,d3,hs3,rfl,hU3,hO3⟩ | ⟨hs3,rfl,M3,hpm3,hO3⟩⟩; (case inr => exact ⟨rfl,HQ.out _ _ (m2.bad (by rw [HR2.out,hs3]; first | done | rfl) fr3 hp3 hpm3 hO3)⟩); have hr3 := HR2.out; rw [hs3] at hr3; dsimp only [bindM] at hr3; have HR3 : Hid _ := hr3; clear hr3; have l3 := q3b m2.good HKS.out.1 hs3; have m3 := m2.step fr3 hp3 hO3 l3.pre l3.good; have hk3 := HCL.out _ m3.rb m3.xb; have j4 := qF (qp T0 p vs x bn bl) true m3.obj (hU2.fr fr3) (hU3) l2.lst l3.lst; unfold twF at j4; simp only [if_true] at j4)
   | (revert j4; intro j4; go_at_call 125; (with_reducible refine j4.mono ?_); rintro e w4 ⟨F4,i4,fr4,hp4,⟨L4,M4,q4,d4,hs4,rfl,hU4,hO4⟩ | ⟨hs4,rfl,M4,hpm4,hO4⟩⟩; (case inr => exact ⟨rfl,HQ.out _ _ (m3.bad (by rw [HR3.out,hs4]; first | done | rfl) fr4 hp4 hpm4 hO4)⟩); have hr4 := HR3.out; rw [hs4] at hr4; dsimp only [bindM] at hr4; have HR4 : Hid _ := hr4; clear hr4; have l4 := q7A m3.good (l2.mono l3.pre) (l3.bd) hs4; have m4 := m3.step fr4 hp4 hO4 l4.pre l4.good; have hk4 := HCL.out _ m4.rb m4.xb; have j5 := qF (qp T0 p vs x bn bl) false m4.obj (((hU1.fr fr2).fr fr3).fr fr4) (hU4) l1.lst l4.lst; unfold twF at j5; simp only [Bool.false_eq_true,if_false] at j5)
   | (revert j5; intro j5; go_at_call 126; (with_reducible refine j5.mono ?_); rintro e w5 ⟨F5,i5,fr5,hp5,⟨L5,M5,q5,d5,hs5,rfl,hU5,hO5⟩ | ⟨hs5,rfl,M5,hpm5,hO5⟩⟩; (case inr => exact ⟨rfl,HQ.out _ _ (m4.bad (by rw [HR4.out,hs5]; first | done | rfl) fr5 hp5 hpm5 hO5)⟩); have hk5 : Hid (Q (.returned (.slice q5 L5.length d5)) w5) := (HQ.out _ _ (m4.fin (by rw [HR4.out,hs5]; first | done | rfl) fr5 hp5 hU5 hO5)); have hkk5 := HCL.out _ (qh m4.rb m4.rn fr5).1 (qh m4.xb m4.xn fr5).1)
   | fail)
  all_goals
   clear j1 j2 j3 j4 j5
   go_wp2
   exact hk5.out
 ·have n15 : ((op : Int) == 15) = false := by rw [beq_eq_false_iff_ne]; omega
  have n16 : ((op : Int) == 16) = true := by rw [beq_iff_eq]; omega
  have ob15 : (op == 15) = false := by simp [ho]
  have ob16 : (op == 16) = true := by simp [ho]
  rw [ob15,ob16] at HR0
  clear ho ob15 ob16
  unfold boxW itO rdO MidS at *
  unfold rdV at *
  dsimp only at *
  go_enter Tryz.func168,Tryz.ntmps168
  go_wp2_with fail
  go_region_held2 (fun w' => (w'.cell? ⟨w.heap.size,0,none⟩ = some (.pointer (some ⟨p,0,none⟩)) ∧ w'.cell? ⟨w.heap.size,1,none⟩ = some (.int .u8 (x : Int)) ∧ w'.cell? ⟨w.heap.size,2,none⟩ = some (.map (some bn)) ∧ w'.cell? ⟨w.heap.size,3,none⟩ = some (.map (some bl))) ∧ w'.cell? ⟨w.heap.size + 1,2,none⟩ = some (.int .i64 (m : Int)) ∧ w'.cell? ⟨w.heap.size + 1,3,none⟩ = some (.int .i64 (l : Int))) (first | exact hk0 | exact hk00 | assumption | fail) (first
   | (revert j1; intro j1; go_at_call 155; (with_reducible refine j1.mono ?_); rintro e w1 ⟨F1,i1,fr1,hp1,⟨L1,M1,q1,d1,hs1,rfl,hU1,hO1⟩ | ⟨hs1,rfl,M1,hpm1,hO1⟩⟩; (case inr => exact ⟨rfl,HQ.out _ _ (m0.bad (by rw [HR0.out,hs1]; first | done | rfl) fr1 hp1 hpm1 hO1)⟩); have hr1 := HR0.out; rw [hs1] at hr1; dsimp only [bindM] at hr1; have HR1 : Hid _ := hr1; clear hr1; have l1 := q1r m0.good kd hs1; have m1 := m0.step fr1 hp1 hO1 l1.pre l1.good; have hk1 := HCL.out _ m1.rb m1.xb; have j2 := hc _ F1 i1 M1 m m1.obj (hm.pre m1.hi); unfold rdV at j2)
   | (revert j2; intro j2; go_at_call 155; (with_reducible refine j2.mono ?_); rintro e w2 ⟨F2,i2,fr2,hp2,⟨L2,M2,q2,d2,hs2,rfl,hU2,hO2⟩ | ⟨hs2,rfl,M2,hpm2,hO2⟩⟩; (case inr => exact ⟨rfl,HQ.out _ _ (m1.bad (by rw [HR1.out,hs2]; first | done | rfl) fr2 hp2 hpm2 hO2)⟩); have hr2 := HR1.out; rw [hs2] at hr2; dsimp only [bindM] at hr2; have HR2 : Hid _ := hr2; clear hr2; have l2 := q1r m1.good kc hs2; have m2 := m1.step fr2 hp2 hO2 l2.pre l2.good; have hk2 := HCL.out _ m2.rb m2.xb; have j3 := qS m2.obj i _ (HI.out.pre m2.hi) HKS.out.1 HKS.out.2; unfold rdV at j3)
   | (revert j3; intro j3; go_at_call 176; (with_reducible refine j3.mono ?_); rintro e w3 ⟨F3,i3,fr3,hp3,⟨L3,M3,q3,d3,hs3,rfl,hU3,hO3⟩ | ⟨hs3,rfl,M3,hpm3,hO3⟩⟩; (case inr => exact ⟨rfl,HQ.out _ _ (m2.bad (by rw [HR2.out,hs3]; first | done | rfl) fr3 hp3 hpm3 hO3)⟩); have hr3 := HR2.out; rw [hs3] at hr3; dsimp only [bindM] at hr3; have HR3 : Hid _ := hr3; clear hr3; have l3 := q3b m2.good HKS.out.1 hs3; have m3 := m2.step fr3 hp3 hO3 l3.pre l3.good; have hk3 := HCL.out _ m3.rb m3.xb; have j4 := qF (qp T0 p vs x bn bl) false m3.obj (hU2.fr fr3) (hU3) l2.lst l3.lst; unfold twF at j4; simp only [Bool.false_eq_true,if_false] at j4)
   | (revert j4; intro j4; go_at_call 126; (with_reducible refine j4.mono ?_); rintro e w4 ⟨F4,i4,fr4,hp4,⟨L4,M4,q4,d4,hs4,rfl,hU4,hO4⟩ | ⟨hs4,rfl,M4,hpm4,hO4⟩⟩; (case inr => exact ⟨rfl,HQ.out _ _ (m3.bad (by rw [HR3.out,hs4]; first | done | rfl) fr4 hp4 hpm4 hO4)⟩); have hr4 := HR3.out; rw [hs4] at hr4; dsimp only [bindM] at hr4; have HR4 : Hid _ := hr4; clear hr4; have l4 := q7A m3.good (l2.mono l3.pre) (l3.bd) hs4; have m4 := m3.step fr4 hp4 hO4 l4.pre l4.good; have hk4 := HCL.out _ m4.rb m4.xb; have j5 := qF (qp T0 p vs x bn bl) true m4.obj (((hU1.fr fr2).fr fr3).fr fr4) (hU4) l1.lst l4.lst; unfold twF at j5; simp only [if_true] at j5)
   | (revert j5; intro j5; go_at_call 125; (with_reducible refine j5.mono ?_); rintro e w5 ⟨F5,i5,fr5,hp5,⟨L5,M5,q5,d5,hs5,rfl,hU5,hO5⟩ | ⟨hs5,rfl,M5,hpm5,hO5⟩⟩; (case inr => exact ⟨rfl,HQ.out _ _ (m4.bad (by rw [HR4.out,hs5]; first | done | rfl) fr5 hp5 hpm5 hO5)⟩); have hk5 : Hid (Q (.returned (.slice q5 L5.length d5)) w5) := (HQ.out _ _ (m4.fin (by rw [HR4.out,hs5]; first | done | rfl) fr5 hp5 hU5 hO5)); have hkk5 := HCL.out _ (qh m4.rb m4.rn fr5).1 (qh m4.xb m4.xn fr5).1)
   | fail)
  all_goals
   clear j1 j2 j3 j4 j5
   go_wp2
   exact hk5.out
def wyF (box : Bool) : FuncId := if box then 179 else 178
def WyQ (T0 : Tr) (p : Nat) (vs : Value) (x bn bl : Nat) (box : Bool) (r f : Tr) : Prop := ∀ (w : World) (F : Nat → Prop) (items : List It) (M : Mt) (i k : Nat) (a : Option Addr) (c : Nat) (s : List Nat),RdO T0 p vs x bn bl w F items M → US w F a s.length c s → s.length ≤ 1024 → BdL s M.length → Rep items i r → Rep items k f →
 Calls Tryz.prog (wyF box) #[rdV p x bn bl,.int .i64 (i : Int),.slice a s.length c,.int .i64 (k : Int)] w (RetQ (RdO T0 p vs x bn bl) w F items M (pthC box r s f x M))
theorem qaG {T0 : Tr} {p : Nat} {vs : Value} {x bn bl : Nat} (op : Nat) (ho : op = 17 ∨ op = 18) (c d : Tr) (kS : KT (.bin (op,0) c d)) (hd : LvQ T0 p vs x bn bl 155 d) (hw : ∀ box,box = (op == 18) → WyQ T0 p vs x bn bl box c d) : LvQ T0 p vs x bn bl 168 (.bin (op,0) c d) := by
 intro w F items M i h hi
 obtain ⟨pp,m,l,hx,hm,hl⟩ : ∃ pp m l : Nat,items[i]? = some ⟨op,pp,(m : Int),(l : Int)⟩ ∧ Rep items m c ∧ Rep items l d := by cases hi with | bin h h1 h2 h3 h4 => exact ⟨0,_,_,h,h3,h4⟩
 obtain ⟨F1,_,_,_,_,hrd⟩ := id h
 obtain ⟨G,rest,hpo⟩ := hrd.pg.part
 obtain ⟨a,n,cap,g,o,c0,hidx,x0,x1,x2,x3⟩ := (hpo.up (qd w (rdO p x bn bl))).at hx
 obtain ⟨m0,m00⟩ := qI h op pp (m : Int) ((l : Int))
 have hk0 := m0.cells
 have hk00 := m00.cells
 have HCL : Hid (∀ w' : World,w'.heap[w.heap.size]? = some (rdO p x bn bl) → w'.heap[w.heap.size + 1]? = some (itO ⟨op,pp,(m : Int),(l : Int)⟩) → MidS p x bn bl w.heap.size (m : Int) ((l : Int)) w') := fun w' e1 e2 => ⟨⟨qb e1 0,qb e1 1,qb e1 2,qb e1 3⟩,qb e2 2,qb e2 3⟩
 have hbx := (MapKept.heap_alloc w (rdO p x bn bl)).1
 have r0 : (w.alloc (rdO p x bn bl)).cell? ⟨w.heap.size,0,none⟩ = some (.pointer (some ⟨p,0,none⟩)) := qb hbx 0
 obtain ⟨kc,kd⟩ := q1l kS (by omega)
 have HW : Hid ((op = 17 → WyQ T0 p vs x bn bl false c d) ∧ (op = 18 → WyQ T0 p vs x bn bl true c d)) := ⟨fun h => hw false (by rw [h]; rfl),fun h => hw true (by rw [h]; rfl)⟩
 have j1 := hd _ F items M l m0.obj hl
 obtain ⟨R,hR⟩ : ∃ R,R = aftC (.bin (op,0) c d) x M := ⟨_,rfl⟩
 have HR0 : Hid (R = bindM (aftC d x M) fun s M1 => pthC (op == 18) c s d x M1) := by show _ = _; rw [hR]; exact qed kS ho x M
 rw [← hR]
 obtain ⟨Q,hQ⟩ : ∃ Q : Ending → World → Prop,Q = RetQ (RdO T0 p vs x bn bl) w F items M R := ⟨_,rfl⟩
 have HQ : Hid (∀ e w',RetQ (RdO T0 p vs x bn bl) w F items M R e w' → Q e w') := fun e w' h => by rw [hQ]; exact h
 rw [← hQ]
 clear hrd hpo hR hQ hbx h hx
 have n0 : ((op : Int) == 0) = false := by rw [beq_eq_false_iff_ne]; omega
 have n4 : ((op : Int) == 4) = false := by rw [beq_eq_false_iff_ne]; omega
 have n1 : ((op : Int) == 1) = false := by rw [beq_eq_false_iff_ne]; omega
 have n5 : ((op : Int) == 5) = false := by rw [beq_eq_false_iff_ne]; omega
 have n2 : ((op : Int) == 2) = false := by rw [beq_eq_false_iff_ne]; omega
 have n6 : ((op : Int) == 6) = false := by rw [beq_eq_false_iff_ne]; omega
 have n11 : ((op : Int) == 11) = false := by rw [beq_eq_false_iff_ne]; omega
 have n12 : ((op : Int) == 12) = false := by rw [beq_eq_false_iff_ne]; omega
 have n7 : ((op : Int) == 7) = false := by rw [beq_eq_false_iff_ne]; omega
 have n8 : ((op : Int) == 8) = false := by rw [beq_eq_false_iff_ne]; omega
 have n15 : ((op : Int) == 15) = false := by rw [beq_eq_false_iff_ne]; omega
 have n16 : ((op : Int) == 16) = false := by rw [beq_eq_false_iff_ne]; omega

 rcases ho with ho | ho
 ·have n17 : ((op : Int) == 17) = true := by rw [beq_iff_eq]; omega
  have ob18 : (op == 18) = false := by simp [ho]
  rw [ob18] at HR0
  have HW1 : Hid _ := HW.out.1 ho
  clear ho ob18
  unfold boxW itO rdO MidS at *
  unfold rdV at *
  dsimp only at *
  go_enter Tryz.func168,Tryz.ntmps168
  go_wp2_with fail
  go_region_held2 (fun w' => (w'.cell? ⟨w.heap.size,0,none⟩ = some (.pointer (some ⟨p,0,none⟩)) ∧ w'.cell? ⟨w.heap.size,1,none⟩ = some (.int .u8 (x : Int)) ∧ w'.cell? ⟨w.heap.size,2,none⟩ = some (.map (some bn)) ∧ w'.cell? ⟨w.heap.size,3,none⟩ = some (.map (some bl))) ∧ w'.cell? ⟨w.heap.size + 1,2,none⟩ = some (.int .i64 (m : Int)) ∧ w'.cell? ⟨w.heap.size + 1,3,none⟩ = some (.int .i64 (l : Int))) (first | exact hk0 | exact hk00 | assumption | fail) (first
   | (revert j1; intro j1; go_at_call 155; (with_reducible refine j1.mono ?_); rintro e w1 ⟨F1,i1,fr1,hp1,⟨L1,M1,q1,d1,hs1,rfl,hU1,hO1⟩ | ⟨hs1,rfl,M1,hpm1,hO1⟩⟩; (case inr => exact ⟨rfl,HQ.out _ _ (m0.bad (by rw [HR0.out,hs1]; first | done | rfl) fr1 hp1 hpm1 hO1)⟩); have hr1 := HR0.out; rw [hs1] at hr1; dsimp only [bindM] at hr1; have HR1 : Hid _ := hr1; clear hr1; have l1 := q1r m0.good kd hs1; have m1 := m0.step fr1 hp1 hO1 l1.pre l1.good; have hk1 := HCL.out _ m1.rb m1.xb; have j2 := HW1.out _ F1 i1 M1 m l _ _ L1 m1.obj hU1 l1.len l1.bd (hm.pre m1.hi) (hl.pre m1.hi); (try unfold wyF at j2); (try unfold rdV at j2); simp only [Bool.false_eq_true,if_false] at j2)
   | (revert j2; intro j2; go_at_call 178; (with_reducible refine j2.mono ?_); rintro e w2 ⟨F2,i2,fr2,hp2,⟨L2,M2,q2,d2,hs2,rfl,hU2,hO2⟩ | ⟨hs2,rfl,M2,hpm2,hO2⟩⟩; (case inr => exact ⟨rfl,HQ.out _ _ (m1.bad (by rw [HR1.out,hs2]; first | done | rfl) fr2 hp2 hpm2 hO2)⟩); have hk2 : Hid (Q (.returned (.slice q2 L2.length d2)) w2) := (HQ.out _ _ (m1.fin (by rw [HR1.out,hs2]; first | done | rfl) fr2 hp2 hU2 hO2)); have hkk2 := HCL.out _ (qh m1.rb m1.rn fr2).1 (qh m1.xb m1.xn fr2).1)
   | fail)
  all_goals
   clear j1 j2
   go_wp2
   exact hk2.out
 ·have n17 : ((op : Int) == 17) = false := by rw [beq_eq_false_iff_ne]; omega
  have n18 : ((op : Int) == 18) = true := by rw [beq_iff_eq]; omega
  have ob18 : (op == 18) = true := by simp [ho]
  rw [ob18] at HR0
  have HW1 : Hid _ := HW.out.2 ho
  clear ho ob18
  unfold boxW itO rdO MidS at *
  unfold rdV at *
  dsimp only at *
  go_enter Tryz.func168,Tryz.ntmps168
  go_wp2_with fail
  go_region_held2 (fun w' => (w'.cell? ⟨w.heap.size,0,none⟩ = some (.pointer (some ⟨p,0,none⟩)) ∧ w'.cell? ⟨w.heap.size,1,none⟩ = some (.int .u8 (x : Int)) ∧ w'.cell? ⟨w.heap.size,2,none⟩ = some (.map (some bn)) ∧ w'.cell? ⟨w.heap.size,3,none⟩ = some (.map (some bl))) ∧ w'.cell? ⟨w.heap.size + 1,2,none⟩ = some (.int .i64 (m : Int)) ∧ w'.cell? ⟨w.heap.size + 1,3,none⟩ = some (.int .i64 (l : Int))) (first | exact hk0 | exact hk00 | assumption | fail) (first
   | (revert j1; intro j1; go_at_call 155; (with_reducible refine j1.mono ?_); rintro e w1 ⟨F1,i1,fr1,hp1,⟨L1,M1,q1,d1,hs1,rfl,hU1,hO1⟩ | ⟨hs1,rfl,M1,hpm1,hO1⟩⟩; (case inr => exact ⟨rfl,HQ.out _ _ (m0.bad (by rw [HR0.out,hs1]; first | done | rfl) fr1 hp1 hpm1 hO1)⟩); have hr1 := HR0.out; rw [hs1] at hr1; dsimp only [bindM] at hr1; have HR1 : Hid _ := hr1; clear hr1; have l1 := q1r m0.good kd hs1; have m1 := m0.step fr1 hp1 hO1 l1.pre l1.good; have hk1 := HCL.out _ m1.rb m1.xb; have j2 := HW1.out _ F1 i1 M1 m l _ _ L1 m1.obj hU1 l1.len l1.bd (hm.pre m1.hi) (hl.pre m1.hi); (try unfold wyF at j2); (try unfold rdV at j2); simp only [if_true] at j2)
   | (revert j2; intro j2; go_at_call 179; (with_reducible refine j2.mono ?_); rintro e w2 ⟨F2,i2,fr2,hp2,⟨L2,M2,q2,d2,hs2,rfl,hU2,hO2⟩ | ⟨hs2,rfl,M2,hpm2,hO2⟩⟩; (case inr => exact ⟨rfl,HQ.out _ _ (m1.bad (by rw [HR1.out,hs2]; first | done | rfl) fr2 hp2 hpm2 hO2)⟩); have hk2 : Hid (Q (.returned (.slice q2 L2.length d2)) w2) := (HQ.out _ _ (m1.fin (by rw [HR1.out,hs2]; first | done | rfl) fr2 hp2 hU2 hO2)); have hkk2 := HCL.out _ (qh m1.rb m1.rn fr2).1 (qh m1.xb m1.xn fr2).1)
   | fail)
  all_goals
   clear j1 j2
   go_wp2
   exact hk2.out
theorem q9P {T0 : Tr} {p : Nat} {vs : Value} {x bn bl : Nat} (op : Nat) (ho : op = 7 ∨ op = 8) (c : Tr) (kS : KT (.un (op,0) c)) (hS : InC T0 (.un (op,0) c)) : LvQ T0 p vs x bn bl 168 (.un (op,0) c) := by
 intro w F items M i h hi
 obtain ⟨pp,m,hx,hm⟩ : ∃ pp m : Nat,items[i]? = some ⟨op,pp,(m : Int),-1⟩ ∧ Rep items m c := by cases hi with | un h h1 h2 => exact ⟨0,_,h,h2⟩
 obtain ⟨F1,_,_,_,_,hrd⟩ := id h
 obtain ⟨G,rest,hpo⟩ := hrd.pg.part
 obtain ⟨a,n,cap,g,o,c0,hidx,x0,x1,x2,x3⟩ := (hpo.up (qd w (rdO p x bn bl))).at hx
 obtain ⟨m0,m00⟩ := qI h op pp (m : Int) ((-1))
 have hk0 := m0.cells
 have hk00 := m00.cells
 have HCL : Hid (∀ w' : World,w'.heap[w.heap.size]? = some (rdO p x bn bl) → w'.heap[w.heap.size + 1]? = some (itO ⟨op,pp,(m : Int),(-1)⟩) → MidS p x bn bl w.heap.size (m : Int) ((-1)) w') := fun w' e1 e2 => ⟨⟨qb e1 0,qb e1 1,qb e1 2,qb e1 3⟩,qb e2 2,qb e2 3⟩
 have hbx := (MapKept.heap_alloc w (rdO p x bn bl)).1
 have r0 : (w.alloc (rdO p x bn bl)).cell? ⟨w.heap.size,0,none⟩ = some (.pointer (some ⟨p,0,none⟩)) := qb hbx 0
 have kc : KT c := by
  rcases kt_un kS with ⟨_,⟨h6,_⟩ | ⟨_,hc⟩⟩
  ·omega
  ·exact hc
 have HKS : Hid (KT c ∧ InC T0 c) := ⟨kc,qgu hS⟩
 obtain ⟨R,hR⟩ : ∃ R,R = aftC (.un (op,0) c) x M := ⟨_,rfl⟩
 have HR0 : Hid (R = bindM (needM (.leaf (if op = 7 then 4 else 5,0)) M) fun a M1 => bindM (needM c M1) fun b M2 => twoM (op == 7) a b M2) := by show _ = _; rw [hR]; exact qda ho c x M
 rw [← hR]
 obtain ⟨Q,hQ⟩ : ∃ Q : Ending → World → Prop,Q = RetQ (RdO T0 p vs x bn bl) w F items M R := ⟨_,rfl⟩
 have HQ : Hid (∀ e w',RetQ (RdO T0 p vs x bn bl) w F items M R e w' → Q e w') := fun e w' h => by rw [hQ]; exact h
 rw [← hQ]
 clear hrd hpo hR hQ hbx h hx
 have n0 : ((op : Int) == 0) = false := by rw [beq_eq_false_iff_ne]; omega
 have n4 : ((op : Int) == 4) = false := by rw [beq_eq_false_iff_ne]; omega
 have n1 : ((op : Int) == 1) = false := by rw [beq_eq_false_iff_ne]; omega
 have n5 : ((op : Int) == 5) = false := by rw [beq_eq_false_iff_ne]; omega
 have n2 : ((op : Int) == 2) = false := by rw [beq_eq_false_iff_ne]; omega
 have n6 : ((op : Int) == 6) = false := by rw [beq_eq_false_iff_ne]; omega
 have n11 : ((op : Int) == 11) = false := by rw [beq_eq_false_iff_ne]; omega
 have n12 : ((op : Int) == 12) = false := by rw [beq_eq_false_iff_ne]; omega
 have n15 : ((op : Int) == 15) = false := by rw [beq_eq_false_iff_ne]; omega
 have n16 : ((op : Int) == 16) = false := by rw [beq_eq_false_iff_ne]; omega
 have n17 : ((op : Int) == 17) = false := by rw [beq_eq_false_iff_ne]; omega

 rcases ho with ho | ho
 ·have n7 : ((op : Int) == 7) = true := by rw [beq_iff_eq]; omega
  have ob7 : (op == 7) = true := by simp [ho]
  rw [ob7] at HR0
  have j1 : Calls Tryz.prog 177 #[.pointer (some ⟨p,0,none⟩),.int .u8 4] (boxW w p x bn bl op pp (m : Int) (-1)).drew (KeptQ T0 p vs x bn bl (boxW w p x bn bl op pp (m : Int) (-1)).drew F items M (.leaf (4,0))) := q2Q m0.obj fun G rest hpo => q40 hpo 4 (by simp)
  rw [show (if op = 7 then 4 else 5) = 4 by simp [ho]] at HR0
  clear ho ob7
  unfold boxW itO rdO MidS at *
  unfold rdV at *
  dsimp only at *
  go_enter Tryz.func168,Tryz.ntmps168
  go_wp2_with fail
  go_region_held2 (fun w' => (w'.cell? ⟨w.heap.size,0,none⟩ = some (.pointer (some ⟨p,0,none⟩)) ∧ w'.cell? ⟨w.heap.size,1,none⟩ = some (.int .u8 (x : Int)) ∧ w'.cell? ⟨w.heap.size,2,none⟩ = some (.map (some bn)) ∧ w'.cell? ⟨w.heap.size,3,none⟩ = some (.map (some bl))) ∧ w'.cell? ⟨w.heap.size + 1,2,none⟩ = some (.int .i64 (m : Int)) ∧ w'.cell? ⟨w.heap.size + 1,3,none⟩ = some (.int .i64 (-1))) (first | exact hk0 | exact hk00 | assumption | fail) (first
   | (revert j1; intro j1; go_at_call 177; (with_reducible refine j1.mono ?_); rintro e w1 ⟨n1,i1,F1,rfl,hp1,hrep1,fr1,hO1⟩; have m1 := m0.step fr1 hp1 hO1 (List.prefix_refl _) m0.good; have hk1 := HCL.out _ m1.rb m1.xb; have HR1 : Hid _ := HR0.out; have j2 := qS m1.obj n1 _ hrep1 (q2k 4 (by simp)) (q6k (by simp)); unfold rdV at j2)
   | (revert j2; intro j2; go_at_call 176; (with_reducible refine j2.mono ?_); rintro e w2 ⟨F2,i2,fr2,hp2,⟨L2,M2,q2,d2,hs2,rfl,hU2,hO2⟩ | ⟨hs2,rfl,M2,hpm2,hO2⟩⟩; (case inr => exact ⟨rfl,HQ.out _ _ (m1.bad (by rw [HR1.out,hs2]; first | done | rfl) fr2 hp2 hpm2 hO2)⟩); have hr2 := HR1.out; rw [hs2] at hr2; dsimp only [bindM] at hr2; have HR2 : Hid _ := hr2; clear hr2; have l2 := q3b m1.good (q2k 4 (by simp)) hs2; have m2 := m1.step fr2 hp2 hO2 l2.pre l2.good; have hk2 := HCL.out _ m2.rb m2.xb; have j3 := qS m2.obj m _ (hm.pre m2.hi) HKS.out.1 HKS.out.2; unfold rdV at j3)
   | (revert j3; intro j3; go_at_call 176; (with_reducible refine j3.mono ?_); rintro e w3 ⟨F3,i3,fr3,hp3,⟨L3,M3,q3,d3,hs3,rfl,hU3,hO3⟩ | ⟨hs3,rfl,M3,hpm3,hO3⟩⟩; (case inr => exact ⟨rfl,HQ.out _ _ (m2.bad (by rw [HR2.out,hs3]; first | done | rfl) fr3 hp3 hpm3 hO3)⟩); have hr3 := HR2.out; rw [hs3] at hr3; dsimp only [bindM] at hr3; have HR3 : Hid _ := hr3; clear hr3; have l3 := q3b m2.good HKS.out.1 hs3; have m3 := m2.step fr3 hp3 hO3 l3.pre l3.good; have hk3 := HCL.out _ m3.rb m3.xb; have j4 := qF (qp T0 p vs x bn bl) true m3.obj (hU2.fr fr3) (hU3) l2.lst l3.lst; unfold twF at j4; simp only [if_true] at j4)
   | (revert j4; intro j4; go_at_call 125; (with_reducible refine j4.mono ?_); rintro e w4 ⟨F4,i4,fr4,hp4,⟨L4,M4,q4,d4,hs4,rfl,hU4,hO4⟩ | ⟨hs4,rfl,M4,hpm4,hO4⟩⟩; (case inr => exact ⟨rfl,HQ.out _ _ (m3.bad (by rw [HR3.out,hs4]; first | done | rfl) fr4 hp4 hpm4 hO4)⟩); have hk4 : Hid (Q (.returned (.slice q4 L4.length d4)) w4) := (HQ.out _ _ (m3.fin (by rw [HR3.out,hs4]; first | done | rfl) fr4 hp4 hU4 hO4)); have hkk4 := HCL.out _ (qh m3.rb m3.rn fr4).1 (qh m3.xb m3.xn fr4).1)
   | fail)
  all_goals
   clear j1 j2 j3 j4
   go_wp2
   exact hk4.out
 ·have n7 : ((op : Int) == 7) = false := by rw [beq_eq_false_iff_ne]; omega
  have n8 : ((op : Int) == 8) = true := by rw [beq_iff_eq]; omega
  have ob7 : (op == 7) = false := by simp [ho]
  rw [ob7] at HR0
  have j1 : Calls Tryz.prog 177 #[.pointer (some ⟨p,0,none⟩),.int .u8 5] (boxW w p x bn bl op pp (m : Int) (-1)).drew (KeptQ T0 p vs x bn bl (boxW w p x bn bl op pp (m : Int) (-1)).drew F items M (.leaf (5,0))) := q2Q m0.obj fun G rest hpo => q40 hpo 5 (by simp)
  rw [show (if op = 7 then 4 else 5) = 5 by simp [ho]] at HR0
  clear ho ob7
  unfold boxW itO rdO MidS at *
  unfold rdV at *
  dsimp only at *
  go_enter Tryz.func168,Tryz.ntmps168
  go_wp2_with fail
  go_region_held2 (fun w' => (w'.cell? ⟨w.heap.size,0,none⟩ = some (.pointer (some ⟨p,0,none⟩)) ∧ w'.cell? ⟨w.heap.size,1,none⟩ = some (.int .u8 (x : Int)) ∧ w'.cell? ⟨w.heap.size,2,none⟩ = some (.map (some bn)) ∧ w'.cell? ⟨w.heap.size,3,none⟩ = some (.map (some bl))) ∧ w'.cell? ⟨w.heap.size + 1,2,none⟩ = some (.int .i64 (m : Int)) ∧ w'.cell? ⟨w.heap.size + 1,3,none⟩ = some (.int .i64 (-1))) (first | exact hk0 | exact hk00 | assumption | fail) (first
   | (revert j1; intro j1; go_at_call 177; (with_reducible refine j1.mono ?_); rintro e w1 ⟨n1,i1,F1,rfl,hp1,hrep1,fr1,hO1⟩; have m1 := m0.step fr1 hp1 hO1 (List.prefix_refl _) m0.good; have hk1 := HCL.out _ m1.rb m1.xb; have HR1 : Hid _ := HR0.out; have j2 := qS m1.obj n1 _ hrep1 (q2k 5 (by simp)) (q6k (by simp)); unfold rdV at j2)
   | (revert j2; intro j2; go_at_call 176; (with_reducible refine j2.mono ?_); rintro e w2 ⟨F2,i2,fr2,hp2,⟨L2,M2,q2,d2,hs2,rfl,hU2,hO2⟩ | ⟨hs2,rfl,M2,hpm2,hO2⟩⟩; (case inr => exact ⟨rfl,HQ.out _ _ (m1.bad (by rw [HR1.out,hs2]; first | done | rfl) fr2 hp2 hpm2 hO2)⟩); have hr2 := HR1.out; rw [hs2] at hr2; dsimp only [bindM] at hr2; have HR2 : Hid _ := hr2; clear hr2; have l2 := q3b m1.good (q2k 5 (by simp)) hs2; have m2 := m1.step fr2 hp2 hO2 l2.pre l2.good; have hk2 := HCL.out _ m2.rb m2.xb; have j3 := qS m2.obj m _ (hm.pre m2.hi) HKS.out.1 HKS.out.2; unfold rdV at j3)
   | (revert j3; intro j3; go_at_call 176; (with_reducible refine j3.mono ?_); rintro e w3 ⟨F3,i3,fr3,hp3,⟨L3,M3,q3,d3,hs3,rfl,hU3,hO3⟩ | ⟨hs3,rfl,M3,hpm3,hO3⟩⟩; (case inr => exact ⟨rfl,HQ.out _ _ (m2.bad (by rw [HR2.out,hs3]; first | done | rfl) fr3 hp3 hpm3 hO3)⟩); have hr3 := HR2.out; rw [hs3] at hr3; dsimp only [bindM] at hr3; have HR3 : Hid _ := hr3; clear hr3; have l3 := q3b m2.good HKS.out.1 hs3; have m3 := m2.step fr3 hp3 hO3 l3.pre l3.good; have hk3 := HCL.out _ m3.rb m3.xb; have j4 := qF (qp T0 p vs x bn bl) false m3.obj (hU2.fr fr3) (hU3) l2.lst l3.lst; unfold twF at j4; simp only [Bool.false_eq_true,if_false] at j4)
   | (revert j4; intro j4; go_at_call 126; (with_reducible refine j4.mono ?_); rintro e w4 ⟨F4,i4,fr4,hp4,⟨L4,M4,q4,d4,hs4,rfl,hU4,hO4⟩ | ⟨hs4,rfl,M4,hpm4,hO4⟩⟩; (case inr => exact ⟨rfl,HQ.out _ _ (m3.bad (by rw [HR3.out,hs4]; first | done | rfl) fr4 hp4 hpm4 hO4)⟩); have hk4 : Hid (Q (.returned (.slice q4 L4.length d4)) w4) := (HQ.out _ _ (m3.fin (by rw [HR3.out,hs4]; first | done | rfl) fr4 hp4 hU4 hO4)); have hkk4 := HCL.out _ (qh m3.rb m3.rn fr4).1 (qh m3.xb m3.xn fr4).1)
   | fail)
  all_goals
   clear j1 j2 j3 j4
   go_wp2
   exact hk4.out
theorem qbc {T0 : Tr} {p : Nat} {vs : Value} {x bn bl : Nat} {w w1 w' : World} {F : Nat → Prop} {items : List It} {M : Mt} {R : Rt} {l : List Nat} {e : Ending} (h : RdO T0 p vs x bn bl w F items M) (hb : Below w.heap.size w w1) (hR : R = some (l,M)) (hn : NewL l w1 e w') : RetQ (RdO T0 p vs x bn bl) w F items M R e w' := by
 rw [hR]
 exact (q4f (qp T0 p vs x bn bl) ((qp T0 p vs x bn bl).up h hb) hn).after (Fr.ofBelow hb) (List.prefix_refl _) (List.prefix_refl _)
theorem qaH {T0 : Tr} {p : Nat} {vs : Value} {x bn bl : Nat} (op : Nat) (ho : op = 0 ∨ op = 4 ∨ op = 1 ∨ op = 5) : LvQ T0 p vs x bn bl 168 (.leaf (op,0)) := by
 intro w F items M i h hi
 obtain ⟨pp,hx⟩ : ∃ pp : Nat,items[i]? = some ⟨op,pp,-1,-1⟩ := by cases hi with | leaf h => exact ⟨0,h⟩
 obtain ⟨F1,_,_,_,_,hrd⟩ := id h
 obtain ⟨G,rest,hpo⟩ := hrd.pg.part
 obtain ⟨a,n,cap,g,o,c0,hidx,x0,x1,x2,x3⟩ := (hpo.up (qd w (rdO p x bn bl))).at hx
 have hbx := (MapKept.heap_alloc w (rdO p x bn bl)).1
 have r0 : (w.alloc (rdO p x bn bl)).cell? ⟨w.heap.size,0,none⟩ = some (.pointer (some ⟨p,0,none⟩)) := qb hbx 0
 have hb : Below w.heap.size w (boxW w p x bn bl op pp (-1) (-1)) := qe (qd _ _) (qd _ _)
 have HN : Hid (∀ e w',NewL (yesM (op == 0 || op == 4)) (boxW w p x bn bl op pp (-1) (-1)) e w' → RetQ (RdO T0 p vs x bn bl) w F items M (aftC (.leaf (op,0)) x M) e w') := fun e w' hn => qbc h hb (by rw [q5f]; rw [if_neg (by dsimp only; omega)]) hn
 have jj := q1N (boxW w p x bn bl op pp (-1) (-1))
 clear hrd hpo hbx h hx hb hi
 generalize aftC (.leaf (op,0)) x M = R at *
 obtain ⟨Q,hQ⟩ : ∃ Q : Ending → World → Prop,Q = RetQ (RdO T0 p vs x bn bl) w F items M R := ⟨_,rfl⟩
 rw [← hQ] at HN ⊢
 clear hQ
 rcases ho with rfl | rfl | rfl | rfl
 ·unfold boxW itO rdO at *
  unfold rdV
  dsimp only at *
  go_enter Tryz.func168,Tryz.ntmps168
  go_wp2_with fail
  refine jj.mono ?_
  rintro e w1 ⟨q,C,rfl,hU,hb,hf⟩
  have HE : Hid (Q (.returned (.slice q [0].length C)) w1) := HN.out _ _ ⟨q,C,rfl,hU,hb,hf⟩
  clear jj hU hb hf
  go_wp2
  exact HE.out
 ·unfold boxW itO rdO at *
  unfold rdV
  dsimp only at *
  go_enter Tryz.func168,Tryz.ntmps168
  go_wp2_with fail
  refine jj.mono ?_
  rintro e w1 ⟨q,C,rfl,hU,hb,hf⟩
  have HE : Hid (Q (.returned (.slice q [0].length C)) w1) := HN.out _ _ ⟨q,C,rfl,hU,hb,hf⟩
  clear jj hU hb hf
  go_wp2
  exact HE.out
 ·have HE : Hid _ := HN.out _ _ (q3u _ _ (Below.refl _ _))
  unfold boxW itO rdO at *
  unfold rdV
  dsimp only at *
  clear jj
  go_enter Tryz.func168,Tryz.ntmps168
  go_wp2
  exact HE.out
 ·have HE : Hid _ := HN.out _ _ (q3u _ _ (Below.refl _ _))
  unfold boxW itO rdO at *
  unfold rdV
  dsimp only at *
  clear jj
  go_enter Tryz.func168,Tryz.ntmps168
  go_wp2
  exact HE.out
theorem q9Q {T0 : Tr} {p : Nat} {vs : Value} {x bn bl : Nat} (hx8 : x < 256) (q : Nat) (hq : q ≤ 7) : LvQ T0 p vs x bn bl 168 (.leaf (2,q)) := by
 intro w F items M i h hi
 obtain ⟨op,hop,hx⟩ : ∃ op : Nat,op = 2 ∧ items[i]? = some ⟨op,q,-1,-1⟩ := by cases hi with | leaf h => exact ⟨2,rfl,h⟩
 obtain ⟨F1,_,_,_,_,hrd⟩ := id h
 obtain ⟨G,rest,hpo⟩ := hrd.pg.part
 obtain ⟨a,n,cap,g,o,c0,hidx,x0,x1,x2,x3⟩ := (hpo.up (qd w (rdO p x bn bl))).at hx
 obtain ⟨m0,m00⟩ := qI h op q (-1) (-1)
 have hbx := (MapKept.heap_alloc w (rdO p x bn bl)).1
 have r0 : (w.alloc (rdO p x bn bl)).cell? ⟨w.heap.size,0,none⟩ = some (.pointer (some ⟨p,0,none⟩)) := qb hbx 0
 have s0 := m00.cells
 have s1 : (boxW w p x bn bl op q (-1) (-1)).cell? ⟨w.heap.size + 1,1,none⟩ = some (.int .u8 (q : Int)) := qb m00.xb 1
 have hb : Below w.heap.size w (boxW w p x bn bl op q (-1) (-1)) := qe (qd _ _) (qd _ _)
 have hhas := q4P p x bn bl q hx8 hq (boxW w p x bn bl op q (-1) (-1))
 have HN : Hid (∀ w1 e w',Below (boxW w p x bn bl op q (-1) (-1)).heap.size (boxW w p x bn bl op q (-1) (-1)) w1 → NewL (yesM (x.testBit q)) w1 e w' → RetQ (RdO T0 p vs x bn bl) w F items M (aftC (.leaf (2,q)) x M) e w') := fun w1 e w' hb1 hn => qbc h (qe hb hb1) (by rw [q5f]; rfl) hn
 clear hrd hpo hbx h hx hb hi m0 m00
 generalize aftC (.leaf (2,q)) x M = R at *
 obtain ⟨Q,hQ⟩ : ∃ Q : Ending → World → Prop,Q = RetQ (RdO T0 p vs x bn bl) w F items M R := ⟨_,rfl⟩
 rw [← hQ] at HN ⊢
 clear hQ
 have n0 : ((op : Int) == 0) = false := by rw [beq_eq_false_iff_ne]; omega
 have n1 : ((op : Int) == 1) = false := by rw [beq_eq_false_iff_ne]; omega
 have n4 : ((op : Int) == 4) = false := by rw [beq_eq_false_iff_ne]; omega
 have n5 : ((op : Int) == 5) = false := by rw [beq_eq_false_iff_ne]; omega
 have n2 : ((op : Int) == 2) = true := by rw [beq_iff_eq]; omega
 clear hop
 obtain ⟨⟨s00,s01,s02,s03⟩,_⟩ := s0
 unfold boxW itO rdO at *
 unfold rdV at *
 dsimp only at *
 go_enter Tryz.func168,Tryz.ntmps168
 go_wp2_with fail
 refine hhas.mono ?_
 rintro e w1 ⟨rfl,hb1⟩
 have jw := q43 (x.testBit q) w1
 have HB1 : Hid _ := hb1
 clear hhas hb1
 generalize x.testBit q = tb at *
 go_wp2_with fail
 refine jw.mono ?_
 intro e w2 hn
 have hn' := hn
 obtain ⟨qq,C,rfl,_⟩ := hn'
 have HE : Hid (Q (.returned (.slice qq (yesM tb).length C)) w2) := HN.out w1 _ _ HB1.out hn
 clear jw hn
 go_wp2
 exact HE.out
theorem qaE {T0 : Tr} {p : Nat} {vs : Value} {x bn bl : Nat} (hx8 : x < 256) (q : Nat) (hq : q ≤ 7) : LvQ T0 p vs x bn bl 168 (.un (6,0) (.leaf (2,q))) := by
 intro w F items M i h hi
 obtain ⟨op,pp,m,hop,hx,hm⟩ : ∃ op pp m : Nat,op = 6 ∧ items[i]? = some ⟨op,pp,(m : Int),-1⟩ ∧ Rep items m (.leaf (2,q)) := by cases hi with | un h h1 h2 => exact ⟨6,0,_,rfl,h,h2⟩
 have hxm : items[m]? = some ⟨2,q,-1,-1⟩ := by cases hm with | leaf h => exact h
 obtain ⟨m0,m00⟩ := qI h op pp (m : Int) (-1)
 have hb : Below w.heap.size w (boxW w p x bn bl op pp (m : Int) (-1)) := qe (qd _ _) (qd _ _)
 obtain ⟨F1,_,_,_,_,hrd⟩ := id h
 obtain ⟨G,rest,hpo⟩ := hrd.pg.part
 obtain ⟨a,n,cap,g,o,c0,hidx,x0,x1,x2,x3⟩ := (hpo.up (qd w (rdO p x bn bl))).at hx
 obtain ⟨a',n',cap',g',o',c0',hidx',_,y1,_,_⟩ := (hpo.up hb).at hxm
 have ea : Value.slice a n cap = .slice a' n' cap' := by
  have e1 := (hpo.up (qd w (rdO p x bn bl))).up (qd _ (itO ⟨op,pp,(m : Int),-1⟩))
  have e2 : (boxW w p x bn bl op pp (m : Int) (-1)).cell? ⟨p,0,none⟩ = (w.alloc (rdO p x bn bl)).cell? ⟨p,0,none⟩ := by
   obtain ⟨vi,mp,vt,hbk,_⟩ := (hpo.up (qd w (rdO p x bn bl))).blk
   obtain ⟨vi',mp',vt',hbk',_⟩ := e1.blk
   have hlt := (Array.getElem?_eq_some_iff.1 hbk).1
   have : (boxW w p x bn bl op pp (m : Int) (-1)).heap[p]? = (w.alloc (rdO p x bn bl)).heap[p]? := (qd (w.alloc (rdO p x bn bl)) (itO ⟨op,pp,(m : Int),-1⟩)).block p hlt
   unfold World.cell?
   rw [this]
  rw [c0',c0] at e2
  injection e2 with e2
  exact e2.symm
 injection ea with ea1 ea2 ea3
 subst ea1 ea2 ea3
 have hbx := (MapKept.heap_alloc w (rdO p x bn bl)).1
 have r0 : (w.alloc (rdO p x bn bl)).cell? ⟨w.heap.size,0,none⟩ = some (.pointer (some ⟨p,0,none⟩)) := qb hbx 0
 have hk0 := m0.cells
 have hk00 := m00.cells
 have hcc : (boxW w p x bn bl op pp (m : Int) (-1)).drew.cell? ⟨p,0,none⟩ = some (.slice a n cap) := c0'
 have hyy : (boxW w p x bn bl op pp (m : Int) (-1)).drew.cell? ⟨g',o' + 1,none⟩ = some (.int .u8 (q : Int)) := y1
 have hhas := q4P p x bn bl q hx8 hq (boxW w p x bn bl op pp (m : Int) (-1)).drew
 have HN : Hid (∀ w1 e w',Below (boxW w p x bn bl op pp (m : Int) (-1)).drew.heap.size (boxW w p x bn bl op pp (m : Int) (-1)).drew w1 → NewL (yesM (!x.testBit q)) w1 e w' → RetQ (RdO T0 p vs x bn bl) w F items M (aftC (.un (6,0) (.leaf (2,q))) x M) e w') := fun w1 e w' hb1 hn => qbc h (qe hb.drew hb1) (by rw [qec]; rfl) hn
 clear hrd hpo hbx h hx hb hi m0 m00 hm hxm
 generalize aftC (.un (6,0) (.leaf (2,q))) x M = R at *
 obtain ⟨Q,hQ⟩ : ∃ Q : Ending → World → Prop,Q = RetQ (RdO T0 p vs x bn bl) w F items M R := ⟨_,rfl⟩
 rw [← hQ] at HN ⊢
 clear hQ
 have n0 : ((op : Int) == 0) = false := by rw [beq_eq_false_iff_ne]; omega
 have n1 : ((op : Int) == 1) = false := by rw [beq_eq_false_iff_ne]; omega
 have n4 : ((op : Int) == 4) = false := by rw [beq_eq_false_iff_ne]; omega
 have n5 : ((op : Int) == 5) = false := by rw [beq_eq_false_iff_ne]; omega
 have n2 : ((op : Int) == 2) = false := by rw [beq_eq_false_iff_ne]; omega
 have n6 : ((op : Int) == 6) = true := by rw [beq_iff_eq]; omega
 clear hop
 unfold boxW itO rdO MidS at *
 unfold rdV at *
 dsimp only at *
 have hS0 := And.intro (And.intro hcc hyy) hk0
 have hS00 := And.intro (And.intro c0' y1) hk00
 have HKC : Hid (∀ (wa wb : World) (ad : Addr) (v : Value),wa.cell? ad = some v → Below wa.heap.size wa wb → wb.cell? ad = some v) := fun wa wb ad v h1 h2 => qn h1 h2
 go_enter Tryz.func168,Tryz.ntmps168
 go_wp2_with fail
 go_region_held2 (fun w' => (w'.cell? ⟨p,0,none⟩ = some (.slice a n cap) ∧ w'.cell? ⟨g',o' + 1,none⟩ = some (.int .u8 (q : Int))) ∧ (w'.cell? ⟨w.heap.size,0,none⟩ = some (.pointer (some ⟨p,0,none⟩)) ∧ w'.cell? ⟨w.heap.size,1,none⟩ = some (.int .u8 (x : Int)) ∧ w'.cell? ⟨w.heap.size,2,none⟩ = some (.map (some bn)) ∧ w'.cell? ⟨w.heap.size,3,none⟩ = some (.map (some bl))) ∧ w'.cell? ⟨w.heap.size + 1,2,none⟩ = some (.int .i64 (m : Int)) ∧ w'.cell? ⟨w.heap.size + 1,3,none⟩ = some (.int .i64 (-1))) (first | exact hS0 | exact hS00 | assumption | fail) (first
  | (go_at_call 175; (with_reducible refine hhas.mono ?_); rintro e w1 ⟨rfl,hb1⟩; have hS1 := And.intro (And.intro (HKC.out _ w1 _ _ hS0.1.1 hb1) (HKC.out _ w1 _ _ hS0.1.2 hb1)) (And.intro (And.intro (HKC.out _ w1 _ _ hS0.2.1.1 hb1) (And.intro (HKC.out _ w1 _ _ hS0.2.1.2.1 hb1) (And.intro (HKC.out _ w1 _ _ hS0.2.1.2.2.1 hb1) (HKC.out _ w1 _ _ hS0.2.1.2.2.2 hb1)))) (And.intro (HKC.out _ w1 _ _ hS0.2.2.1 hb1) (HKC.out _ w1 _ _ hS0.2.2.2 hb1))); have jw := q43 (!x.testBit q) w1)
  | (revert jw; intro jw; go_at_call 174; (with_reducible refine jw.mono ?_); intro e w2 hn; have hn' := hn; obtain ⟨qq,C,rfl,_,hb2,_⟩ := hn'; have HE : Hid (Q (.returned (.slice qq (yesM (!x.testBit q)).length C)) w2) := (HN.out w1 _ _ hb1 hn); have hS2 := And.intro (And.intro (HKC.out _ w2 _ _ hS1.1.1 hb2) (HKC.out _ w2 _ _ hS1.1.2 hb2)) (And.intro (And.intro (HKC.out _ w2 _ _ hS1.2.1.1 hb2) (And.intro (HKC.out _ w2 _ _ hS1.2.1.2.1 hb2) (And.intro (HKC.out _ w2 _ _ hS1.2.1.2.2.1 hb2) (HKC.out _ w2 _ _ hS1.2.1.2.2.2 hb2)))) (And.intro (HKC.out _ w2 _ _ hS1.2.2.1 hb2) (HKC.out _ w2 _ _ hS1.2.2.2 hb2))))
  | fail)
 all_goals
  clear hhas jw
  go_wp2
  exact HE.out
theorem qgr (b : Bool) : hoB (yesM b) 0 = b := by cases b <;> decide
theorem q3Y {T0 : Tr} {p : Nat} {vs : Value} {x bn bl : Nat} {w : World} {F : Nat → Prop} {items : List It} {M : Mt} (h : RdO T0 p vs x bn bl w F items M) (i : Nat) (S : Tr) (hi : Rep items i S) (kS : KT S) (pS : plainT S = true) (ha : LvQ T0 p vs x bn bl 155 S) :
  Calls Tryz.prog 181 #[rdV p x bn bl,.int .i64 (i : Int)] w fun e w' => e = .returned (.bool (plV x S)) ∧ ∃ F' items',Fr w w' F F' ∧ items <+: items' ∧ RdO T0 p vs x bn bl w' F' items' M := by
 have hb := qd w (rdO p x bn bl)
 have hO := (qp T0 p vs x bn bl).up h hb
 have j1 := ha _ F items M i hO hi
 rw [q2W M kS pS] at j1
 have hbx := (MapKept.heap_alloc w (rdO p x bn bl)).1
 have b0 : (w.alloc (rdO p x bn bl)).cell? ⟨w.heap.size,0,none⟩ = some (.pointer (some ⟨p,0,none⟩)) := qb hbx 0
 have b1 : (w.alloc (rdO p x bn bl)).cell? ⟨w.heap.size,1,none⟩ = some (.int .u8 (x : Int)) := qb hbx 1
 have b2 : (w.alloc (rdO p x bn bl)).cell? ⟨w.heap.size,2,none⟩ = some (.map (some bn)) := qb hbx 2
 have b3 : (w.alloc (rdO p x bn bl)).cell? ⟨w.heap.size,3,none⟩ = some (.map (some bl)) := qb hbx 3
 have HB : Hid (Fr w (w.alloc (rdO p x bn bl)) F F) := Fr.ofBelow hb
 clear h hb hO hbx hi kS pS ha
 generalize plV x S = v at *
 unfold rdO rdV at *
 go_enter Tryz.func181,Tryz.ntmps181
 go_wp2_with fail
 refine j1.mono ?_
 rintro e w1 ⟨F1,i1,fr1,hp1,⟨L,M1,q,d,hs,rfl,hU,hO1⟩ | ⟨hs,_⟩⟩
 ·injection hs with hs
  injection hs with hs1 hs2
  subst hs1 hs2
  have sm : Sm (yesM v) := fun y hy => by
   unfold yesM at hy
   cases v with
   | true => simp at hy; subst hy; decide
   | false => simp at hy
  have j2 := q2B q (yesM v).length d (yesM v) 0 w1 hU.sl sm (by decide)
  rw [qgr] at j2
  have HF : Hid (Fr w w1 F F1) := HB.out.trans fr1
  have HO : Hid _ := hO1
  clear j1 fr1 hU hO1 sm
  generalize (yesM v).length = n at *
  go_wp2_with fail
  refine j2.mono ?_
  rintro e w2 ⟨rfl,hb2⟩
  have HE : Hid (∃ F' items',Fr w w2 F F' ∧ items <+: items' ∧ RdO T0 p vs x bn bl w2 F' items' M) := ⟨F1,i1,HF.out.trans (Fr.ofBelow hb2),hp1,(qp T0 p vs x bn bl).up HO.out hb2⟩
  clear j2 hb2 HF HO
  go_wp2
  go_ret
  exact ⟨rfl,HE.out⟩
 ·cases hs
end Go.Proofs.YtailhklbmenaoaaGreatDoor
