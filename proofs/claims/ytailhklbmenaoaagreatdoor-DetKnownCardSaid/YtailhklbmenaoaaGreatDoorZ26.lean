/- Texts of the proof, put together: what it uses. -/
import Derived.Test.YtailhklbmenaoaaGreatDoorZ25
set_option maxRecDepth 100000
set_option maxHeartbeats 16000000
namespace Go.Proofs.YtailhklbmenaoaaGreatDoor
open Go.RowKit Go.Maps
theorem MidR.drew {T0 : Tr} {p : Nat} {vs : Value} {x bn bl : Nat} {w : World} {F : Nat → Prop} {items : List It} {M : Mt} {B : Nat} {o : Obj} {wj : World} {Fj : Nat → Prop} {ij : List It} {Mj : Mt} (h : MidR T0 p vs x bn bl w F items M B o wj Fj ij Mj) : MidR T0 p vs x bn bl w F items M B o wj.drew Fj ij Mj :=
 ⟨(qp T0 p vs x bn bl).up h.obj (Below.refl _ _).drew,h.fr.trans (Fr.ofBelow (Below.refl _ _).drew),h.hi,h.hM,h.good,h.rb,h.rn,h.xb,h.xn⟩
theorem q4V (w : World) : Calls Tryz.prog 124 #[] w fun e w' => ∃ q C,e = .returned (.slice q 1 C) ∧ USl w' q 1 C [0] ∧ Below w.heap.size w w' ∧ ∀ k,k < 1 → w.heap.size ≤ (adOf q k).block := q1N w
theorem q8i (m : Nat) : BdL [0] m := q16 true m
theorem q50 {T0 : Tr} {p : Nat} {vs : Value} {x bn bl : Nat} (c d f : Tr) (kr : KP (.bin (21,0) c d)) (kf : KT f) (hc : WyQ T0 p vs x bn bl false c f) (hd : WyQ T0 p vs x bn bl false d f) : WyQ T0 p vs x bn bl false (.bin (21,0) c d) f := by
 intro w F items M i k av cv s h hUs hls hbs hi hkf
 obtain ⟨op,pp,m,l,hop,hx,hm,hl⟩ : ∃ op pp m l : Nat,op = 21 ∧ items[i]? = some ⟨op,pp,(m : Int),(l : Int)⟩ ∧ Rep items m c ∧ Rep items l d := by cases hi with | bin h h1 h2 h3 h4 => exact ⟨_,0,_,_,rfl,h,h3,h4⟩
 obtain ⟨F1,_,_,_,_,hrd⟩ := id h
 obtain ⟨G,rest,hpo⟩ := hrd.pg.part
 obtain ⟨a,n,cap,g,o,c0,hidx,x0,x1,x2,x3⟩ := (hpo.up (qd w (rdO p x bn bl))).at hx
 obtain ⟨m0,m00⟩ := qI h op pp (m : Int) (l : Int)
 have hk0 := m0.cells
 have hk00 := m00.cells
 have HCL : Hid (∀ w' : World,w'.heap[w.heap.size]? = some (rdO p x bn bl) → w'.heap[w.heap.size + 1]? = some (itO ⟨op,pp,(m : Int),(l : Int)⟩) → MidS p x bn bl w.heap.size (m : Int) (l : Int) w') := fun w' e1 e2 => ⟨⟨qb e1 0,qb e1 1,qb e1 2,qb e1 3⟩,qb e2 2,qb e2 3⟩
 have hbx := (MapKept.heap_alloc w (rdO p x bn bl)).1
 have r0 : (w.alloc (rdO p x bn bl)).cell? ⟨w.heap.size,0,none⟩ = some (.pointer (some ⟨p,0,none⟩)) := qb hbx 0
 have HI : Hid (Rep items i (.bin (21,0) c d)) := hi
 have ls : LstH s := ⟨qM hbs m0.good.few,hls⟩
 obtain ⟨_,_,kc,kd⟩ := q1k kr
 have j1 := hc _ _ _ _ m k _ _ s m0.obj (hUs.fr m0.fr) hls hbs (hm) (hkf)
 unfold wyF at j1
 skip
 simp only [Bool.false_eq_true,if_false] at j1
 obtain ⟨R,hR⟩ : ∃ R,R = pthC false (.bin (21,0) c d) s f x M := ⟨_,rfl⟩
 have HR0 : Hid (R = bindM (pthC false c s f x M) fun a M1 => bindM (pthC false d s f x M1) fun b M2 => twoM false a b M2) := by show _ = _; rw [hR]; exact q98 kr s f x M
 rw [← hR]
 obtain ⟨Q,hQ⟩ : ∃ Q : Ending → World → Prop,Q = RetQ (RdO T0 p vs x bn bl) w F items M R := ⟨_,rfl⟩
 have HQ : Hid (∀ e w',RetQ (RdO T0 p vs x bn bl) w F items M R e w' → Q e w') := fun e w' h => by rw [hQ]; exact h
 rw [← hQ]
 clear hrd hpo hR hQ hbx h hx hi
 have n19 : ((op : Int) == 19) = false := by rw [beq_eq_false_iff_ne]; omega
 have n20 : ((op : Int) == 20) = false := by rw [beq_eq_false_iff_ne]; omega
 have n21 : ((op : Int) == 21) = true := by rw [beq_iff_eq]; omega
 clear hop
 unfold wyF
 simp only [Bool.false_eq_true,if_false]
 unfold boxW itO rdO MidS at *
 unfold rdV at *
 dsimp only at *
 go_enter Tryz.func178,Tryz.ntmps178
 go_wp2_with fail
 go_region_held2 (fun w' => (w'.cell? ⟨w.heap.size,0,none⟩ = some (.pointer (some ⟨p,0,none⟩)) ∧ w'.cell? ⟨w.heap.size,1,none⟩ = some (.int .u8 (x : Int)) ∧ w'.cell? ⟨w.heap.size,2,none⟩ = some (.map (some bn)) ∧ w'.cell? ⟨w.heap.size,3,none⟩ = some (.map (some bl))) ∧ w'.cell? ⟨w.heap.size + 1,2,none⟩ = some (.int .i64 (m : Int)) ∧ w'.cell? ⟨w.heap.size + 1,3,none⟩ = some (.int .i64 (l : Int))) (first | exact hk0 | exact hk00 | assumption | fail) (first
   | (revert j1; intro j1; go_at_call 178; (with_reducible refine j1.mono ?_); rintro e w1 ⟨F1,i1,fr1,hp1,⟨L1,M1,q1,d1,hs1,rfl,hU1,hO1⟩ | ⟨hs1,rfl,M1,hpm1,hO1⟩⟩; (case inr => exact ⟨rfl,HQ.out _ _ (m0.bad (by rw [HR0.out,hs1]; first | done | rfl) fr1 hp1 hpm1 hO1)⟩); have hr1 := HR0.out; rw [hs1] at hr1; dsimp only [bindM] at hr1; have HR1 : Hid _ := hr1; clear hr1; have l1 := q2Z m0.good kc kf hbs hs1; have m1 := m0.step fr1 hp1 hO1 l1.pre l1.good; have hk1 := HCL.out _ m1.rb m1.xb; have j2 := hd _ _ _ _ l k _ _ s m1.obj (hUs.fr m1.fr) hls (hbs.mono m1.hM.length_le) (hl.pre m1.hi) (hkf.pre m1.hi); (try unfold wyF at j2); (try unfold rdV at j2); simp only [Bool.false_eq_true,if_false] at j2)
   | (revert j2; intro j2; go_at_call 178; (with_reducible refine j2.mono ?_); rintro e w2 ⟨F2,i2,fr2,hp2,⟨L2,M2,q2,d2,hs2,rfl,hU2,hO2⟩ | ⟨hs2,rfl,M2,hpm2,hO2⟩⟩; (case inr => exact ⟨rfl,HQ.out _ _ (m1.bad (by rw [HR1.out,hs2]; first | done | rfl) fr2 hp2 hpm2 hO2)⟩); have hr2 := HR1.out; rw [hs2] at hr2; dsimp only [bindM] at hr2; have HR2 : Hid _ := hr2; clear hr2; have l2 := q2Z m1.good kd kf (hbs.mono m1.hM.length_le) hs2; have m2 := m1.step fr2 hp2 hO2 l2.pre l2.good; have hk2 := HCL.out _ m2.rb m2.xb; have j3 := qF (qp T0 p vs x bn bl) false m2.obj (hU1.fr fr2) (hU2) l1.lst l2.lst; unfold twF at j3; simp only [Bool.false_eq_true,if_false] at j3)
   | (revert j3; intro j3; go_at_call 126; (with_reducible refine j3.mono ?_); rintro e w3 ⟨F3,i3,fr3,hp3,⟨L3,M3,q3,d3,hs3,rfl,hU3,hO3⟩ | ⟨hs3,rfl,M3,hpm3,hO3⟩⟩; (case inr => exact ⟨rfl,HQ.out _ _ (m2.bad (by rw [HR2.out,hs3]; first | done | rfl) fr3 hp3 hpm3 hO3)⟩); have hk3 : Hid (Q (.returned (.slice q3 L3.length d3)) w3) := (HQ.out _ _ (m2.fin (by rw [HR2.out,hs3]; first | done | rfl) fr3 hp3 hU3 hO3)); have hkk3 := HCL.out _ (qh m2.rb m2.rn fr3).1 (qh m2.xb m2.xn fr3).1)
   | fail)
 all_goals
  clear j1 j2 j3
  go_wp2
  exact hk3.out
theorem q5a {T0 : Tr} {p : Nat} {vs : Value} {x bn bl : Nat} (c d f : Tr) (kr : KP (.bin (22,0) c d)) (kf : KT f) (hS : InC T0 (.bin (modeO false,0) d f)) (hc : WyQ T0 p vs x bn bl false c (.bin (modeO false,0) d f)) (hd : WyQ T0 p vs x bn bl false d f) : WyQ T0 p vs x bn bl false (.bin (22,0) c d) f := by
 intro w F items M i k av cv s h hUs hls hbs hi hkf
 obtain ⟨op,pp,m,l,hop,hx,hm,hl⟩ : ∃ op pp m l : Nat,op = 22 ∧ items[i]? = some ⟨op,pp,(m : Int),(l : Int)⟩ ∧ Rep items m c ∧ Rep items l d := by cases hi with | bin h h1 h2 h3 h4 => exact ⟨_,0,_,_,rfl,h,h3,h4⟩
 obtain ⟨F1,_,_,_,_,hrd⟩ := id h
 obtain ⟨G,rest,hpo⟩ := hrd.pg.part
 obtain ⟨a,n,cap,g,o,c0,hidx,x0,x1,x2,x3⟩ := (hpo.up (qd w (rdO p x bn bl))).at hx
 obtain ⟨m0,m00⟩ := qI h op pp (m : Int) (l : Int)
 have hk0 := m0.cells
 have hk00 := m00.cells
 have HCL : Hid (∀ w' : World,w'.heap[w.heap.size]? = some (rdO p x bn bl) → w'.heap[w.heap.size + 1]? = some (itO ⟨op,pp,(m : Int),(l : Int)⟩) → MidS p x bn bl w.heap.size (m : Int) (l : Int) w') := fun w' e1 e2 => ⟨⟨qb e1 0,qb e1 1,qb e1 2,qb e1 3⟩,qb e2 2,qb e2 3⟩
 have hbx := (MapKept.heap_alloc w (rdO p x bn bl)).1
 have r0 : (w.alloc (rdO p x bn bl)).cell? ⟨w.heap.size,0,none⟩ = some (.pointer (some ⟨p,0,none⟩)) := qb hbx 0
 have HI : Hid (Rep items i (.bin (22,0) c d)) := hi
 obtain ⟨_,_,kc,kd⟩ := q1k kr
 have HS : Hid (InC T0 (.bin (modeO false,0) d f)) := hS
 have j1 := hd _ _ _ _ l k _ _ s m00.obj (hUs.fr m00.fr) hls hbs (hl) (hkf)
 unfold wyF at j1
 skip
 simp only [Bool.false_eq_true,if_false] at j1
 obtain ⟨R,hR⟩ : ∃ R,R = pthC false (.bin (22,0) c d) s f x M := ⟨_,rfl⟩
 have HR0 : Hid (R = bindM (pthC false d s f x M) fun a M1 => pthC false c a (.bin (modeO false,0) d f) x M1) := by show _ = _; rw [hR]; exact qbj kr s f x M
 rw [← hR]
 obtain ⟨Q,hQ⟩ : ∃ Q : Ending → World → Prop,Q = RetQ (RdO T0 p vs x bn bl) w F items M R := ⟨_,rfl⟩
 have HQ : Hid (∀ e w',RetQ (RdO T0 p vs x bn bl) w F items M R e w' → Q e w') := fun e w' h => by rw [hQ]; exact h
 rw [← hQ]
 clear hrd hpo hR hQ hbx h hx hi
 have n19 : ((op : Int) == 19) = false := by rw [beq_eq_false_iff_ne]; omega
 have n20 : ((op : Int) == 20) = false := by rw [beq_eq_false_iff_ne]; omega
 have n21 : ((op : Int) == 21) = false := by rw [beq_eq_false_iff_ne]; omega
 have n22 : ((op : Int) == 22) = true := by rw [beq_iff_eq]; omega
 clear hop
 unfold wyF
 simp only [Bool.false_eq_true,if_false]
 unfold boxW itO rdO MidS at *
 unfold rdV at *
 dsimp only at *
 go_enter Tryz.func178,Tryz.ntmps178
 go_wp2_with fail
 refine j1.mono ?_
 rintro e w1 ⟨F1,i1,fr1,hp1,⟨L1,M1,q1,d1,hs1,rfl,hU1,hO1⟩ | ⟨hs1,rfl,M1,hpm1,hO1⟩⟩
 case inr => exact ⟨rfl,HQ.out _ _ (m00.bad (by rw [HR0.out,hs1]; first | done | rfl) fr1 hp1 hpm1 hO1)⟩
 have hr1 := HR0.out
 rw [hs1] at hr1
 dsimp only [bindM] at hr1
 have HR1 : Hid _ := hr1
 have l1 := q2Z m00.good kd kf hbs hs1
 have m1a := m00.step fr1 hp1 hO1 l1.pre l1.good
 have m1 := m1a.drew
 have hk1 := HCL.out _ m1.rb m1.xb
 have hk1a := HCL.out _ m1a.rb m1a.xb
 have hU1 : US w1.drew F1 q1 L1.length d1 L1 := hU1.up (Below.refl _ _).drew
 have j2 : Calls Tryz.prog 182 #[.pointer (some ⟨p,0,none⟩),.int .u8 17,.int .i64 (l : Int),.int .i64 (k : Int)] w1.drew (KeptQ T0 p vs x bn bl w1.drew F1 i1 M1 (.bin (modeO false,0) d f)) := q2Q m1.obj fun G rest hpo => q1e hpo 17 (by decide) l k d f (hl.pre m1.hi) (hkf.pre m1.hi) HS.out
 clear j1 hr1 hk0 hk00 m0
 go_wp2_with fail
 go_region_held2 (fun w' => (w'.cell? ⟨w.heap.size,0,none⟩ = some (.pointer (some ⟨p,0,none⟩)) ∧ w'.cell? ⟨w.heap.size,1,none⟩ = some (.int .u8 (x : Int)) ∧ w'.cell? ⟨w.heap.size,2,none⟩ = some (.map (some bn)) ∧ w'.cell? ⟨w.heap.size,3,none⟩ = some (.map (some bl))) ∧ w'.cell? ⟨w.heap.size + 1,2,none⟩ = some (.int .i64 (m : Int)) ∧ w'.cell? ⟨w.heap.size + 1,3,none⟩ = some (.int .i64 (l : Int))) (first | exact hk1 | exact hk1a | assumption | fail) (first
   | (revert j2; intro j2; go_at_call 182; (with_reducible refine j2.mono ?_); rintro e w2 ⟨n2,i2,F2,rfl,hp2,hrep2,fr2,hO2⟩; have m2 := m1.step fr2 hp2 hO2 (List.prefix_refl _) m1.good; have hk2 := HCL.out _ m2.rb m2.xb; have HR2 : Hid _ := HR1.out; have j3 := hc _ _ _ _ m n2 _ _ L1 m2.obj (hU1.fr fr2) l1.len l1.bd (hm.pre m2.hi) (hrep2); (try unfold wyF at j3); (try unfold rdV at j3); simp only [Bool.false_eq_true,if_false] at j3)
   | (revert j3; intro j3; go_at_call 178; (with_reducible refine j3.mono ?_); rintro e w3 ⟨F3,i3,fr3,hp3,⟨L3,M3,q3,d3,hs3,rfl,hU3,hO3⟩ | ⟨hs3,rfl,M3,hpm3,hO3⟩⟩; (case inr => exact ⟨rfl,HQ.out _ _ (m2.bad (by rw [HR2.out,hs3]; first | done | rfl) fr3 hp3 hpm3 hO3)⟩); have hk3 : Hid (Q (.returned (.slice q3 L3.length d3)) w3) := (HQ.out _ _ (m2.fin (by rw [HR2.out,hs3]; first | done | rfl) fr3 hp3 hU3 hO3)); have hkk3 := HCL.out _ (qh m2.rb m2.rn fr3).1 (qh m2.xb m2.xn fr3).1)
   | fail)
 all_goals
  clear j2 j3
  go_wp2
  exact hk3.out
theorem q59 {T0 : Tr} {p : Nat} {vs : Value} {x bn bl : Nat} (c d f : Tr) (kr : KP (.bin (21,0) c d)) (kf : KT f) (hc : WyQ T0 p vs x bn bl true c f) (hd : WyQ T0 p vs x bn bl true d f) : WyQ T0 p vs x bn bl true (.bin (21,0) c d) f := by
 intro w F items M i k av cv s h hUs hls hbs hi hkf
 obtain ⟨op,pp,m,l,hop,hx,hm,hl⟩ : ∃ op pp m l : Nat,op = 21 ∧ items[i]? = some ⟨op,pp,(m : Int),(l : Int)⟩ ∧ Rep items m c ∧ Rep items l d := by cases hi with | bin h h1 h2 h3 h4 => exact ⟨_,0,_,_,rfl,h,h3,h4⟩
 obtain ⟨F1,_,_,_,_,hrd⟩ := id h
 obtain ⟨G,rest,hpo⟩ := hrd.pg.part
 obtain ⟨a,n,cap,g,o,c0,hidx,x0,x1,x2,x3⟩ := (hpo.up (qd w (rdO p x bn bl))).at hx
 obtain ⟨m0,m00⟩ := qI h op pp (m : Int) (l : Int)
 have hk0 := m0.cells
 have hk00 := m00.cells
 have HCL : Hid (∀ w' : World,w'.heap[w.heap.size]? = some (rdO p x bn bl) → w'.heap[w.heap.size + 1]? = some (itO ⟨op,pp,(m : Int),(l : Int)⟩) → MidS p x bn bl w.heap.size (m : Int) (l : Int) w') := fun w' e1 e2 => ⟨⟨qb e1 0,qb e1 1,qb e1 2,qb e1 3⟩,qb e2 2,qb e2 3⟩
 have hbx := (MapKept.heap_alloc w (rdO p x bn bl)).1
 have r0 : (w.alloc (rdO p x bn bl)).cell? ⟨w.heap.size,0,none⟩ = some (.pointer (some ⟨p,0,none⟩)) := qb hbx 0
 have HI : Hid (Rep items i (.bin (21,0) c d)) := hi
 have ls : LstH s := ⟨qM hbs m0.good.few,hls⟩
 obtain ⟨_,_,kc,kd⟩ := q1k kr
 have j1 := hc _ _ _ _ m k _ _ s m0.obj (hUs.fr m0.fr) hls hbs (hm) (hkf)
 unfold wyF at j1
 skip
 simp only [if_true] at j1
 obtain ⟨R,hR⟩ : ∃ R,R = pthC true (.bin (21,0) c d) s f x M := ⟨_,rfl⟩
 have HR0 : Hid (R = bindM (pthC true c s f x M) fun a M1 => bindM (pthC true d s f x M1) fun b M2 => twoM true a b M2) := by show _ = _; rw [hR]; exact q98 kr s f x M
 rw [← hR]
 obtain ⟨Q,hQ⟩ : ∃ Q : Ending → World → Prop,Q = RetQ (RdO T0 p vs x bn bl) w F items M R := ⟨_,rfl⟩
 have HQ : Hid (∀ e w',RetQ (RdO T0 p vs x bn bl) w F items M R e w' → Q e w') := fun e w' h => by rw [hQ]; exact h
 rw [← hQ]
 clear hrd hpo hR hQ hbx h hx hi
 have n19 : ((op : Int) == 19) = false := by rw [beq_eq_false_iff_ne]; omega
 have n20 : ((op : Int) == 20) = false := by rw [beq_eq_false_iff_ne]; omega
 have n21 : ((op : Int) == 21) = true := by rw [beq_iff_eq]; omega
 clear hop
 unfold wyF
 simp only [if_true]
 unfold boxW itO rdO MidS at *
 unfold rdV at *
 dsimp only at *
 go_enter Tryz.func179,Tryz.ntmps179
 go_wp2_with fail
 go_region_held2 (fun w' => (w'.cell? ⟨w.heap.size,0,none⟩ = some (.pointer (some ⟨p,0,none⟩)) ∧ w'.cell? ⟨w.heap.size,1,none⟩ = some (.int .u8 (x : Int)) ∧ w'.cell? ⟨w.heap.size,2,none⟩ = some (.map (some bn)) ∧ w'.cell? ⟨w.heap.size,3,none⟩ = some (.map (some bl))) ∧ w'.cell? ⟨w.heap.size + 1,2,none⟩ = some (.int .i64 (m : Int)) ∧ w'.cell? ⟨w.heap.size + 1,3,none⟩ = some (.int .i64 (l : Int))) (first | exact hk0 | exact hk00 | assumption | fail) (first
   | (revert j1; intro j1; go_at_call 179; (with_reducible refine j1.mono ?_); rintro e w1 ⟨F1,i1,fr1,hp1,⟨L1,M1,q1,d1,hs1,rfl,hU1,hO1⟩ | ⟨hs1,rfl,M1,hpm1,hO1⟩⟩; (case inr => exact ⟨rfl,HQ.out _ _ (m0.bad (by rw [HR0.out,hs1]; first | done | rfl) fr1 hp1 hpm1 hO1)⟩); have hr1 := HR0.out; rw [hs1] at hr1; dsimp only [bindM] at hr1; have HR1 : Hid _ := hr1; clear hr1; have l1 := q2Z m0.good kc kf hbs hs1; have m1 := m0.step fr1 hp1 hO1 l1.pre l1.good; have hk1 := HCL.out _ m1.rb m1.xb; have j2 := hd _ _ _ _ l k _ _ s m1.obj (hUs.fr m1.fr) hls (hbs.mono m1.hM.length_le) (hl.pre m1.hi) (hkf.pre m1.hi); (try unfold wyF at j2); (try unfold rdV at j2); simp only [if_true] at j2)
   | (revert j2; intro j2; go_at_call 179; (with_reducible refine j2.mono ?_); rintro e w2 ⟨F2,i2,fr2,hp2,⟨L2,M2,q2,d2,hs2,rfl,hU2,hO2⟩ | ⟨hs2,rfl,M2,hpm2,hO2⟩⟩; (case inr => exact ⟨rfl,HQ.out _ _ (m1.bad (by rw [HR1.out,hs2]; first | done | rfl) fr2 hp2 hpm2 hO2)⟩); have hr2 := HR1.out; rw [hs2] at hr2; dsimp only [bindM] at hr2; have HR2 : Hid _ := hr2; clear hr2; have l2 := q2Z m1.good kd kf (hbs.mono m1.hM.length_le) hs2; have m2 := m1.step fr2 hp2 hO2 l2.pre l2.good; have hk2 := HCL.out _ m2.rb m2.xb; have j3 := qF (qp T0 p vs x bn bl) true m2.obj (hU1.fr fr2) (hU2) l1.lst l2.lst; unfold twF at j3; simp only [if_true] at j3)
   | (revert j3; intro j3; go_at_call 125; (with_reducible refine j3.mono ?_); rintro e w3 ⟨F3,i3,fr3,hp3,⟨L3,M3,q3,d3,hs3,rfl,hU3,hO3⟩ | ⟨hs3,rfl,M3,hpm3,hO3⟩⟩; (case inr => exact ⟨rfl,HQ.out _ _ (m2.bad (by rw [HR2.out,hs3]; first | done | rfl) fr3 hp3 hpm3 hO3)⟩); have hk3 : Hid (Q (.returned (.slice q3 L3.length d3)) w3) := (HQ.out _ _ (m2.fin (by rw [HR2.out,hs3]; first | done | rfl) fr3 hp3 hU3 hO3)); have hkk3 := HCL.out _ (qh m2.rb m2.rn fr3).1 (qh m2.xb m2.xn fr3).1)
   | fail)
 all_goals
  clear j1 j2 j3
  go_wp2
  exact hk3.out
theorem q5O {T0 : Tr} {p : Nat} {vs : Value} {x bn bl : Nat} (c d f : Tr) (kr : KP (.bin (22,0) c d)) (kf : KT f) (hS : InC T0 (.bin (modeO true,0) d f)) (hc : WyQ T0 p vs x bn bl true c (.bin (modeO true,0) d f)) (hd : WyQ T0 p vs x bn bl true d f) : WyQ T0 p vs x bn bl true (.bin (22,0) c d) f := by
 intro w F items M i k av cv s h hUs hls hbs hi hkf
 obtain ⟨op,pp,m,l,hop,hx,hm,hl⟩ : ∃ op pp m l : Nat,op = 22 ∧ items[i]? = some ⟨op,pp,(m : Int),(l : Int)⟩ ∧ Rep items m c ∧ Rep items l d := by cases hi with | bin h h1 h2 h3 h4 => exact ⟨_,0,_,_,rfl,h,h3,h4⟩
 obtain ⟨F1,_,_,_,_,hrd⟩ := id h
 obtain ⟨G,rest,hpo⟩ := hrd.pg.part
 obtain ⟨a,n,cap,g,o,c0,hidx,x0,x1,x2,x3⟩ := (hpo.up (qd w (rdO p x bn bl))).at hx
 obtain ⟨m0,m00⟩ := qI h op pp (m : Int) (l : Int)
 have hk0 := m0.cells
 have hk00 := m00.cells
 have HCL : Hid (∀ w' : World,w'.heap[w.heap.size]? = some (rdO p x bn bl) → w'.heap[w.heap.size + 1]? = some (itO ⟨op,pp,(m : Int),(l : Int)⟩) → MidS p x bn bl w.heap.size (m : Int) (l : Int) w') := fun w' e1 e2 => ⟨⟨qb e1 0,qb e1 1,qb e1 2,qb e1 3⟩,qb e2 2,qb e2 3⟩
 have hbx := (MapKept.heap_alloc w (rdO p x bn bl)).1
 have r0 : (w.alloc (rdO p x bn bl)).cell? ⟨w.heap.size,0,none⟩ = some (.pointer (some ⟨p,0,none⟩)) := qb hbx 0
 have HI : Hid (Rep items i (.bin (22,0) c d)) := hi
 obtain ⟨_,_,kc,kd⟩ := q1k kr
 have HS : Hid (InC T0 (.bin (modeO true,0) d f)) := hS
 have j1 := hd _ _ _ _ l k _ _ s m00.obj (hUs.fr m00.fr) hls hbs (hl) (hkf)
 unfold wyF at j1
 skip
 simp only [if_true] at j1
 obtain ⟨R,hR⟩ : ∃ R,R = pthC true (.bin (22,0) c d) s f x M := ⟨_,rfl⟩
 have HR0 : Hid (R = bindM (pthC true d s f x M) fun a M1 => pthC true c a (.bin (modeO true,0) d f) x M1) := by show _ = _; rw [hR]; exact qbj kr s f x M
 rw [← hR]
 obtain ⟨Q,hQ⟩ : ∃ Q : Ending → World → Prop,Q = RetQ (RdO T0 p vs x bn bl) w F items M R := ⟨_,rfl⟩
 have HQ : Hid (∀ e w',RetQ (RdO T0 p vs x bn bl) w F items M R e w' → Q e w') := fun e w' h => by rw [hQ]; exact h
 rw [← hQ]
 clear hrd hpo hR hQ hbx h hx hi
 have n19 : ((op : Int) == 19) = false := by rw [beq_eq_false_iff_ne]; omega
 have n20 : ((op : Int) == 20) = false := by rw [beq_eq_false_iff_ne]; omega
 have n21 : ((op : Int) == 21) = false := by rw [beq_eq_false_iff_ne]; omega
 have n22 : ((op : Int) == 22) = true := by rw [beq_iff_eq]; omega
 clear hop
 unfold wyF
 simp only [if_true]
 unfold boxW itO rdO MidS at *
 unfold rdV at *
 dsimp only at *
 go_enter Tryz.func179,Tryz.ntmps179
 go_wp2_with fail
 refine j1.mono ?_
 rintro e w1 ⟨F1,i1,fr1,hp1,⟨L1,M1,q1,d1,hs1,rfl,hU1,hO1⟩ | ⟨hs1,rfl,M1,hpm1,hO1⟩⟩
 case inr => exact ⟨rfl,HQ.out _ _ (m00.bad (by rw [HR0.out,hs1]; first | done | rfl) fr1 hp1 hpm1 hO1)⟩
 have hr1 := HR0.out
 rw [hs1] at hr1
 dsimp only [bindM] at hr1
 have HR1 : Hid _ := hr1
 have l1 := q2Z m00.good kd kf hbs hs1
 have m1a := m00.step fr1 hp1 hO1 l1.pre l1.good
 have m1 := m1a.drew
 have hk1 := HCL.out _ m1.rb m1.xb
 have hk1a := HCL.out _ m1a.rb m1a.xb
 have hU1 : US w1.drew F1 q1 L1.length d1 L1 := hU1.up (Below.refl _ _).drew
 have j2 : Calls Tryz.prog 182 #[.pointer (some ⟨p,0,none⟩),.int .u8 18,.int .i64 (l : Int),.int .i64 (k : Int)] w1.drew (KeptQ T0 p vs x bn bl w1.drew F1 i1 M1 (.bin (modeO true,0) d f)) := q2Q m1.obj fun G rest hpo => q1e hpo 18 (by decide) l k d f (hl.pre m1.hi) (hkf.pre m1.hi) HS.out
 clear j1 hr1 hk0 hk00 m0
 go_wp2_with fail
 go_region_held2 (fun w' => (w'.cell? ⟨w.heap.size,0,none⟩ = some (.pointer (some ⟨p,0,none⟩)) ∧ w'.cell? ⟨w.heap.size,1,none⟩ = some (.int .u8 (x : Int)) ∧ w'.cell? ⟨w.heap.size,2,none⟩ = some (.map (some bn)) ∧ w'.cell? ⟨w.heap.size,3,none⟩ = some (.map (some bl))) ∧ w'.cell? ⟨w.heap.size + 1,2,none⟩ = some (.int .i64 (m : Int)) ∧ w'.cell? ⟨w.heap.size + 1,3,none⟩ = some (.int .i64 (l : Int))) (first | exact hk1 | exact hk1a | assumption | fail) (first
   | (revert j2; intro j2; go_at_call 182; (with_reducible refine j2.mono ?_); rintro e w2 ⟨n2,i2,F2,rfl,hp2,hrep2,fr2,hO2⟩; have m2 := m1.step fr2 hp2 hO2 (List.prefix_refl _) m1.good; have hk2 := HCL.out _ m2.rb m2.xb; have HR2 : Hid _ := HR1.out; have j3 := hc _ _ _ _ m n2 _ _ L1 m2.obj (hU1.fr fr2) l1.len l1.bd (hm.pre m2.hi) (hrep2); (try unfold wyF at j3); (try unfold rdV at j3); simp only [if_true] at j3)
   | (revert j3; intro j3; go_at_call 179; (with_reducible refine j3.mono ?_); rintro e w3 ⟨F3,i3,fr3,hp3,⟨L3,M3,q3,d3,hs3,rfl,hU3,hO3⟩ | ⟨hs3,rfl,M3,hpm3,hO3⟩⟩; (case inr => exact ⟨rfl,HQ.out _ _ (m2.bad (by rw [HR2.out,hs3]; first | done | rfl) fr3 hp3 hpm3 hO3)⟩); have hk3 : Hid (Q (.returned (.slice q3 L3.length d3)) w3) := (HQ.out _ _ (m2.fin (by rw [HR2.out,hs3]; first | done | rfl) fr3 hp3 hU3 hO3)); have hkk3 := HCL.out _ (qh m2.rb m2.rn fr3).1 (qh m2.xb m2.xn fr3).1)
   | fail)
 all_goals
  clear j2 j3
  go_wp2
  exact hk3.out
theorem q51 {T0 : Tr} {p : Nat} {vs : Value} {x bn bl : Nat} (c f : Tr) (kr : KP (.un (23,0) c)) (kf : KT f) (hS : InC T0 (.bin (modeO false,0) (.un (23,0) c) f)) (hc : WyQ T0 p vs x bn bl false c (.bin (modeO false,0) (.un (23,0) c) f)) : WyQ T0 p vs x bn bl false (.un (23,0) c) f := by
 intro w F items M i k av cv s h hUs hls hbs hi hkf
 obtain ⟨op,pp,m,hop,hx,hm⟩ : ∃ op pp m : Nat,op = 23 ∧ items[i]? = some ⟨op,pp,(m : Int),-1⟩ ∧ Rep items m c := by cases hi with | un h h1 h2 => exact ⟨_,0,_,rfl,h,h2⟩
 obtain ⟨F1,_,_,_,_,hrd⟩ := id h
 obtain ⟨G,rest,hpo⟩ := hrd.pg.part
 obtain ⟨a,n,cap,g,o,c0,hidx,x0,x1,x2,x3⟩ := (hpo.up (qd w (rdO p x bn bl))).at hx
 obtain ⟨m0,m00⟩ := qI h op pp (m : Int) (-1)
 have hk0 := m0.cells
 have hk00 := m00.cells
 have HCL : Hid (∀ w' : World,w'.heap[w.heap.size]? = some (rdO p x bn bl) → w'.heap[w.heap.size + 1]? = some (itO ⟨op,pp,(m : Int),(-1)⟩) → MidS p x bn bl w.heap.size (m : Int) (-1) w') := fun w' e1 e2 => ⟨⟨qb e1 0,qb e1 1,qb e1 2,qb e1 3⟩,qb e2 2,qb e2 3⟩
 have hbx := (MapKept.heap_alloc w (rdO p x bn bl)).1
 have r0 : (w.alloc (rdO p x bn bl)).cell? ⟨w.heap.size,0,none⟩ = some (.pointer (some ⟨p,0,none⟩)) := qb hbx 0
 have HI : Hid (Rep items i (.un (23,0) c)) := hi
 have ls : LstH s := ⟨qM hbs m0.good.few,hls⟩
 have kc : KP c := by
  rcases kp_un kr with ⟨_,⟨h6,_⟩ | ⟨h6,_⟩ | ⟨_,h6⟩⟩
  ·cases h6
  ·cases h6
  ·exact h6
 have HS : Hid (InC T0 (.bin (modeO false,0) (.un (23,0) c) f)) := hS
 have HKM : Hid (KT (.bin (modeO false,0) (.un (23,0) c) f)) := q2j kr kf false
 have j1 : Calls Tryz.prog 182 #[.pointer (some ⟨p,0,none⟩),.int .u8 17,.int .i64 (i : Int),.int .i64 (k : Int)] (boxW w p x bn bl op pp (m : Int) (-1)).drew (KeptQ T0 p vs x bn bl (boxW w p x bn bl op pp (m : Int) (-1)).drew F items M (.bin (modeO false,0) (.un (23,0) c) f)) := q2Q m0.obj fun G rest hpo => q1e hpo 17 (by decide) i k (.un (23,0) c) f (HI.out.pre m0.hi) (hkf.pre m0.hi) HS.out
 obtain ⟨R,hR⟩ : ∃ R,R = pthC false (.un (23,0) c) s f x M := ⟨_,rfl⟩
 have HR0 : Hid (R = bindM (pthC false c [] (.bin (modeO false,0) (.un (23,0) c) f) x M) fun a M1 => twoM false s a M1) := by show _ = _; rw [hR]; exact q99 kr s f x M
 rw [← hR]
 obtain ⟨Q,hQ⟩ : ∃ Q : Ending → World → Prop,Q = RetQ (RdO T0 p vs x bn bl) w F items M R := ⟨_,rfl⟩
 have HQ : Hid (∀ e w',RetQ (RdO T0 p vs x bn bl) w F items M R e w' → Q e w') := fun e w' h => by rw [hQ]; exact h
 rw [← hQ]
 clear hrd hpo hR hQ hbx h hx hi
 have n19 : ((op : Int) == 19) = false := by rw [beq_eq_false_iff_ne]; omega
 have n20 : ((op : Int) == 20) = false := by rw [beq_eq_false_iff_ne]; omega
 have n21 : ((op : Int) == 21) = false := by rw [beq_eq_false_iff_ne]; omega
 have n22 : ((op : Int) == 22) = false := by rw [beq_eq_false_iff_ne]; omega
 clear hop
 unfold wyF
 simp only [Bool.false_eq_true,if_false]
 unfold boxW itO rdO MidS at *
 unfold rdV at *
 dsimp only at *
 go_enter Tryz.func178,Tryz.ntmps178
 go_wp2_with fail
 go_region_held2 (fun w' => (w'.cell? ⟨w.heap.size,0,none⟩ = some (.pointer (some ⟨p,0,none⟩)) ∧ w'.cell? ⟨w.heap.size,1,none⟩ = some (.int .u8 (x : Int)) ∧ w'.cell? ⟨w.heap.size,2,none⟩ = some (.map (some bn)) ∧ w'.cell? ⟨w.heap.size,3,none⟩ = some (.map (some bl))) ∧ w'.cell? ⟨w.heap.size + 1,2,none⟩ = some (.int .i64 (m : Int)) ∧ w'.cell? ⟨w.heap.size + 1,3,none⟩ = some (.int .i64 (-1))) (first | exact hk0 | exact hk00 | assumption | fail) (first
   | (revert j1; intro j1; go_at_call 182; (with_reducible refine j1.mono ?_); rintro e w1 ⟨n1,i1,F1,rfl,hp1,hrep1,fr1,hO1⟩; have m1 := m0.step fr1 hp1 hO1 (List.prefix_refl _) m0.good; have hk1 := HCL.out _ m1.rb m1.xb; have HR1 : Hid _ := HR0.out; have j2 := hc _ _ _ _ m n1 _ _ [] m1.obj (qdH _ _) (by simp) (q16 false _) (hm.pre m1.hi) (hrep1); (try unfold wyF at j2); (try unfold rdV at j2); simp only [Bool.false_eq_true,if_false,List.length_nil] at j2)
   | (revert j2; intro j2; go_at_call 178; (with_reducible refine j2.mono ?_); rintro e w2 ⟨F2,i2,fr2,hp2,⟨L2,M2,q2,d2,hs2,rfl,hU2,hO2⟩ | ⟨hs2,rfl,M2,hpm2,hO2⟩⟩; (case inr => exact ⟨rfl,HQ.out _ _ (m1.bad (by rw [HR1.out,hs2]; first | done | rfl) fr2 hp2 hpm2 hO2)⟩); have hr2 := HR1.out; rw [hs2] at hr2; dsimp only [bindM] at hr2; have HR2 : Hid _ := hr2; clear hr2; have l2 := q2Z m1.good kc HKM.out (q16 false _) hs2; have m2 := m1.step fr2 hp2 hO2 l2.pre l2.good; have hk2 := HCL.out _ m2.rb m2.xb; have j3 := qF (qp T0 p vs x bn bl) false m2.obj (hUs.fr m2.fr) (hU2) ls l2.lst; unfold twF at j3; simp only [Bool.false_eq_true,if_false] at j3)
   | (revert j3; intro j3; go_at_call 126; (with_reducible refine j3.mono ?_); rintro e w3 ⟨F3,i3,fr3,hp3,⟨L3,M3,q3,d3,hs3,rfl,hU3,hO3⟩ | ⟨hs3,rfl,M3,hpm3,hO3⟩⟩; (case inr => exact ⟨rfl,HQ.out _ _ (m2.bad (by rw [HR2.out,hs3]; first | done | rfl) fr3 hp3 hpm3 hO3)⟩); have hk3 : Hid (Q (.returned (.slice q3 L3.length d3)) w3) := (HQ.out _ _ (m2.fin (by rw [HR2.out,hs3]; first | done | rfl) fr3 hp3 hU3 hO3)); have hkk3 := HCL.out _ (qh m2.rb m2.rn fr3).1 (qh m2.xb m2.xn fr3).1)
   | fail)
 all_goals
  clear j1 j2 j3
  go_wp2
  exact hk3.out
theorem q5b {T0 : Tr} {p : Nat} {vs : Value} {x bn bl : Nat} (c f : Tr) (kr : KP (.un (23,0) c)) (kf : KT f) (hS : InC T0 (.bin (modeO true,0) (.un (23,0) c) f)) (hc : WyQ T0 p vs x bn bl true c (.bin (modeO true,0) (.un (23,0) c) f)) : WyQ T0 p vs x bn bl true (.un (23,0) c) f := by
 intro w F items M i k av cv s h hUs hls hbs hi hkf
 obtain ⟨op,pp,m,hop,hx,hm⟩ : ∃ op pp m : Nat,op = 23 ∧ items[i]? = some ⟨op,pp,(m : Int),-1⟩ ∧ Rep items m c := by cases hi with | un h h1 h2 => exact ⟨_,0,_,rfl,h,h2⟩
 obtain ⟨F1,_,_,_,_,hrd⟩ := id h
 obtain ⟨G,rest,hpo⟩ := hrd.pg.part
 obtain ⟨a,n,cap,g,o,c0,hidx,x0,x1,x2,x3⟩ := (hpo.up (qd w (rdO p x bn bl))).at hx
 obtain ⟨m0,m00⟩ := qI h op pp (m : Int) (-1)
 have hk0 := m0.cells
 have hk00 := m00.cells
 have HCL : Hid (∀ w' : World,w'.heap[w.heap.size]? = some (rdO p x bn bl) → w'.heap[w.heap.size + 1]? = some (itO ⟨op,pp,(m : Int),(-1)⟩) → MidS p x bn bl w.heap.size (m : Int) (-1) w') := fun w' e1 e2 => ⟨⟨qb e1 0,qb e1 1,qb e1 2,qb e1 3⟩,qb e2 2,qb e2 3⟩
 have hbx := (MapKept.heap_alloc w (rdO p x bn bl)).1
 have r0 : (w.alloc (rdO p x bn bl)).cell? ⟨w.heap.size,0,none⟩ = some (.pointer (some ⟨p,0,none⟩)) := qb hbx 0
 have HI : Hid (Rep items i (.un (23,0) c)) := hi
 have ls : LstH s := ⟨qM hbs m0.good.few,hls⟩
 have kc : KP c := by
  rcases kp_un kr with ⟨_,⟨h6,_⟩ | ⟨h6,_⟩ | ⟨_,h6⟩⟩
  ·cases h6
  ·cases h6
  ·exact h6
 have HS : Hid (InC T0 (.bin (modeO true,0) (.un (23,0) c) f)) := hS
 have HKM : Hid (KT (.bin (modeO true,0) (.un (23,0) c) f)) := q2j kr kf true
 have j1 := q4V (boxW w p x bn bl op pp (m : Int) (-1)).drew
 obtain ⟨R,hR⟩ : ∃ R,R = pthC true (.un (23,0) c) s f x M := ⟨_,rfl⟩
 have HR0 : Hid (R = bindM (pthC true c [0] (.bin (modeO true,0) (.un (23,0) c) f) x M) fun a M1 => twoM true s a M1) := by show _ = _; rw [hR]; exact q99 kr s f x M
 rw [← hR]
 obtain ⟨Q,hQ⟩ : ∃ Q : Ending → World → Prop,Q = RetQ (RdO T0 p vs x bn bl) w F items M R := ⟨_,rfl⟩
 have HQ : Hid (∀ e w',RetQ (RdO T0 p vs x bn bl) w F items M R e w' → Q e w') := fun e w' h => by rw [hQ]; exact h
 rw [← hQ]
 clear hrd hpo hR hQ hbx h hx hi
 have n19 : ((op : Int) == 19) = false := by rw [beq_eq_false_iff_ne]; omega
 have n20 : ((op : Int) == 20) = false := by rw [beq_eq_false_iff_ne]; omega
 have n21 : ((op : Int) == 21) = false := by rw [beq_eq_false_iff_ne]; omega
 have n22 : ((op : Int) == 22) = false := by rw [beq_eq_false_iff_ne]; omega
 clear hop
 unfold wyF
 simp only [if_true]
 unfold boxW itO rdO MidS at *
 unfold rdV at *
 dsimp only at *
 go_enter Tryz.func179,Tryz.ntmps179
 go_wp2_with fail
 go_region_held2 (fun w' => (w'.cell? ⟨w.heap.size,0,none⟩ = some (.pointer (some ⟨p,0,none⟩)) ∧ w'.cell? ⟨w.heap.size,1,none⟩ = some (.int .u8 (x : Int)) ∧ w'.cell? ⟨w.heap.size,2,none⟩ = some (.map (some bn)) ∧ w'.cell? ⟨w.heap.size,3,none⟩ = some (.map (some bl))) ∧ w'.cell? ⟨w.heap.size + 1,2,none⟩ = some (.int .i64 (m : Int)) ∧ w'.cell? ⟨w.heap.size + 1,3,none⟩ = some (.int .i64 (-1))) (first | exact hk0 | exact hk00 | assumption | fail) (first
   | (revert j1; intro j1; go_at_call 124; (with_reducible refine j1.mono ?_); rintro e w1 ⟨q1,C1,rfl,hU1,hb1,hf1⟩; have m1 := m0.step (Fr.ofBelow hb1) (List.prefix_refl _) ((qp T0 p vs x bn bl).up m0.obj hb1) (List.prefix_refl _) m0.good; have hU1 : US w1 F q1 [0].length C1 [0] := (⟨hU1,fun k hk hF => (by have := hf1 k hk; have := (qp T0 p vs x bn bl).lt m0.obj _ hF; omega)⟩); have hk1 := HCL.out _ m1.rb m1.xb; have HR1 : Hid _ := HR0.out; have j2 : Calls Tryz.prog 182 #[.pointer (some ⟨p,0,none⟩),.int .u8 18,.int .i64 (i : Int),.int .i64 (k : Int)] w1 (KeptQ T0 p vs x bn bl w1 F items M (.bin (modeO true,0) (.un (23,0) c) f)) := q2Q m1.obj fun G rest hpo => q1e hpo 18 (by decide) i k (.un (23,0) c) f (HI.out.pre m1.hi) (hkf.pre m1.hi) HS.out)
   | (revert j2; intro j2; go_at_call 182; (with_reducible refine j2.mono ?_); rintro e w2 ⟨n2,i2,F2,rfl,hp2,hrep2,fr2,hO2⟩; have m2 := m1.step fr2 hp2 hO2 (List.prefix_refl _) m1.good; have hk2 := HCL.out _ m2.rb m2.xb; have HR2 : Hid _ := HR1.out; have j3 := hc _ _ _ _ m n2 _ _ [0] m2.obj (hU1.fr fr2) (by simp) (q8i _) (hm.pre m2.hi) (hrep2); (try unfold wyF at j3); (try unfold rdV at j3); simp only [if_true,List.length_cons,List.length_nil,Nat.zero_add] at j3)
   | (revert j3; intro j3; go_at_call 179; (with_reducible refine j3.mono ?_); rintro e w3 ⟨F3,i3,fr3,hp3,⟨L3,M3,q3,d3,hs3,rfl,hU3,hO3⟩ | ⟨hs3,rfl,M3,hpm3,hO3⟩⟩; (case inr => exact ⟨rfl,HQ.out _ _ (m2.bad (by rw [HR2.out,hs3]; first | done | rfl) fr3 hp3 hpm3 hO3)⟩); have hr3 := HR2.out; rw [hs3] at hr3; dsimp only [bindM] at hr3; have HR3 : Hid _ := hr3; clear hr3; have l3 := q2Z m2.good kc HKM.out (q8i _) hs3; have m3 := m2.step fr3 hp3 hO3 l3.pre l3.good; have hk3 := HCL.out _ m3.rb m3.xb; have j4 := qF (qp T0 p vs x bn bl) true m3.obj (hUs.fr m3.fr) (hU3) ls l3.lst; unfold twF at j4; simp only [if_true] at j4)
   | (revert j4; intro j4; go_at_call 125; (with_reducible refine j4.mono ?_); rintro e w4 ⟨F4,i4,fr4,hp4,⟨L4,M4,q4,d4,hs4,rfl,hU4,hO4⟩ | ⟨hs4,rfl,M4,hpm4,hO4⟩⟩; (case inr => exact ⟨rfl,HQ.out _ _ (m3.bad (by rw [HR3.out,hs4]; first | done | rfl) fr4 hp4 hpm4 hO4)⟩); have hk4 : Hid (Q (.returned (.slice q4 L4.length d4)) w4) := (HQ.out _ _ (m3.fin (by rw [HR3.out,hs4]; first | done | rfl) fr4 hp4 hU4 hO4)); have hkk4 := HCL.out _ (qh m3.rb m3.rn fr4).1 (qh m3.xb m3.xn fr4).1)
   | fail)
 all_goals
  clear j1 j2 j3 j4
  go_wp2
  exact hk4.out
theorem q53 {T0 : Tr} {p : Nat} {vs : Value} {x bn bl : Nat} (c f : Tr) (kr : KP (.un (20,0) c)) (_ : KT f) (hc : LvQ T0 p vs x bn bl 155 c) : WyQ T0 p vs x bn bl false (.un (20,0) c) f := by
 intro w F items M i k av cv s h hUs hls hbs hi hkf
 obtain ⟨op,pp,m,hop,hx,hm⟩ : ∃ op pp m : Nat,op = 20 ∧ items[i]? = some ⟨op,pp,(m : Int),-1⟩ ∧ Rep items m c := by cases hi with | un h h1 h2 => exact ⟨_,0,_,rfl,h,h2⟩
 obtain ⟨F1,_,_,_,_,hrd⟩ := id h
 obtain ⟨G,rest,hpo⟩ := hrd.pg.part
 obtain ⟨a,n,cap,g,o,c0,hidx,x0,x1,x2,x3⟩ := (hpo.up (qd w (rdO p x bn bl))).at hx
 obtain ⟨m0,m00⟩ := qI h op pp (m : Int) (-1)
 have hk0 := m0.cells
 have hk00 := m00.cells
 have HCL : Hid (∀ w' : World,w'.heap[w.heap.size]? = some (rdO p x bn bl) → w'.heap[w.heap.size + 1]? = some (itO ⟨op,pp,(m : Int),(-1)⟩) → MidS p x bn bl w.heap.size (m : Int) (-1) w') := fun w' e1 e2 => ⟨⟨qb e1 0,qb e1 1,qb e1 2,qb e1 3⟩,qb e2 2,qb e2 3⟩
 have hbx := (MapKept.heap_alloc w (rdO p x bn bl)).1
 have r0 : (w.alloc (rdO p x bn bl)).cell? ⟨w.heap.size,0,none⟩ = some (.pointer (some ⟨p,0,none⟩)) := qb hbx 0
 have HI : Hid (Rep items i (.un (20,0) c)) := hi
 have ls : LstH s := ⟨qM hbs m0.good.few,hls⟩
 have kc : KT c := by
  rcases kp_un kr with ⟨_,⟨h6,_⟩ | ⟨_,h6⟩ | ⟨h6,_⟩⟩
  ·cases h6
  ·exact h6
  ·cases h6
 have j1 := hc _ F items M m m00.obj hm
 obtain ⟨R,hR⟩ : ∃ R,R = pthC false (.un (20,0) c) s f x M := ⟨_,rfl⟩
 have HR0 : Hid (R = bindM (aftC c x M) fun a M1 => twoM true a s M1) := by show _ = _; rw [hR]; exact q9b kr s f x M
 rw [← hR]
 obtain ⟨Q,hQ⟩ : ∃ Q : Ending → World → Prop,Q = RetQ (RdO T0 p vs x bn bl) w F items M R := ⟨_,rfl⟩
 have HQ : Hid (∀ e w',RetQ (RdO T0 p vs x bn bl) w F items M R e w' → Q e w') := fun e w' h => by rw [hQ]; exact h
 rw [← hQ]
 clear hrd hpo hR hQ hbx h hx hi
 have n19 : ((op : Int) == 19) = false := by rw [beq_eq_false_iff_ne]; omega
 have n20 : ((op : Int) == 20) = true := by rw [beq_iff_eq]; omega
 clear hop
 unfold wyF
 simp only [Bool.false_eq_true,if_false]
 unfold boxW itO rdO MidS at *
 unfold rdV at *
 dsimp only at *
 go_enter Tryz.func178,Tryz.ntmps178
 go_wp2_with fail
 refine j1.mono ?_
 rintro e w1 ⟨F1,i1,fr1,hp1,⟨L1,M1,q1,d1,hs1,rfl,hU1,hO1⟩ | ⟨hs1,rfl,M1,hpm1,hO1⟩⟩
 case inr => exact ⟨rfl,HQ.out _ _ (m00.bad (by rw [HR0.out,hs1]; first | done | rfl) fr1 hp1 hpm1 hO1)⟩
 have hr1 := HR0.out
 rw [hs1] at hr1
 dsimp only [bindM] at hr1
 have HR1 : Hid _ := hr1
 have l1 := q1r m00.good kc hs1
 have m1 := m00.step fr1 hp1 hO1 l1.pre l1.good
 have j2 := qF (qp T0 p vs x bn bl) true m1.obj (hU1) (hUs.fr m1.fr) l1.lst ls
 unfold twF at j2
 simp only [if_true] at j2
 clear j1 hr1 hk0 hk00
 go_wp2_with fail
 refine j2.mono ?_
 rintro e w2 ⟨F2,i2,fr2,hp2,⟨L2,M2,q2,d2,hs2,rfl,hU2,hO2⟩ | ⟨hs2,rfl,M2,hpm2,hO2⟩⟩
 case inr => exact ⟨rfl,HQ.out _ _ (m1.bad (by rw [HR1.out,hs2]) fr2 hp2 hpm2 hO2)⟩
 have HE : Hid (Q (.returned (.slice q2 L2.length d2)) w2) := HQ.out _ _ (m1.fin (by rw [HR1.out,hs2]) fr2 hp2 hU2 hO2)
 clear j2
 go_wp2
 exact HE.out
theorem q5d {T0 : Tr} {p : Nat} {vs : Value} {x bn bl : Nat} (c f : Tr) (kr : KP (.un (20,0) c)) (_ : KT f) (hin : c ∈ subL T0) (hc : LvQ T0 p vs x bn bl 155 (kTr c).2) : WyQ T0 p vs x bn bl true (.un (20,0) c) f := by
 intro w F items M i k av cv s h hUs hls hbs hi hkf
 obtain ⟨op,pp,m,hop,hx,hm⟩ : ∃ op pp m : Nat,op = 20 ∧ items[i]? = some ⟨op,pp,(m : Int),-1⟩ ∧ Rep items m c := by cases hi with | un h h1 h2 => exact ⟨_,0,_,rfl,h,h2⟩
 obtain ⟨F1,_,_,_,_,hrd⟩ := id h
 obtain ⟨G,rest,hpo⟩ := hrd.pg.part
 obtain ⟨a,n,cap,g,o,c0,hidx,x0,x1,x2,x3⟩ := (hpo.up (qd w (rdO p x bn bl))).at hx
 obtain ⟨m0,m00⟩ := qI h op pp (m : Int) (-1)
 have hk0 := m0.cells
 have hk00 := m00.cells
 have HCL : Hid (∀ w' : World,w'.heap[w.heap.size]? = some (rdO p x bn bl) → w'.heap[w.heap.size + 1]? = some (itO ⟨op,pp,(m : Int),(-1)⟩) → MidS p x bn bl w.heap.size (m : Int) (-1) w') := fun w' e1 e2 => ⟨⟨qb e1 0,qb e1 1,qb e1 2,qb e1 3⟩,qb e2 2,qb e2 3⟩
 have hbx := (MapKept.heap_alloc w (rdO p x bn bl)).1
 have r0 : (w.alloc (rdO p x bn bl)).cell? ⟨w.heap.size,0,none⟩ = some (.pointer (some ⟨p,0,none⟩)) := qb hbx 0
 have HI : Hid (Rep items i (.un (20,0) c)) := hi
 have ls : LstH s := ⟨qM hbs m0.good.few,hls⟩
 have kc : KT c := by
  rcases kp_un kr with ⟨_,⟨h6,_⟩ | ⟨_,h6⟩ | ⟨h6,_⟩⟩
  ·cases h6
  ·exact h6
  ·cases h6
 have HC2 : Hid (LvQ T0 p vs x bn bl 155 (kTr c).2) := hc
 have HKN : Hid (KT (kTr c).2) := q2Y kc
 have j1 : Calls Tryz.prog 183 #[.pointer (some ⟨p,0,none⟩),.int .i64 (m : Int)] (boxW w p x bn bl op pp (m : Int) (-1)).drew (KeptQ T0 p vs x bn bl (boxW w p x bn bl op pp (m : Int) (-1)).drew F items M (kTr c).2) := q2Q m0.obj fun G rest hpo => q1M c kc hin items m hm _ _ _ (List.prefix_refl _) hpo
 obtain ⟨R,hR⟩ : ∃ R,R = pthC true (.un (20,0) c) s f x M := ⟨_,rfl⟩
 have HR0 : Hid (R = bindM (aftC (kTr c).2 x M) fun a M1 => twoM false a s M1) := by show _ = _; rw [hR]; exact q9b kr s f x M
 rw [← hR]
 obtain ⟨Q,hQ⟩ : ∃ Q : Ending → World → Prop,Q = RetQ (RdO T0 p vs x bn bl) w F items M R := ⟨_,rfl⟩
 have HQ : Hid (∀ e w',RetQ (RdO T0 p vs x bn bl) w F items M R e w' → Q e w') := fun e w' h => by rw [hQ]; exact h
 rw [← hQ]
 clear hrd hpo hR hQ hbx h hx hi
 have n19 : ((op : Int) == 19) = false := by rw [beq_eq_false_iff_ne]; omega
 have n20 : ((op : Int) == 20) = true := by rw [beq_iff_eq]; omega
 clear hop
 unfold wyF
 simp only [if_true]
 unfold boxW itO rdO MidS at *
 unfold rdV at *
 dsimp only at *
 go_enter Tryz.func179,Tryz.ntmps179
 go_wp2_with fail
 go_region_held2 (fun w' => (w'.cell? ⟨w.heap.size,0,none⟩ = some (.pointer (some ⟨p,0,none⟩)) ∧ w'.cell? ⟨w.heap.size,1,none⟩ = some (.int .u8 (x : Int)) ∧ w'.cell? ⟨w.heap.size,2,none⟩ = some (.map (some bn)) ∧ w'.cell? ⟨w.heap.size,3,none⟩ = some (.map (some bl))) ∧ w'.cell? ⟨w.heap.size + 1,2,none⟩ = some (.int .i64 (m : Int)) ∧ w'.cell? ⟨w.heap.size + 1,3,none⟩ = some (.int .i64 (-1))) (first | exact hk0 | exact hk00 | assumption | fail) (first
   | (revert j1; intro j1; go_at_call 183; (with_reducible refine j1.mono ?_); rintro e w1 ⟨n1,i1,F1,rfl,hp1,hrep1,fr1,hO1⟩; have m1 := m0.step fr1 hp1 hO1 (List.prefix_refl _) m0.good; have hk1 := HCL.out _ m1.rb m1.xb; have HR1 : Hid _ := HR0.out; have j2 := HC2.out _ F1 i1 M n1 m1.obj hrep1; (try unfold rdV at j2))
   | (revert j2; intro j2; go_at_call 155; (with_reducible refine j2.mono ?_); rintro e w2 ⟨F2,i2,fr2,hp2,⟨L2,M2,q2,d2,hs2,rfl,hU2,hO2⟩ | ⟨hs2,rfl,M2,hpm2,hO2⟩⟩; (case inr => exact ⟨rfl,HQ.out _ _ (m1.bad (by rw [HR1.out,hs2]; first | done | rfl) fr2 hp2 hpm2 hO2)⟩); have hr2 := HR1.out; rw [hs2] at hr2; dsimp only [bindM] at hr2; have HR2 : Hid _ := hr2; clear hr2; have l2 := q1r m1.good HKN.out hs2; have m2 := m1.step fr2 hp2 hO2 l2.pre l2.good; have hk2 := HCL.out _ m2.rb m2.xb; have j3 := qF (qp T0 p vs x bn bl) false m2.obj (hU2) (hUs.fr m2.fr) l2.lst ls; unfold twF at j3; simp only [Bool.false_eq_true,if_false] at j3)
   | (revert j3; intro j3; go_at_call 126; (with_reducible refine j3.mono ?_); rintro e w3 ⟨F3,i3,fr3,hp3,⟨L3,M3,q3,d3,hs3,rfl,hU3,hO3⟩ | ⟨hs3,rfl,M3,hpm3,hO3⟩⟩; (case inr => exact ⟨rfl,HQ.out _ _ (m2.bad (by rw [HR2.out,hs3]; first | done | rfl) fr3 hp3 hpm3 hO3)⟩); have hk3 : Hid (Q (.returned (.slice q3 L3.length d3)) w3) := (HQ.out _ _ (m2.fin (by rw [HR2.out,hs3]; first | done | rfl) fr3 hp3 hU3 hO3)); have hkk3 := HCL.out _ (qh m2.rb m2.rn fr3).1 (qh m2.xb m2.xn fr3).1)
   | fail)
 all_goals
  clear j1 j2 j3
  go_wp2
  exact hk3.out
theorem q52 {T0 : Tr} {p : Nat} {vs : Value} {x bn bl : Nat} (c f : Tr) (kr : KP (.un (19,0) c)) (kf : KT f) (hS : InC T0 f) (hc : LvQ T0 p vs x bn bl 155 c) : WyQ T0 p vs x bn bl false (.un (19,0) c) f := by
 intro w F items M i k av cv s h hUs hls hbs hi hkf
 obtain ⟨op,pp,m,hop,hx,hm⟩ : ∃ op pp m : Nat,op = 19 ∧ items[i]? = some ⟨op,pp,(m : Int),-1⟩ ∧ Rep items m c := by cases hi with | un h h1 h2 => exact ⟨_,0,_,rfl,h,h2⟩
 obtain ⟨F1,_,_,_,_,hrd⟩ := id h
 obtain ⟨G,rest,hpo⟩ := hrd.pg.part
 obtain ⟨a,n,cap,g,o,c0,hidx,x0,x1,x2,x3⟩ := (hpo.up (qd w (rdO p x bn bl))).at hx
 obtain ⟨m0,m00⟩ := qI h op pp (m : Int) (-1)
 have hk0 := m0.cells
 have hk00 := m00.cells
 have HCL : Hid (∀ w' : World,w'.heap[w.heap.size]? = some (rdO p x bn bl) → w'.heap[w.heap.size + 1]? = some (itO ⟨op,pp,(m : Int),(-1)⟩) → MidS p x bn bl w.heap.size (m : Int) (-1) w') := fun w' e1 e2 => ⟨⟨qb e1 0,qb e1 1,qb e1 2,qb e1 3⟩,qb e2 2,qb e2 3⟩
 have hbx := (MapKept.heap_alloc w (rdO p x bn bl)).1
 have r0 : (w.alloc (rdO p x bn bl)).cell? ⟨w.heap.size,0,none⟩ = some (.pointer (some ⟨p,0,none⟩)) := qb hbx 0
 have HI : Hid (Rep items i (.un (19,0) c)) := hi
 obtain ⟨kc,pc⟩ := q5A kr
 have jf := q3Y m00.obj m c hm kc pc hc
 obtain ⟨R,hR⟩ : ∃ R,R = pthC false (.un (19,0) c) s f x M := ⟨_,rfl⟩
 have HR0 : Hid (R = if plV x c then needM f M else some (yesM false,M)) := by show _ = _; rw [hR]; exact q9a false c s f x M
 rw [← hR]
 obtain ⟨Q,hQ⟩ : ∃ Q : Ending → World → Prop,Q = RetQ (RdO T0 p vs x bn bl) w F items M R := ⟨_,rfl⟩
 have HQ : Hid (∀ e w',RetQ (RdO T0 p vs x bn bl) w F items M R e w' → Q e w') := fun e w' h => by rw [hQ]; exact h
 rw [← hQ]
 clear hrd hpo hR hQ hbx h hx hi
 have n19 : ((op : Int) == 19) = true := by rw [beq_iff_eq]; omega
 clear hop
 unfold wyF
 simp only [Bool.false_eq_true,if_false]
 unfold boxW itO rdO MidS at *
 unfold rdV at *
 dsimp only at *
 go_enter Tryz.func178,Tryz.ntmps178
 go_wp2_with fail
 refine jf.mono ?_
 rintro e w1 ⟨rfl,F1,i1,fr1,hp1,hO1⟩
 have m1 := m00.step fr1 hp1 hO1 (List.prefix_refl _) m00.good
 obtain ⟨⟨t0,t1,t2,t3⟩,_⟩ := HCL.out _ m1.rb m1.xb
 cases hv : plV x c with
 | true =>
  have hr1 := HR0.out
  rw [hv,if_pos rfl] at hr1
  have HR1 : Hid _ := hr1
  have j2 := qS m1.obj k f (hkf.pre m1.hi) kf hS
  (try unfold rdV at j2)
  clear jf hr1 hk0 hk00 hv
  go_wp2_with fail
  refine j2.mono ?_
  rintro e w2 ⟨F2,i2,fr2,hp2,⟨L2,M2,q2,d2,hs2,rfl,hU2,hO2⟩ | ⟨hs2,rfl,M2,hpm2,hO2⟩⟩
  case inr => exact ⟨rfl,HQ.out _ _ (m1.bad (by rw [HR1.out,hs2]) fr2 hp2 hpm2 hO2)⟩
  have HE : Hid (Q (.returned (.slice q2 L2.length d2)) w2) := HQ.out _ _ (m1.fin (by rw [HR1.out,hs2]) fr2 hp2 hU2 hO2)
  clear j2
  go_wp2
  exact HE.out
 | false =>
  have hr1 := HR0.out
  rw [hv,if_neg (by decide)] at hr1
  have HN : Hid (∀ e w',NewL (yesM false) w1 e w' → Q e w') := fun e w' hn => HQ.out e w' (by rw [hr1]; exact (q4f (qp T0 p vs x bn bl) m1.obj hn).after m1.fr m1.hi (List.prefix_refl _))
  clear jf hr1 hk0 hk00 hv
  have HE : Hid (Q (.returned (.slice none 0 0)) w1) := HN.out _ _ (q3u _ _ (Below.refl _ _))
  go_wp2
  exact HE.out
theorem q5c {T0 : Tr} {p : Nat} {vs : Value} {x bn bl : Nat} (c f : Tr) (kr : KP (.un (19,0) c)) (kf : KT f) (hS : InC T0 f) (hc : LvQ T0 p vs x bn bl 155 c) : WyQ T0 p vs x bn bl true (.un (19,0) c) f := by
 intro w F items M i k av cv s h hUs hls hbs hi hkf
 obtain ⟨op,pp,m,hop,hx,hm⟩ : ∃ op pp m : Nat,op = 19 ∧ items[i]? = some ⟨op,pp,(m : Int),-1⟩ ∧ Rep items m c := by cases hi with | un h h1 h2 => exact ⟨_,0,_,rfl,h,h2⟩
 obtain ⟨F1,_,_,_,_,hrd⟩ := id h
 obtain ⟨G,rest,hpo⟩ := hrd.pg.part
 obtain ⟨a,n,cap,g,o,c0,hidx,x0,x1,x2,x3⟩ := (hpo.up (qd w (rdO p x bn bl))).at hx
 obtain ⟨m0,m00⟩ := qI h op pp (m : Int) (-1)
 have hk0 := m0.cells
 have hk00 := m00.cells
 have HCL : Hid (∀ w' : World,w'.heap[w.heap.size]? = some (rdO p x bn bl) → w'.heap[w.heap.size + 1]? = some (itO ⟨op,pp,(m : Int),(-1)⟩) → MidS p x bn bl w.heap.size (m : Int) (-1) w') := fun w' e1 e2 => ⟨⟨qb e1 0,qb e1 1,qb e1 2,qb e1 3⟩,qb e2 2,qb e2 3⟩
 have hbx := (MapKept.heap_alloc w (rdO p x bn bl)).1
 have r0 : (w.alloc (rdO p x bn bl)).cell? ⟨w.heap.size,0,none⟩ = some (.pointer (some ⟨p,0,none⟩)) := qb hbx 0
 have HI : Hid (Rep items i (.un (19,0) c)) := hi
 obtain ⟨kc,pc⟩ := q5A kr
 have jf := q3Y m00.obj m c hm kc pc hc
 obtain ⟨R,hR⟩ : ∃ R,R = pthC true (.un (19,0) c) s f x M := ⟨_,rfl⟩
 have HR0 : Hid (R = if plV x c then needM f M else some (yesM true,M)) := by show _ = _; rw [hR]; exact q9a true c s f x M
 rw [← hR]
 obtain ⟨Q,hQ⟩ : ∃ Q : Ending → World → Prop,Q = RetQ (RdO T0 p vs x bn bl) w F items M R := ⟨_,rfl⟩
 have HQ : Hid (∀ e w',RetQ (RdO T0 p vs x bn bl) w F items M R e w' → Q e w') := fun e w' h => by rw [hQ]; exact h
 rw [← hQ]
 clear hrd hpo hR hQ hbx h hx hi
 have n19 : ((op : Int) == 19) = true := by rw [beq_iff_eq]; omega
 clear hop
 unfold wyF
 simp only [if_true]
 unfold boxW itO rdO MidS at *
 unfold rdV at *
 dsimp only at *
 go_enter Tryz.func179,Tryz.ntmps179
 go_wp2_with fail
 refine jf.mono ?_
 rintro e w1 ⟨rfl,F1,i1,fr1,hp1,hO1⟩
 have m1 := m00.step fr1 hp1 hO1 (List.prefix_refl _) m00.good
 obtain ⟨⟨t0,t1,t2,t3⟩,_⟩ := HCL.out _ m1.rb m1.xb
 cases hv : plV x c with
 | true =>
  have hr1 := HR0.out
  rw [hv,if_pos rfl] at hr1
  have HR1 : Hid _ := hr1
  have j2 := qS m1.obj k f (hkf.pre m1.hi) kf hS
  (try unfold rdV at j2)
  clear jf hr1 hk0 hk00 hv
  go_wp2_with fail
  refine j2.mono ?_
  rintro e w2 ⟨F2,i2,fr2,hp2,⟨L2,M2,q2,d2,hs2,rfl,hU2,hO2⟩ | ⟨hs2,rfl,M2,hpm2,hO2⟩⟩
  case inr => exact ⟨rfl,HQ.out _ _ (m1.bad (by rw [HR1.out,hs2]) fr2 hp2 hpm2 hO2)⟩
  have HE : Hid (Q (.returned (.slice q2 L2.length d2)) w2) := HQ.out _ _ (m1.fin (by rw [HR1.out,hs2]) fr2 hp2 hU2 hO2)
  clear j2
  go_wp2
  exact HE.out
 | false =>
  have hr1 := HR0.out
  rw [hv,if_neg (by decide)] at hr1
  have HN : Hid (∀ e w',NewL (yesM true) w1 e w' → Q e w') := fun e w' hn => HQ.out e w' (by rw [hr1]; exact (q4f (qp T0 p vs x bn bl) m1.obj hn).after m1.fr m1.hi (List.prefix_refl _))
  clear jf hr1 hk0 hk00 hv
  have jt := q1N w1
  go_wp2_with fail
  refine jt.mono ?_
  rintro e w2 ⟨q2,C2,rfl,hU2,hb2,hf2⟩
  have HE : Hid (Q (.returned (.slice q2 [0].length C2)) w2) := HN.out _ _ ⟨q2,C2,rfl,hU2,hb2,hf2⟩
  clear jt hU2 hb2 hf2
  go_wp2
  exact HE.out
theorem qeW (box : Bool) (c f : Tr) : pws box (.un (23,0) c) f = .bin (modeO box,0) (.un (23,0) c) f :: pws box c (.bin (modeO box,0) (.un (23,0) c) f) := rfl
theorem qeV (box : Bool) (c d f : Tr) : pws box (.bin (21,0) c d) f = pws box c f ++ pws box d f := rfl
theorem qg9 (box : Bool) (c d f : Tr) : pws box (.bin (22,0) c d) f = .bin (modeO box,0) d f :: (pws box d f ++ pws box c (.bin (modeO box,0) d f)) := rfl
theorem q58 {T0 : Tr} (t0 : KT T0) {p : Nat} {vs : Value} {x bn bl : Nat} (hx : x < 256) : ∀ n,(∀ S,KT S → InC T0 S → hgt S ≤ n → LvQ T0 p vs x bn bl 155 S) ∧ (∀ box r f,KP r → r ∈ subL T0 → KT f → InC T0 f → (∀ T,T ∈ pws box r f → InC T0 T) → hgt r ≤ n → WyQ T0 p vs x bn bl box r f)
 | 0 => ⟨fun S _ _ h => absurd (q5v S) (by omega),fun box r f _ _ _ _ _ h => absurd (q5v r) (by omega)⟩
 | n + 1 => by
  obtain ⟨ih,jh⟩ := q58 t0 (p := p) (vs := vs) (bn := bn) (bl := bl) hx n
  refine ⟨fun S kS hS hn => ?_,fun box r f kr hr kf hf hp hn => ?_⟩
  ·refine q7W kS ?_ (fun M L M' hM h => ⟨(q1r hM kS h).lst,(q1r hM kS h).pre⟩)
   match S,kS,hS,hn with
   | .leaf (op,q),kS,hS,hn =>
    rcases q1F kS with ⟨rfl,hq⟩ | ⟨rfl,ho⟩
    ·exact q9Q hx q hq
    ·exact qaH op (by omega)
   | .un (op,q) c,kS,hS,hn =>
    rcases kt_un kS with ⟨rfl,⟨rfl,q,rfl⟩ | ⟨ho,hc⟩⟩
    ·have hq : q ≤ 7 := (q1D _ kS.wf (2,q) (by simp [Tr.flat])).2
     exact qaE hx q hq
    ·exact q9P op ho c kS hS
   | .bin (op,q) c d,kS,hS,hn =>
    obtain ⟨rfl,ho⟩ := q1t kS
    obtain ⟨ic,id,hsub⟩ := qci hS
    have h2 : max (hgt c) (hgt d) + 1 ≤ n + 1 := hn
    by_cases hw : op = 17 ∨ op = 18
    ·obtain ⟨kc,kd⟩ := q1l kS hw
     refine qaG op hw c d kS (ih d kd id (by omega)) fun box hbox => ?_
     have hm : op = modeO box := by rcases hw with rfl | rfl <;> subst hbox <;> rfl
     refine jh box c d kc (hsub hw) kd id ?_ (by omega)
     rw [hm] at hS
     exact qfz hS
    ·obtain ⟨kc,kd⟩ := qB kS (by omega)
     have hc := ih c kc ic (by omega)
     have hd := ih d kd id (by omega)
     by_cases h11 : op = 11 ∨ op = 12
     ·exact qaF op h11 c d kS hc hd
     ·exact q7Z op (by omega) c d kS hS hc hd
  ·match r,kr,hr,hp,hn with
   | .leaf k,kr,_,_,_ => exact (q2i kr).elim
   | .un (op,q) c,kr,hr,hp,hn =>
    rcases kp_un kr with ⟨rfl,⟨rfl,hcw,hpl⟩ | ⟨rfl,hc⟩ | ⟨rfl,hc⟩⟩
    ·have h2 : hgt c + 1 ≤ n + 1 := hn
     have ha := ih c (q5A kr).1 (q5z (q31 hr)) (by omega)
     cases box with
     | false => exact q52 c f kr kf hf ha
     | true => exact q5c c f kr kf hf ha
    ·have h2 : hgt c + 1 ≤ n + 1 := hn
     cases box with
     | false => exact q53 c f kr kf (ih c hc (q5z (q31 hr)) (by omega))
     | true => exact q5d c f kr kf (q31 hr) (ih _ (q2Y hc) (q5y (q31 hr) hc) (by rw [q18 c hc]; omega))
    ·have h2 : hgt c + 1 ≤ n + 1 := hn
     rw [qeW] at hp
     have hT := hp _ (List.mem_cons_self ..)
     have hw := jh box c _ hc (q31 hr) (q2j kr kf box) hT (fun T h => hp T (List.mem_cons_of_mem _ h)) (by omega)
     cases box with
     | false => exact q51 c f kr kf hT hw
     | true => exact q5b c f kr kf hT hw
   | .bin (op,q) c d,kr,hr,hp,hn =>
    obtain ⟨rfl,ho,kc,kd⟩ := q1k kr
    have h2 : max (hgt c) (hgt d) + 1 ≤ n + 1 := hn
    rcases ho with rfl | rfl
    ·rw [qeV] at hp
     have hc := jh box c f kc (q19 hr).1 kf hf (fun T h => hp T (List.mem_append.2 (Or.inl h))) (by omega)
     have hd := jh box d f kd (q19 hr).2 kf hf (fun T h => hp T (List.mem_append.2 (Or.inr h))) (by omega)
     cases box with
     | false => exact q50 c d f kr kf hc hd
     | true => exact q59 c d f kr kf hc hd
    ·rw [qg9] at hp
     have hT := hp _ (List.mem_cons_self ..)
     have hd := jh box d f kd (q19 hr).2 kf hf (fun T h => hp T (List.mem_cons_of_mem _ (List.mem_append.2 (Or.inl h)))) (by omega)
     have hc := jh box c _ kc (q19 hr).1 (q2j kd kf box) hT (fun T h => hp T (List.mem_cons_of_mem _ (List.mem_append.2 (Or.inr h)))) (by omega)
     cases box with
     | false => exact q5a c d f kr kf hT hc hd
     | true => exact q5O c d f kr kf hT hc hd
theorem q6V {T0 : Tr} (t0 : KT T0) {p : Nat} {vs : Value} {x bn bl : Nat} (hx : x < 256) (S : Tr) (kS : KT S) (hS : InC T0 S) : LvQ T0 p vs x bn bl 155 S := (q58 t0 hx (hgt S)).1 S kS hS (Nat.le_refl _)
end Go.Proofs.YtailhklbmenaoaaGreatDoor
