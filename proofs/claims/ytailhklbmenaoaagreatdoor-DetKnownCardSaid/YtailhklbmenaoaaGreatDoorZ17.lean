/- Texts of the proof, put together: what it uses. -/
import Derived.Deep.RegionHeld3
import Derived.Laws.BytesString
import Derived.Laws.IdiomStrings
import Derived.Test.YtailhklbmenaoaaGreatDoorZ02
import Derived.Test.YtailhklbmenaoaaGreatDoorZ14
import Derived.Test.YtailhklbmenaoaaGreatDoorZ16
set_option maxRecDepth 100000
set_option maxHeartbeats 16000000
namespace Go.Proofs.YtailhklbmenaoaaGreatDoor
open Go.RowKit Go.Maps
def IsM (_ : List It) (j : Int) : Prop := j = -1
theorem KeepP.trans {T0 : Tr} {w w1 w2 : World} {G G1 : Nat → Prop} {b : Nat} {T : TypeId} {rest : List Value} {items items1 : List It} {R : List It → Int → Prop} {j : Int} (hp : items <+: items1) (fr : Fr w w1 G G1) (h : KeepP T0 w1 G1 b T rest items1 R j w2) : KeepP T0 w G b T rest items R j w2 := by
 obtain ⟨i2,G2,h1,h2,h3,h4⟩ := h
 exact ⟨i2,G2,hp.trans h1,h2,h3,fr.trans h4⟩
theorem q2F {T0 : Tr} {w : World} {G : Nat → Prop} {b : Nat} {T : TypeId} {rest : List Value} {items : List It} (h : PtO T0 w G b T rest items) :
  Calls Tryz.prog 183 #[.pointer (some ⟨b,0,none⟩),.int .i64 (-1)] w (KeepR T0 w G b T rest items IsM) := by
 have HQ : Hid (KeepP T0 w G b T rest items IsM (-1) w) := ⟨items,G,List.prefix_refl _,rfl,h,Fr.ofBelow (Below.refl _ _)⟩
 clear h
 go_enter Tryz.func183,Tryz.ntmps183
 go_wp2
 go_ret
 exact ⟨-1,rfl,HQ.out⟩
theorem PtO.at {T0 : Tr} {w : World} {G : Nat → Prop} {b : Nat} {T : TypeId} {rest : List Value} {items : List It} (h : PtO T0 w G b T rest items) {i : Nat} {x : It} (hi : items[i]? = some x) :
  ∃ a n cap g o,w.cell? ⟨b,0,none⟩ = some (.slice a n cap) ∧ (∀ w',(Instr.indexAt 122 (.slice a n cap) (.int .i64 (i : Int))).run Tryz.prog w' = .ok (.pointer (some ⟨g,o,none⟩)) w') ∧
   w.cell? ⟨g,o,none⟩ = some (.int .u8 (x.op : Int)) ∧ w.cell? ⟨g,o + 1,none⟩ = some (.int .u8 (x.p : Int)) ∧ w.cell? ⟨g,o + 2,none⟩ = some (.int .i64 x.a) ∧ w.cell? ⟨g,o + 3,none⟩ = some (.int .i64 x.b) := by
 obtain ⟨texts,hp,_⟩ := h.ex
 obtain ⟨vi,mp,vt,hr,_⟩ := hp.ex
 obtain ⟨hi1,hi2⟩ := List.getElem?_eq_some_iff.1 hi
 rcases hr.ri.2 with ⟨e,e0⟩ | ⟨g,cap',cur,rfl,_,hcell,hnc,_,hsz,htk⟩
 ·omega
 ·have key : ∀ j,j < items.length * 4 → w.cell? ⟨g,j,none⟩ = (encI items)[j]? := fun j hj => by
   rw [← htk,List.getElem?_take,if_pos hj]
   simp [World.cell?,hcell]
  obtain ⟨q0,q1,q2,q3⟩ := q4p items i hi1
  rw [hi2] at q0 q1 q2 q3
  refine ⟨_,_,_,g,4 * i,hr.c0,fun w' => ?_,?_,?_,?_,?_⟩
  ·simp [Instr.indexAt,run_underlying Tryz.underlying122,asIntOf,qY q1v,hi1,Result.andThen,go_sem,qi,Nat.mul_comm]
  ·rw [key _ (by omega)]; exact q0
  ·rw [key _ (by omega)]; exact q1
  ·rw [key _ (by omega)]; exact q2
  ·rw [key _ (by omega)]; exact q3
theorem PtO.new {T0 : Tr} {w : World} {G : Nat → Prop} {b : Nat} {T : TypeId} {rest : List Value} {items : List It} (h : PtO T0 w G b T rest items) : ¬ G w.heap.size := fun e => Nat.lt_irrefl _ (h.lt _ e)
theorem qh {w w' : World} {G G' : Nat → Prop} {B : Nat} {o : Obj} (h : w.heap[B]? = some o) (hB : ¬ G B) (fr : Fr w w' G G') : w'.heap[B]? = some o ∧ ¬ G' B :=
 ⟨(fr.keep B (Array.getElem?_eq_some_iff.1 h).1 hB).trans h,fr.out hB (Array.getElem?_eq_some_iff.1 h).1⟩
theorem q83 {T0 : Tr} {w : World} {G : Nat → Prop} {b : Nat} {T : TypeId} {rest : List Value} {items : List It} (h : PtO T0 w G b T rest items) (i q : Nat) (hi : Rep items i (.leaf (2,q))) (hS : InC T0 (.un (6,0) (.leaf (2,q)))) :
  Calls Tryz.prog 183 #[.pointer (some ⟨b,0,none⟩),.int .i64 (i : Int)] w (KeepR T0 w G b T rest items (IsN (.un (6,0) (.leaf (2,q))))) := by
 have hx : items[i]? = some ⟨2,q,-1,-1⟩ := by cases hi with | leaf h => exact h
 obtain ⟨a,n,cap,g,o,c0,hidx,x0,x1,x2,x3⟩ := h.at hx
 have hb := qd w (itO ⟨2,q,-1,-1⟩)
 have hk := q1X (h.up hb) ⟨6,0,(i : Int),-1⟩ (.un (6,0) (.leaf (2,q))) hS (it_ok (by omega) (by omega) (by have := hi.lt; have := h.few; omega) (by omega) (by omega)) (by show (i : Int) < _; have := hi.lt; omega) (by show (-1 : Int) < _; omega) (fun items' j hp hlow hj => by
  exact .un (k := (6,0)) (m := i) hj (qbb (k := (6,0)) hlow hj) (hi.pre hp))
 have hFr : Fr w (w.alloc (itO ⟨2,q,-1,-1⟩)) G G := Fr.ofBelow hb
 have hne : ((i : Int) == -1) = false := by rw [beq_eq_false_iff_ne]; omega
 unfold KeepR at *
 have HTR : Hid (∀ j w',KeepP T0 (w.alloc (itO ⟨2,q,-1,-1⟩)) G b T rest items (IsN (.un (6,0) (.leaf (2,q)))) j w' → KeepP T0 w G b T rest items (IsN (.un (6,0) (.leaf (2,q)))) j w') := fun j w' h => h.trans (List.prefix_refl _) hFr
 generalize KeepP T0 (w.alloc (itO ⟨2,q,-1,-1⟩)) G b T rest items (IsN (.un (6,0) (.leaf (2,q)))) = Q at *
 generalize KeepP T0 w G b T rest items (IsN (.un (6,0) (.leaf (2,q)))) = Q2 at *
 clear h hi hS hb hFr hx
 unfold itO at *
 unfold itV at hk
 dsimp only at *
 go_enter Tryz.func183,Tryz.ntmps183
 go_wp2_with fail
 refine hk.mono ?_
 rintro e w' ⟨j,rfl,hq⟩
 have HQ : Hid _ := HTR.out _ _ hq
 clear hk hq
 go_wp2
 go_ret
 exact ⟨j,rfl,HQ.out⟩
theorem q9R {T0 : Tr} {w : World} {G : Nat → Prop} {b : Nat} {T : TypeId} {rest : List Value} {items : List It} (h : PtO T0 w G b T rest items) (i : Nat) (c : Tr) (hi : Rep items i (.un (6,0) c)) :
  Calls Tryz.prog 183 #[.pointer (some ⟨b,0,none⟩),.int .i64 (i : Int)] w (KeepR T0 w G b T rest items (IsN c)) := by
 obtain ⟨m,hx,hm⟩ : ∃ m : Nat,items[i]? = some ⟨6,0,(m : Int),-1⟩ ∧ Rep items m c := by cases hi with | un h h1 h2 => exact ⟨_,h,h2⟩
 obtain ⟨a,n,cap,g,o,c0,hidx,x0,x1,x2,x3⟩ := h.at hx
 have hb := qd w (itO ⟨6,0,(m : Int),-1⟩)
 have HQ : Hid (KeepP T0 w G b T rest items (IsN c) (m : Int) (w.alloc (itO ⟨6,0,(m : Int),-1⟩))) := ⟨items,G,List.prefix_refl _,⟨m,rfl,hm⟩,h.up hb,Fr.ofBelow hb⟩
 have hne : ((i : Int) == -1) = false := by rw [beq_eq_false_iff_ne]; omega
 clear h hi hb hx hm
 unfold itO at *
 dsimp only at *
 go_enter Tryz.func183,Tryz.ntmps183
 go_wp2
 go_ret
 exact ⟨_,rfl,HQ.out⟩
theorem itV0 (op : Nat) (a b : Int) : itV ⟨op,0,a,b⟩ = .agg #[.int .u8 (op : Int),.int .u8 0,.int .i64 a,.int .i64 b] := rfl
def NgC (T0 : Tr) (b : Nat) (T : TypeId) (rest : List Value) (items0 : List It) (a : Int) (R : List It → Int → Prop) : Prop :=
 ∀ (w : World) (G : Nat → Prop) (items : List It),items0 <+: items → PtO T0 w G b T rest items → Calls Tryz.prog 183 #[.pointer (some ⟨b,0,none⟩),.int .i64 a] w (KeepR T0 w G b T rest items R)
theorem q2G {T0 : Tr} {w : World} {G : Nat → Prop} {b : Nat} {T : TypeId} {rest : List Value} {items : List It} (h : PtO T0 w G b T rest items) (i op p : Nat) (xa xb : Int) (hx : items[i]? = some ⟨op,p,xa,xb⟩) (ho : op = 0 ∨ op = 1 ∨ op = 4 ∨ op = 5 ∨ op = 7 ∨ op = 8 ∨ op = 11 ∨ op = 12 ∨ op = 15 ∨ op = 16)
  (RA RB : List It → Int → Prop) (hA : NgC T0 b T rest items xa RA) (hB : NgC T0 b T rest items xb RB) (S : Tr) (hS : InC T0 S)
  (hfin : ∀ i1 i2 ja jb,items <+: i1 → i1 <+: i2 → RA i1 ja → RB i2 jb → -1 ≤ ja ∧ ja < (i2.length : Int) ∧ -1 ≤ jb ∧ jb < (i2.length : Int) ∧ ∀ i3 j,i2 <+: i3 → Low i3 → i3[j]? = some ⟨duO op,0,ja,jb⟩ → Rep i3 j S) :
  Calls Tryz.prog 183 #[.pointer (some ⟨b,0,none⟩),.int .i64 (i : Int)] w (KeepR T0 w G b T rest items (IsN S)) := by
 obtain ⟨a,n,cap,g,o,c0,hidx,x0,x1,x2,x3⟩ := h.at hx
 have hb := qd w (itO ⟨op,p,xa,xb⟩)
 have hne : ((i : Int) == -1) = false := by rw [beq_eq_false_iff_ne]; omega
 have hbx := (MapKept.heap_alloc w (itO ⟨op,p,xa,xb⟩)).1
 have hdu : op < 256 ∧ duO op < 256 := by rcases ho with rfl | rfl | rfl | rfl | rfl | rfl | rfl | rfl | rfl | rfl <;> decide
 have hdual := fun w => q3X op w (by omega)
 have n2 : ((op : Int) == 2) = false := by rw [beq_eq_false_iff_ne]; omega
 have n6 : ((op : Int) == 6) = false := by rw [beq_eq_false_iff_ne]; omega
 have n17 : ((op : Int) == 17) = false := by rw [beq_eq_false_iff_ne]; omega
 have n18 : ((op : Int) == 18) = false := by rw [beq_eq_false_iff_ne]; omega
 have hwd : (w.alloc (itO ⟨op,p,xa,xb⟩)).drew.heap[w.heap.size]? = some (itO ⟨op,p,xa,xb⟩) := hbx
 have hPd : PtO T0 (w.alloc (itO ⟨op,p,xa,xb⟩)).drew G b T rest items := (h.up hb).up (Below.refl _ _).drew
 have hn1 := hA _ _ _ (List.prefix_refl _) hPd
 have HNB : Hid (NgC T0 b T rest items xb RB) := hB
 have HF0 : Hid (Fr w (w.alloc (itO ⟨op,p,xa,xb⟩)).drew G G) := Fr.ofBelow hb.drew
 have HBX : Hid _ := hwd
 have HNG : Hid (¬ G w.heap.size) := h.new
 have HFIN : Hid _ := hfin
 have HS : Hid _ := hS
 have HDU : Hid _ := hdu.2
 have cells : ∀ w' : World,w'.heap[w.heap.size]? = some (itO ⟨op,p,xa,xb⟩) → w'.cell? ⟨w.heap.size,0,none⟩ = some (.int .u8 (op : Int)) ∧ w'.cell? ⟨w.heap.size,2,none⟩ = some (.int .i64 xa) ∧ w'.cell? ⟨w.heap.size,3,none⟩ = some (.int .i64 xb) := fun w' e => ⟨qb e 0,qb e 2,qb e 3⟩
 have HCL : Hid _ := cells
 have hk0 := cells _ hwd
 have hk00 := cells _ hbx
 clear h hb hx ho hA hB hS hfin hdu cells hbx hwd hPd
 unfold KeepR at *
 unfold itO at *
 dsimp only at *
 go_enter Tryz.func183,Tryz.ntmps183
 go_upto_region 40 with fail
 go_region_held3 (fun w' => w'.cell? ⟨w.heap.size,0,none⟩ = some (.int .u8 (op : Int)) ∧ w'.cell? ⟨w.heap.size,2,none⟩ = some (.int .i64 xa) ∧ w'.cell? ⟨w.heap.size,3,none⟩ = some (.int .i64 xb)) (first | exact hk0 | exact hk00 | assumption | fail) (first
  | (go_at_call 184; (with_reducible refine (hdual _).mono ?_); rintro e w' ⟨rfl,rfl⟩)
  | (revert hn1; intro hn1; go_at_call 183; (with_reducible refine hn1.mono ?_); rintro e w1 ⟨ja,rfl,i1,G1,hp1,hr1,hP1,fr1⟩; have hbk1 := qh HBX.out HNG.out fr1; have hk1 := HCL.out _ hbk1.1; have hn2 := HNB.out _ _ _ hp1 hP1)
  | (revert hn2; intro hn2; go_at_call 183; (with_reducible refine hn2.mono ?_); rintro e w2 ⟨jb,rfl,i2,G2,hp2,hr2,hP2,fr2⟩; have hbk2 := qh hbk1.1 hbk1.2 fr2; have hk2 := HCL.out _ hbk2.1; have hz := HFIN.out i1 i2 ja jb hp1 hp2 hr1 hr2; have hn3 := q1X hP2 ⟨duO op,0,ja,jb⟩ S HS.out (it_ok HDU.out hz.1 (by have := hP2.few; omega) hz.2.2.1 (by have := hP2.few; omega)) hz.2.1 hz.2.2.2.1 hz.2.2.2.2; unfold KeepR at hn3; rw [itV0] at hn3)
  | (revert hn3; intro hn3; go_at_call 122; (with_reducible refine hn3.mono ?_); rintro e w3 ⟨j3,rfl,hq3⟩; have hk3 : w3.cell? ⟨w.heap.size,0,none⟩ = some (.int .u8 (op : Int)) ∧ w3.cell? ⟨w.heap.size,2,none⟩ = some (.int .i64 xa) ∧ w3.cell? ⟨w.heap.size,3,none⟩ = some (.int .i64 xb) := (by obtain ⟨i4,G4,_,_,_,fr3⟩ := hq3; exact HCL.out _ (qh hbk2.1 hbk2.2 fr3).1); have HQ : Hid (KeepP T0 w G b T rest items (IsN S) j3 w3) := (hq3.trans (hp1.trans hp2) ((HF0.out.trans fr1).trans fr2)))
  | fail)
 all_goals
  clear hn1 hn2 hn3
  go_wp2
  go_ret
  exact ⟨j3,rfl,HQ.out⟩
theorem q9S {T0 : Tr} {w : World} {G : Nat → Prop} {b : Nat} {T : TypeId} {rest : List Value} {items : List It} (h : PtO T0 w G b T rest items) (i op p m : Nat) (xb : Int) (hx : items[i]? = some ⟨op,p,(m : Int),xb⟩) (ho : op = 17 ∨ op = 18) (c d : Tr) (hm : Rep items m c)
  (hB : NgC T0 b T rest items xb (IsN d)) (hS : InC T0 (.bin (duO op,0) c d)) :
  Calls Tryz.prog 183 #[.pointer (some ⟨b,0,none⟩),.int .i64 (i : Int)] w (KeepR T0 w G b T rest items (IsN (.bin (duO op,0) c d))) := by
 obtain ⟨a,n,cap,g,o,c0,hidx,x0,x1,x2,x3⟩ := h.at hx
 have hb := qd w (itO ⟨op,p,(m : Int),xb⟩)
 have hne : ((i : Int) == -1) = false := by rw [beq_eq_false_iff_ne]; omega
 have hbx := (MapKept.heap_alloc w (itO ⟨op,p,(m : Int),xb⟩)).1
 have hdu : op < 256 ∧ duO op < 256 := by rcases ho with rfl | rfl <;> decide
 have hdual := fun w => q3X op w (by omega)
 have n2 : ((op : Int) == 2) = false := by rw [beq_eq_false_iff_ne]; omega
 have n6 : ((op : Int) == 6) = false := by rw [beq_eq_false_iff_ne]; omega
 obtain ⟨f17,hf17⟩ : ∃ f : Bool,((op : Int) == 17) = f := ⟨_,rfl⟩
 have n18 : f17 = false → ((op : Int) == 18) = true := fun hf => by
  rw [hf,beq_eq_false_iff_ne] at hf17
  rw [beq_iff_eq]; omega
 have hwd : (w.alloc (itO ⟨op,p,(m : Int),xb⟩)).drew.heap[w.heap.size]? = some (itO ⟨op,p,(m : Int),xb⟩) := hbx
 have hPd : PtO T0 (w.alloc (itO ⟨op,p,(m : Int),xb⟩)).drew G b T rest items := (h.up hb).up (Below.refl _ _).drew
 have hn1 := hB _ _ _ (List.prefix_refl _) hPd
 have HF0 : Hid (Fr w (w.alloc (itO ⟨op,p,(m : Int),xb⟩)).drew G G) := Fr.ofBelow hb.drew
 have HBX : Hid _ := hwd
 have HNG : Hid (¬ G w.heap.size) := h.new
 have HM : Hid _ := hm
 have HS : Hid _ := hS
 have HDU : Hid _ := hdu.2
 have cells : ∀ w' : World,w'.heap[w.heap.size]? = some (itO ⟨op,p,(m : Int),xb⟩) → w'.cell? ⟨w.heap.size,0,none⟩ = some (.int .u8 (op : Int)) ∧ w'.cell? ⟨w.heap.size,2,none⟩ = some (.int .i64 (m : Int)) ∧ w'.cell? ⟨w.heap.size,3,none⟩ = some (.int .i64 xb) := fun w' e => ⟨qb e 0,qb e 2,qb e 3⟩
 have HCL : Hid _ := cells
 have hk0 := cells _ hwd
 have hk00 := cells _ hbx
 clear h hb hx ho hB hS hdu cells hbx hwd hPd hm
 unfold KeepR at *
 unfold itO at *
 dsimp only at *
 cases f17 with
 | true =>
  clear n18
  go_enter Tryz.func183,Tryz.ntmps183
  go_upto_region 40 with fail
  go_region_held3 (fun w' => w'.cell? ⟨w.heap.size,0,none⟩ = some (.int .u8 (op : Int)) ∧ w'.cell? ⟨w.heap.size,2,none⟩ = some (.int .i64 (m : Int)) ∧ w'.cell? ⟨w.heap.size,3,none⟩ = some (.int .i64 xb)) (first | exact hk0 | exact hk00 | assumption | fail) (first
   | (go_at_call 184; (with_reducible refine (hdual _).mono ?_); rintro e w' ⟨rfl,rfl⟩)
   | (revert hn1; intro hn1; go_at_call 183; (with_reducible refine hn1.mono ?_); rintro e w1 ⟨ja,rfl,i1,G1,hp1,hr1,hP1,fr1⟩; obtain ⟨l1,rfl,hrl⟩ := hr1; have hbk1 := qh HBX.out HNG.out fr1; have hk1 := HCL.out _ hbk1.1; have hn2 := q1e hP1 (duO op) HDU.out m l1 c d (HM.out.pre hp1) hrl HS.out; unfold KeepR at hn2)
   | (revert hn2; intro hn2; go_at_call 182; (with_reducible refine hn2.mono ?_); rintro e w3 ⟨j3,rfl,hq3⟩; have hk3 : w3.cell? ⟨w.heap.size,0,none⟩ = some (.int .u8 (op : Int)) ∧ w3.cell? ⟨w.heap.size,2,none⟩ = some (.int .i64 (m : Int)) ∧ w3.cell? ⟨w.heap.size,3,none⟩ = some (.int .i64 xb) := (by obtain ⟨i4,G4,_,_,_,fr3⟩ := hq3; exact HCL.out _ (qh hbk1.1 hbk1.2 fr3).1); have HQ : Hid (KeepP T0 w G b T rest items (IsN (.bin (duO op,0) c d)) j3 w3) := (hq3.trans hp1 (HF0.out.trans fr1)))
   | fail)
  all_goals
   clear hn1 hn2
   go_wp2
   go_ret
   exact ⟨j3,rfl,HQ.out⟩
 | false =>
  have n18' := n18 rfl
  clear n18
  go_enter Tryz.func183,Tryz.ntmps183
  go_upto_region 40 with fail
  go_region_held3 (fun w' => w'.cell? ⟨w.heap.size,0,none⟩ = some (.int .u8 (op : Int)) ∧ w'.cell? ⟨w.heap.size,2,none⟩ = some (.int .i64 (m : Int)) ∧ w'.cell? ⟨w.heap.size,3,none⟩ = some (.int .i64 xb)) (first | exact hk0 | exact hk00 | assumption | fail) (first
   | (go_at_call 184; (with_reducible refine (hdual _).mono ?_); rintro e w' ⟨rfl,rfl⟩)
   | (revert hn1; intro hn1; go_at_call 183; (with_reducible refine hn1.mono ?_); rintro e w1 ⟨ja,rfl,i1,G1,hp1,hr1,hP1,fr1⟩; obtain ⟨l1,rfl,hrl⟩ := hr1; have hbk1 := qh HBX.out HNG.out fr1; have hk1 := HCL.out _ hbk1.1; have hn2 := q1e hP1 (duO op) HDU.out m l1 c d (HM.out.pre hp1) hrl HS.out; unfold KeepR at hn2)
   | (revert hn2; intro hn2; go_at_call 182; (with_reducible refine hn2.mono ?_); rintro e w3 ⟨j3,rfl,hq3⟩; have hk3 : w3.cell? ⟨w.heap.size,0,none⟩ = some (.int .u8 (op : Int)) ∧ w3.cell? ⟨w.heap.size,2,none⟩ = some (.int .i64 (m : Int)) ∧ w3.cell? ⟨w.heap.size,3,none⟩ = some (.int .i64 xb) := (by obtain ⟨i4,G4,_,_,_,fr3⟩ := hq3; exact HCL.out _ (qh hbk1.1 hbk1.2 fr3).1); have HQ : Hid (KeepP T0 w G b T rest items (IsN (.bin (duO op,0) c d)) j3 w3) := (hq3.trans hp1 (HF0.out.trans fr1)))
   | fail)
  all_goals
   clear hn1 hn2
   go_wp2
   go_ret
   exact ⟨j3,rfl,HQ.out⟩
theorem qfX {op : Nat} (h : op = 0 ∨ op = 1 ∨ op = 4 ∨ op = 5) : (kTr (.leaf (op,0))).2 = .leaf (duO op,0) := by rcases h with rfl | rfl | rfl | rfl <;> rfl
theorem qfY {op : Nat} (h : op = 7 ∨ op = 8) (c : Tr) : (kTr (.un (op,0) c)).2 = .un (duO op,0) (kTr c).2 := by rcases h with rfl | rfl <;> rfl
theorem qfZ {op : Nat} (h : op = 11 ∨ op = 12 ∨ op = 15 ∨ op = 16) (c d : Tr) : (kTr (.bin (op,0) c d)).2 = .bin (duO op,0) (kTr c).2 (kTr d).2 := by rcases h with rfl | rfl | rfl | rfl <;> rfl
theorem qg0 {op : Nat} (h : op = 17 ∨ op = 18) {c : Tr} (hc : KP c) (d : Tr) : (kTr (.bin (op,0) c d)).2 = .bin (duO op,0) c (kTr d).2 := by
 have e := (q1h c hc.wf hc.kr).1
 rcases h with rfl | rfl
 ·show Tr.bin (18,0) (kTr c).1 (kTr d).2 = _; rw [e]; rfl
 ·show Tr.bin (17,0) (kTr c).1 (kTr d).2 = _; rw [e]; rfl
theorem q1M {T0 : Tr} {b : Nat} {T : TypeId} {rest : List Value} : ∀ (S : Tr),KT S → S ∈ subL T0 → ∀ (items : List It) (i : Nat),Rep items i S → NgC T0 b T rest items (i : Int) (IsN (kTr S).2)
 | .leaf (op,p),hS,hin,items,i,hi => by
  intro w G i1 hp hP
  have hi1 := hi.pre hp
  have hneg := q5y hin hS
  rcases q1F hS with ⟨rfl,_⟩ | ⟨rfl,ho⟩
  ·exact q83 hP i p hi1 hneg
  ·have hx : i1[i]? = some ⟨op,0,-1,-1⟩ := by cases hi1 with | leaf h => exact h
   rw [qfX ho] at hneg ⊢
   refine q2G hP i op 0 (-1) (-1) hx (by omega) IsM IsM (fun _ _ _ _ hP => q2F hP) (fun _ _ _ _ hP => q2F hP) _ hneg ?_
   rintro j1 j2 ja jb _ _ rfl rfl
   exact ⟨by omega,by omega,by omega,by omega,fun j3 j _ _ hj => .leaf hj⟩
 | .un (op,p) c,hS,hin,items,i,hi => by
  intro w G i1 hp hP
  have hi1 := hi.pre hp
  have hneg := q5y hin hS
  rcases kt_un hS with ⟨rfl,⟨rfl,q,rfl⟩ | ⟨ho,hc⟩⟩
  ·exact q9R hP i _ hi1
  ·obtain ⟨m,hx,hm⟩ : ∃ m : Nat,i1[i]? = some ⟨op,0,(m : Int),-1⟩ ∧ Rep i1 m c := by cases hi1 with | un h h1 h2 => exact ⟨_,h,h2⟩
   rw [qfY ho] at hneg ⊢
   refine q2G hP i op 0 (m : Int) (-1) hx (by omega) (IsN (kTr c).2) IsM (q1M c hc (q31 hin) i1 m hm) (fun _ _ _ _ hP => q2F hP) _ hneg ?_
   rintro j1 j2 ja jb h1 h2 ⟨a,rfl,ha⟩ rfl
   have := (ha.pre h2).lt
   exact ⟨by omega,by omega,by omega,by omega,fun j3 j h3 hlow hj => .un (k := (duO op,0)) hj (qbb (k := (duO op,0)) hlow hj) ((ha.pre h2).pre h3)⟩
 | .bin (op,p) c d,hS,hin,items,i,hi => by
  intro w G i1 hp hP
  have hi1 := hi.pre hp
  have hneg := q5y hin hS
  obtain ⟨rfl,ho⟩ := q1t hS
  obtain ⟨m,l,hx,hm,hl⟩ : ∃ m l : Nat,i1[i]? = some ⟨op,0,(m : Int),(l : Int)⟩ ∧ Rep i1 m c ∧ Rep i1 l d := by cases hi1 with | bin h h1 h2 h3 h4 => exact ⟨_,_,h,h3,h4⟩
  by_cases hw : op = 17 ∨ op = 18
  ·obtain ⟨kc,kd⟩ := q1l hS hw
   rw [qg0 hw kc] at hneg ⊢
   exact q9S hP i op 0 m (l : Int) hx hw c (kTr d).2 hm (q1M d kd (q19 hin).2 i1 l hl) hneg
  ·obtain ⟨kc,kd⟩ := qB hS (by omega)
   have ho4 : op = 11 ∨ op = 12 ∨ op = 15 ∨ op = 16 := by omega
   rw [qfZ ho4] at hneg ⊢
   refine q2G hP i op 0 (m : Int) (l : Int) hx (by omega) (IsN (kTr c).2) (IsN (kTr d).2) (q1M c kc (q19 hin).1 i1 m hm) (q1M d kd (q19 hin).2 i1 l hl) _ hneg ?_
   rintro j1 j2 ja jb h1 h2 ⟨a,rfl,ha⟩ ⟨e,rfl,he⟩
   have := (ha.pre h2).lt
   have := he.lt
   refine ⟨by omega,by omega,by omega,by omega,fun j3 j h3 hlow hj => ?_⟩
   obtain ⟨u,v⟩ := q8v (k := (duO op,0)) hlow hj
   exact .bin (k := (duO op,0)) hj u v ((ha.pre h2).pre h3) (he.pre h3)
def tkY (k : Tk) : Nat := k.1 * 8 + k.2
def encY (ts : List Tk) : List Value := ts.map fun k => .int .u8 (tkY k : Int)
theorem qej (a b : List Tk) : encY (a ++ b) = encY a ++ encY b := by simp [encY]
structure GrowV (w w' : World) (v v' : Value) : Prop where
 gr : w.grownBy w' v.ownBlock
 loc : v'.ownBlock = v.ownBlock ∨ ∃ k,v'.ownBlock = some k ∧ w.heap.size ≤ k
theorem GrowV.refl (w : World) (v : Value) : GrowV w w v v := ⟨World.grownBy.refl _ _,Or.inl rfl⟩
theorem GrowV.ofBelow {w w' : World} (v : Value) (h : Below w.heap.size w w') : GrowV w w' v v := ⟨⟨h.os,h.tape,h.output,h.size,fun k hk _ => h.block k hk⟩,Or.inl rfl⟩
theorem GrowV.trans {w w1 w2 : World} {v v1 v2 : Value} (h : GrowV w w1 v v1) (k : GrowV w1 w2 v1 v2) : GrowV w w2 v v2 := by
 refine ⟨⟨k.gr.os.trans h.gr.os,k.gr.tape.trans h.gr.tape,k.gr.output.trans h.gr.output,Nat.le_trans h.gr.size k.gr.size,fun j hj hn => ?_⟩,?_⟩
 ·refine (k.gr.block j (Nat.lt_of_lt_of_le hj h.gr.size) ?_).trans (h.gr.block j hj hn)
  rcases h.loc with e | ⟨q,e,hq⟩
  ·rw [e]; exact hn
  ·rw [e]; intro e2; injection e2 with e2; omega
 ·rcases k.loc with e | ⟨q,e,hq⟩
  ·rw [e]
   exact h.loc
  ·exact Or.inr ⟨q,e,Nat.le_trans h.gr.size hq⟩
def WrC (T0 : Tr) (base : Nat) (G : Nat → Prop) (b : Nat) (T : TypeId) (rest : List Value) (items : List It) (a : Int) (ts : List Tk) : Prop :=
 ∀ (w : World) (v : Value) (xs : List Tk),base ≤ w.heap.size → PtO T0 w G b T rest items → w.ownsRow base 5 1 v xs.length (encY xs) → xs.length + ts.length ≤ 60000000 →
  Calls Tryz.prog 161 #[.pointer (some ⟨b,0,none⟩),v,.int .i64 a] w fun e w' => ∃ v',e = .returned v' ∧ GrowV w w' v v' ∧ w'.ownsRow base 5 1 v' (xs ++ ts).length (encY (xs ++ ts))
theorem q2c {T0 : Tr} {base : Nat} {G : Nat → Prop} {b : Nat} {T : TypeId} {rest : List Value} {items : List It} : WrC T0 base G b T rest items (-1) [] := by
 intro w v xs hb hP hO _
 have HQ : Hid (w.ownsRow base 5 1 v (xs ++ []).length (encY (xs ++ []))) := by rw [List.append_nil]; exact hO
 obtain ⟨a,cap,rfl⟩ := qK hO
 clear hP hO
 generalize xs.length = n at *
 go_enter Tryz.func161,Tryz.ntmps161
 go_wp2
 go_ret
 exact ⟨_,rfl,GrowV.refl _ _,HQ.out⟩
theorem qaj : (Tryz.prog.info? 5).map (fun i => (i.zero,i.size,i.bytes)) = some (some (.int .u8 0),1,1) := by kernel_rfl
theorem qf9 {op p : Nat} (ho : op ≤ 23) (hp : p ≤ 7) : bits .or .u8 ((op : Int) * 8) (p : Int) = ((op * 8 + p : Nat) : Int) := by
 rcases q6t ho with rfl | rfl | rfl | rfl | rfl | rfl | rfl | rfl | rfl | rfl | rfl | rfl | rfl | rfl | rfl | rfl | rfl | rfl | rfl | rfl | rfl | rfl | rfl | rfl <;>
 ·have : p = 0 ∨ p = 1 ∨ p = 2 ∨ p = 3 ∨ p = 4 ∨ p = 5 ∨ p = 6 ∨ p = 7 := by omega
  rcases this with rfl | rfl | rfl | rfl | rfl | rfl | rfl | rfl <;> decide
theorem q2d {T0 : Tr} {base : Nat} {G : Nat → Prop} {b : Nat} {T : TypeId} {rest : List Value} {items : List It} (hG : ∀ k,G k → k < base) (i op p : Nat) (xa xb : Int) (hx : items[i]? = some ⟨op,p,xa,xb⟩) (ho : op ≤ 23) (hp : p ≤ 7) (ta tb : List Tk)
  (hA : WrC T0 base G b T rest items xa ta) (hB : WrC T0 base G b T rest items xb tb) : WrC T0 base G b T rest items (i : Int) (ta ++ tb ++ [(op,p)]) := by
 intro w v xs hb hP hO hn
 have hl : (ta ++ tb ++ [(op,p)]).length = ta.length + tb.length + 1 := by simp [Nat.add_assoc]
 rw [hl] at hn
 obtain ⟨a,n,cap,g,o,c0,hidx,x0,x1,x2,x3⟩ := hP.at hx
 have hbn := qd w (itO ⟨op,p,xa,xb⟩)
 have hne : ((i : Int) == -1) = false := by rw [beq_eq_false_iff_ne]; omega
 have hbx := (MapKept.heap_alloc w (itO ⟨op,p,xa,xb⟩)).1
 have hz : (w.alloc (itO ⟨op,p,xa,xb⟩)).heap.size = w.heap.size + 1 := by simp
 have j1 := hA (w.alloc (itO ⟨op,p,xa,xb⟩)) v xs (by omega) (hP.up hbn) (q1g hO hbn) (by omega)
 have hge := q2z hO
 have hlt := qR hO
 have HP : Hid (∀ w' v',GrowV w w' v v' → PtO T0 w' G b T rest items) := fun w' v' hg => hP.far fun k hk => hg.gr.block k (by have := hG k hk; omega) (fun e => by have := hG k hk; have := hge k e.symm; omega)
 have HBXK : Hid (∀ w' v',GrowV (w.alloc (itO ⟨op,p,xa,xb⟩)) w' v v' → w'.heap[w.heap.size]? = some (itO ⟨op,p,xa,xb⟩)) := fun w' v' hg => (hg.gr.block _ (by omega) (fun e => by have := hlt _ e.symm; omega)).trans hbx
 have HB : Hid (WrC T0 base G b T rest items xb tb) := hB
 have HG0 : Hid (GrowV w (w.alloc (itO ⟨op,p,xa,xb⟩)) v v) := GrowV.ofBelow v hbn
 have HTB : Hid (bits .or .u8 ((op : Int) * 8) (p : Int) = ((op * 8 + p : Nat) : Int)) := qf9 ho hp
 have HN : Hid (xs.length + (ta.length + tb.length + 1) ≤ 60000000) := hn
 have HBS : Hid (base ≤ w.heap.size) := hb
 have HZ : Hid _ := hz
 have a2 : (w.alloc (itO ⟨op,p,xa,xb⟩)).cell? ⟨w.heap.size,2,none⟩ = some (.int .i64 xa) := qb hbx 2
 obtain ⟨sa,scap,rfl⟩ := qK hO
 clear hP hO hA hB hx hbn hbx hG hge hlt hn hl
 generalize hvv : Value.slice sa xs.length scap = v at *
 unfold itO at *
 dsimp only at *
 go_enter Tryz.func161,Tryz.ntmps161
 go_wp2_with fail
 refine j1.mono ?_
 rintro e w1 ⟨v1,rfl,hg1,ho1⟩
 have hbx1 := HBXK.out w1 v1 hg1
 have a3 : w1.cell? ⟨w.heap.size,3,none⟩ = some (.int .i64 xb) := qb hbx1 3
 have hsz1 := hg1.gr.size
 have j2 := HB.out w1 v1 (xs ++ ta) (by have := HZ.out; have := HBS.out; omega) (HP.out w1 v1 (HG0.out.trans hg1)) ho1 (by have := HN.out; simp; omega)
 have HG1 : Hid _ := hg1
 clear j1 hg1 ho1 hbx1 a2 c0 hidx x0 x1 x2 x3 hsz1
 go_wp2_with fail
 refine j2.mono ?_
 rintro e w2 ⟨v2,rfl,hg2,ho2⟩
 have HGA : Hid _ := HG1.out.trans hg2
 have HG2 : Hid (GrowV w w2 v v2) := HG0.out.trans HGA.out
 have hbx2 := HBXK.out w2 v2 HGA.out
 have b0 : w2.cell? ⟨w.heap.size,0,none⟩ = some (.int .u8 (op : Int)) := qb hbx2 0
 have b1 : w2.cell? ⟨w.heap.size,1,none⟩ = some (.int .u8 (p : Int)) := qb hbx2 1
 obtain ⟨sb,bcap,rfl⟩ := qK ho2
 have HO2 : Hid _ := ho2
 have hL : (xs ++ ta ++ tb).length ≤ 60000000 := by have := HN.out; simp; omega
 have HS2 : Hid (w.heap.size ≤ w2.heap.size) := HG2.out.gr.size
 clear j2 hg2 ho2 hbx2 a3
 generalize hLL : (xs ++ ta ++ tb).length = L at *
 have HL : Hid _ := hLL
 clear hLL
 have hY : ∀ y : Int,(w2.alloc (.cells #[.int .u8 y] 5)).cell? ⟨w2.heap.size,0,none⟩ = some (.int .u8 y) := fun y => qb (MapKept.heap_alloc w2 _).1 0
 have hOY : ∀ y : Int,(w2.alloc (.cells #[.int .u8 y] 5)).ownsRow base 5 1 (.slice sb L bcap) L (encY (xs ++ ta ++ tb)) := fun y => World.ownsRow.alloc HO2.out _
 go_wp2_with (at_builtin; refine q2f Tryz.underlying187 qaj rfl (by decide) rfl _ _ rfl base _ L (encY (xs ++ ta ++ tb)) _ w2.heap.size rfl rfl (hOY _) (hY _) rfl (by omega) (by have := HBS.out; have := HS2.out; simp; omega) ?_)
 intro v3 w3 hown3 hgr3 hloc3
 have e3 := HTB.out
 rw [e3] at hown3 hgr3
 have HO3 : Hid (w3.ownsRow base 5 1 v3 (xs ++ (ta ++ tb ++ [(op,p)])).length (encY (xs ++ (ta ++ tb ++ [(op,p)])))) := by
  have e : xs ++ (ta ++ tb ++ [(op,p)]) = xs ++ (ta ++ tb) ++ [(op,p)] := by simp
  have e2 : (xs ++ (ta ++ tb)).length = L := by have := HL.out; simpa using this
  show w3.ownsRow _ _ _ _ _ _
  rw [e,qej,List.length_append,e2]
  exact hown3
 have hbn := qd w2 (.cells #[.int .u8 ((op * 8 + p : Nat) : Int)] 5)
 have HG3 : Hid (GrowV w w3 v v3) := HG2.out.trans ((GrowV.ofBelow _ hbn).trans ⟨hgr3,hloc3.imp id fun e => ⟨_,e,by simp⟩⟩)
 obtain ⟨s3,cap3,rfl⟩ := qK HO3.out
 clear hown3 hgr3 hloc3 hbn hY hOY HO2 e3
 go_wp2
 go_ret
 exact ⟨_,rfl,HG3.out,HO3.out⟩
theorem q1R {T0 : Tr} {base : Nat} {G : Nat → Prop} {b : Nat} {T : TypeId} {rest : List Value} {items : List It} (hG : ∀ k,G k → k < base) : ∀ (S : Tr),S.WF → ∀ i,Rep items i S → WrC T0 base G b T rest items (i : Int) S.flat
 | .leaf (op,p),hw,i,hi => by
  have hx : items[i]? = some ⟨op,p,-1,-1⟩ := by cases hi with | leaf h => exact h
  have hs := q1D _ hw (op,p) (by simp [Tr.flat])
  exact q2d hG i op p (-1) (-1) hx hs.1 hs.2 [] [] q2c q2c
 | .un (op,p) c,hw,i,hi => by
  obtain ⟨m,hx,hm⟩ : ∃ m : Nat,items[i]? = some ⟨op,p,(m : Int),-1⟩ ∧ Rep items m c := by cases hi with | un h h1 h2 => exact ⟨_,h,h2⟩
  have hs := q1D _ hw (op,p) (by simp [Tr.flat])
  have h : WrC T0 base G b T rest items (i : Int) (c.flat ++ [] ++ [(op,p)]) := q2d hG i op p (m : Int) (-1) hx hs.1 hs.2 c.flat [] (q1R hG c (qE hw).2.1 m hm) q2c
  rw [List.append_nil] at h
  exact h
 | .bin (op,p) c d,hw,i,hi => by
  obtain ⟨m,l,hx,hm,hl⟩ : ∃ m l : Nat,items[i]? = some ⟨op,p,(m : Int),(l : Int)⟩ ∧ Rep items m c ∧ Rep items l d := by cases hi with | bin h h1 h2 h3 h4 => exact ⟨_,_,h,h3,h4⟩
  have hs := q1D _ hw (op,p) (by simp [Tr.flat])
  exact q2d hG i op p (m : Int) (l : Int) hx hs.1 hs.2 c.flat d.flat (q1R hG c (qy hw).2.1 m hm) (q1R hG d (qy hw).2.2.1 l hl)
theorem qcI {w : World} {base n : Nat} {v : Value} {ts : List Tk} (h : w.ownsRow base 5 1 v n (encY ts)) (hs : ∀ k ∈ ts,k.1 ≤ 23 ∧ k.2 ≤ 7) : (convert 187 9 v).run Tryz.prog w = .ok (.string ⟨(ts.map fun k => UInt8.ofNat (k.1 * 8 + k.2)).toArray⟩) w := by
 have hl : ts.length = n := by have := h.1; simpa [encY] using this
 rcases h.2 with ⟨rfl,h0⟩ | ⟨g,cap,cur,hv,hg,hcell,hnc,hcm,hsz,htk⟩
 ·obtain rfl : ts = [] := List.eq_nil_of_length_eq_zero (by omega)
  rw [run_convert_bytes_string w 187 9 5 none 0 0 Tryz.underlying187 Tryz.underlying5 Tryz.underlying9]
  simp [Conv.bytesToString]
  rfl
 ·subst hv hl
  have e : ts.length = (ts.map fun k => UInt8.ofNat (k.1 * 8 + k.2)).length := by simp
  have key := run_convert_bytes_back (P := Tryz.prog) w 187 9 5 ⟨g,0,none⟩ cap (ts.map fun k => UInt8.ofNat (k.1 * 8 + k.2)) Tryz.underlying187 Tryz.underlying5 Tryz.underlying9 (fun j hj => by
   have hj' : j < ts.length := by simpa using hj
   have hk : (cur.toList.take (ts.length * 1))[j]? = some (.int .u8 (tkY ts[j] : Int)) := by rw [htk]; simp [encY,hj']
   rw [List.getElem?_take,if_pos (by omega)] at hk
   have hb := hs _ (List.getElem_mem hj')
   rw [qi,Nat.zero_add]
   simp [World.cell?,hcell]
   have e2 : (UInt8.ofNat (ts[j].1 * 8 + ts[j].2)).toNat = tkY ts[j] := by
    unfold tkY
    simp
    omega
   rw [show cur[j]? = cur.toList[j]? by simp,hk,← e2]
   simp)
  rw [← e] at key
  exact key
theorem q20 {w : World} {base e n i : Nat} {v : Value} {xs : List Value} (h : w.ownsRow base e 1 v n xs) (hi : i < n) (y : Value) : ∃ g cap,v = .slice (some ⟨g,0,none⟩) n cap ∧ base ≤ g ∧ n ≤ cap ∧ w.cell? ⟨g,i,none⟩ = xs[i]? ∧ w.frozen? ⟨g,i,none⟩ = false ∧ (w.setCell ⟨g,i,none⟩ y).ownsRow base e 1 v n (xs.set i y) := by
 obtain ⟨hl,h⟩ := h
 rcases h with ⟨rfl,h0⟩ | ⟨g,cap,cur,rfl,hg,hcell,hnc,hcm,hsz,htk⟩
 ·omega
 ·have hcu : cur.toList.length = cap := by simpa using hsz
  refine ⟨g,cap,rfl,hg,hnc,?_,frozen_of_row w g i _ _ hcell,by simpa using hl,Or.inr ⟨g,cap,cur.setIfInBounds i y,rfl,hg,heap_setCell_same w g i _ _ y hcell,hnc,hcm,by simpa using hsz,?_⟩⟩
  ·rw [qb hcell i,← htk,List.getElem?_take,if_pos (by omega)]
   simp
  ·rw [← htk]
   simp [List.take_set]
theorem qgQ (S : Tr) : txB S ≠ ⟨#[]⟩ := by
 intro h
 have h1 : (S.flat.map fun k => UInt8.ofNat (k.1 * 8 + k.2)).toArray = #[] := congrArg ByteArray.data h
 have h2 := congrArg Array.size h1
 simp at h2
 have h3 := q2M S
 have := q6y S
 rw [h2] at h3
 simp at h3
 omega
theorem q6A (S : Tr) : (txB S).size = S.size := by
 show (S.flat.map fun k => UInt8.ofNat (k.1 * 8 + k.2)).toArray.size = _
 simp [q2M]
theorem PtR.setT {w : World} {b mp n i : Nat} {T : TypeId} {rest : List Value} {vi vt : Value} {items : List It} {texts : List ByteArray} {f : It → Option Nat} (h : PtR w b T rest vi mp vt items texts n f) (hi : i < texts.length) (s : ByteArray) :
  ∃ g cap,vt = .slice (some ⟨g,0,none⟩) texts.length cap ∧ texts.length ≤ cap ∧ w.cell? ⟨g,i,none⟩ = some (.string texts[i]) ∧ w.frozen? ⟨g,i,none⟩ = false ∧ PtR (w.setCell ⟨g,i,none⟩ (.string s)) b T rest vi mp vt items (texts.set i s) n f ∧ Fr w (w.setCell ⟨g,i,none⟩ (.string s)) (FP b mp vi vt) (FP b mp vi vt) := by
 obtain ⟨g,cap,rfl,_,hnc,hc,hz,ho⟩ := q20 h.rt hi (.string s)
 have hgb : b ≠ g := fun e => h.tb (by rw [e]; rfl)
 have hgm : mp ≠ g := fun e => h.tm (by rw [e]; rfl)
 have st : ∀ k,k ≠ g → (w.setCell ⟨g,i,none⟩ (.string s)).heap[k]? = w.heap[k]? := fun k hk => Below.heap_setCell _ _ _ _ hk
 refine ⟨g,cap,rfl,hnc,by rw [hc]; simp [hi],hz,⟨h.ty,(st b hgb).trans h.blk,qs h.ri fun k hk => st k (fun e => h.it k hk (by rw [e]; rfl)),?_,h.num.far (st mp hgm)⟩,rfl,rfl,rfl,by simp,fun k hk hF => st k (fun e => hF (Or.inr (Or.inr (Or.inr (by rw [e]; rfl))))),fun _ hk => Or.inl hk⟩
 rw [List.length_set,List.map_set]
 exact ho
def TextP (T0 : Tr) (w : World) (G : Nat → Prop) (b : Nat) (T : TypeId) (rest : List Value) (items : List It) (w' : World) : Prop := PtO T0 w' G b T rest items ∧ Fr w w' G G
theorem q42 {T0 : Tr} {w : World} {G : Nat → Prop} {b : Nat} {T : TypeId} {rest : List Value} {items : List It} (h : PtO T0 w G b T rest items) (i : Nat) (S : Tr) (hi : Rep items i S) (hS : InC T0 S) :
  Calls Tryz.prog 152 #[.pointer (some ⟨b,0,none⟩),.int .i64 (i : Int)] w fun e w' => e = .returned (.string (txB S)) ∧ TextP T0 w G b T rest items w' := by
 obtain ⟨texts,hp,ht⟩ := h.ex
 obtain ⟨vi,mp,vt,hr,hG⟩ := hp.ex
 have hil : i < texts.length := by rw [hp.tl]; exact hi.lt
 obtain ⟨g,cap,rfl,hcap,hc,hz,hr2,fr2⟩ := hr.setT hil (txB S)
 have c2 := hr.c2
 have hidx : ∀ w',(Instr.indexAt 124 (.slice (some ⟨g,0,none⟩) texts.length cap) (.int .i64 (i : Int))).run Tryz.prog w' = .ok (.pointer (some ⟨g,i,none⟩)) w' := fun w' => by
  simp [Instr.indexAt,run_underlying Tryz.underlying124,asIntOf,qY (show (Tryz.prog.info? 9).map (·.size) = some 1 by kernel_rfl),hil,Result.andThen,go_sem,qi]
 have hk := q2P h.t0.kt hS
 have hw : S.WF := by rcases hk with k | k <;> exact k.wf
 have hti : texts[i]? = some texts[i] := List.getElem?_eq_getElem hil
 rcases ht i S hi with h0 | h1
 ·rw [hti] at h0
  injection h0 with h0
  rw [h0] at hc
  have hglt : ∀ k,G k → k < w.heap.size := h.lt
  have hsz := (q4u h.t0.sz hS).1
  have hfl := q2M S
  have hwr := q1R (T0 := T0) (T := T) (b := b) (rest := rest) hglt S hw i hi w.drew (.slice none 0 0) [] (Nat.le_refl _) (h.up (Below.refl _ _).drew) ⟨rfl,Or.inl ⟨rfl,rfl⟩⟩ (by simp; omega)
  have HW1 : Hid (∀ w1 v1,GrowV w.drew w1 (.slice none 0 0) v1 → w1.ownsRow w.heap.size 5 1 v1 ([] ++ S.flat).length (encY ([] ++ S.flat)) → (convert 187 9 v1).run Tryz.prog w1 = .ok (.string (txB S)) w1 ∧ w1.cell? ⟨b,2,none⟩ = some (.slice (some ⟨g,0,none⟩) texts.length cap) ∧ w1.cell? ⟨g,i,none⟩ = some (.string ⟨#[]⟩) ∧ w1.frozen? ⟨g,i,none⟩ = false ∧
    (w1.setCell ⟨g,i,none⟩ (.string (txB S))).cell? ⟨b,2,none⟩ = some (.slice (some ⟨g,0,none⟩) texts.length cap) ∧ (w1.setCell ⟨g,i,none⟩ (.string (txB S))).cell? ⟨g,i,none⟩ = some (.string (txB S)) ∧ TextP T0 w G b T rest items (w1.setCell ⟨g,i,none⟩ (.string (txB S)))) := by
   intro w1 v1 hg1 ho1
   have hb1 : Below w.heap.size w w1 := ⟨hg1.gr.os,hg1.gr.tape,hg1.gr.output,hg1.gr.size,fun k hk => hg1.gr.block k hk (fun e => by cases e)⟩
   have hr1 := hr.up hb1
   obtain ⟨g',cap',e,_,hc',hz',hr2',fr2'⟩ := hr1.setT hil (txB S)
   injection e with e1 e2 e3
   injection e1 with e1
   injection e1 with e1
   subst e1 e3
   obtain ⟨cs,hcs⟩ : ∃ cs,(w1.setCell ⟨g,i,none⟩ (.string (txB S))).heap[g]? = some (.cells cs 9 (0,0)) := qdS hr2'.rt rfl
   have hown := q20 hr2'.rt (i := i) (by rw [List.length_set]; exact hil) (.string (txB S))
   obtain ⟨g2,cap2,e2,_,_,hc2,_⟩ := hown
   injection e2 with e2 _ _
   injection e2 with e2
   injection e2 with e2
   subst e2
   refine ⟨qcI ho1 (q1D S hw),hr1.c2,by rw [hc',h0],hz',hr2'.c2,by rw [hc2]; simp [hil],⟨h.t0,h.low,h.cov,texts.set i (txB S),⟨hp.nd,by rw [List.length_set]; exact hp.tl,hp.few,hp.ok,fun s hs => ?_,vi,mp,_,hr2',hG⟩,fun n S' hn => ?_⟩,?_⟩
   ·rcases List.mem_or_eq_of_mem_set hs with hs | rfl
    ·exact hp.tok s hs
    ·unfold SOk; rw [q6A]; omega
   ·by_cases e : n = i
    ·subst e
     have := Rep.tree hi hn
     subst this
     exact Or.inr (by simp [hil])
    ·rw [List.getElem?_set_ne (fun h => e h.symm)]
     exact ht n S' hn
   ·exact ((Fr.ofBelow hb1).trans fr2').alike (fun k hk => (hG k).2 hk) (fun k hk => (hG k).1 hk)
  have hz0 : ((⟨#[]⟩ : ByteArray).toList == ([] : List UInt8)) = true := by rw [ByteArray.toList_eq]; rfl
  clear h hp ht hr hr2 fr2 hG hi hS hk hw hti h0 hglt hsz hfl
  generalize txB S = s at *
  generalize S.flat = fl at *
  generalize texts.length = L at *
  go_enter Tryz.func152,Tryz.ntmps152
  go_upto_region 40 with fail
  go_region_with (first
   | (go_at_call 161; (with_reducible refine hwr.mono ?_); rintro e w1 ⟨v1,rfl,hg1,ho1⟩; have hq := HW1.out w1 v1 hg1 ho1; have q1 := hq.1; have q0 := hq.2.1; have q2 := hq.2.2.1; have q3 := hq.2.2.2.1)
   | fail)
  all_goals
   have q4 := hq.2.2.2.2.1
   have q5 := hq.2.2.2.2.2.1
   have HQ : Hid _ := hq.2.2.2.2.2.2
   clear hwr hq q0 q1 q2 q3 hg1 ho1 HW1 c2 hc hz
   generalize w1.setCell ⟨g,i,none⟩ (.string s) = w2 at *
   go_wp2
   go_ret
   exact ⟨rfl,HQ.out⟩
 ·rw [hti] at h1
  injection h1 with h1
  rw [h1] at hc
  have hne : ((txB S).toList == ([] : List UInt8)) = false := by
   rw [beq_eq_false_iff_ne]
   intro e
   refine qgQ S ?_
   have : (txB S).toList = (txB S).data.toList := by rw [ByteArray.toList_eq]
   rw [this] at e
   have e2 : (txB S).data = #[] := by simpa using e
   exact congrArg ByteArray.mk e2
  have HQ : Hid (TextP T0 w G b T rest items w) := ⟨h,Fr.ofBelow (Below.refl _ _)⟩
  clear h hp ht hr hr2 fr2 hG hi hS hk hw hti h1
  generalize txB S = s at *
  go_enter Tryz.func152,Tryz.ntmps152
  go_wp2
  go_ret
  exact ⟨rfl,HQ.out⟩
theorem q8e {w : World} {ops : Array Oper} {o : Oper} {a : Act} {K : Act → World → Prop} {Q : Exit → Act → World → Prop} {E : Prop} (hw : Region.wanted o (yielded ops a.tmps) = true) (m x : Operand)
  (ho : o.op = .call { callee := .builtin .delete,args := #[m,x],argTypes := #[123,162] }) (b n : Nat) (f : It → Option Nat) (y : It) (hm : a.eval m = .map (some b)) (hx : a.eval x = itV y)
  (h : NumOf w b n f) (hy : ItOk y) (hf : (f y).isSome = true)
  (hK : ∀ w',NumOf w' b (n - 1) (fun z => if z = y then none else f z) → w.grownBy w' (some b) → K (a.put o.dst (.tuple #[])) w') :
  if Region.wanted o (yielded ops a.tmps) = true then Oper.wp Tryz.prog o a w K Q else E := by
 rw [if_pos hw]
 obtain ⟨w',hr,h1,h2⟩ := h.drop hy hf o.type
 unfold Oper.wp execOp
 simp only [ho,resolve,invoke,builtin,Sem.run_bind,Sem.run_pure,Result.andThen_ok,List.map_toArray,List.map_cons,List.map_nil,hm,hx,hr]
 exact hK w' h1 h2
def outI (items : List It) (n i : Nat) (y : It) : Option Nat := (posI items y).bind fun j => if n ≤ j ∧ j < n + i then none else some j
theorem qdP (items : List It) (n : Nat) (y : It) : posI items y = outI items n 0 y := by
 unfold outI
 cases posI items y with
 | none => rfl
 | some j => simp only [Option.bind_some]; rw [if_neg (by omega)]
theorem qdO {items : List It} (hn : items.Nodup) {n i : Nat} (h : n + i < items.length) (y : It) : (if y = items[n + i] then none else outI items n i y) = outI items n (i + 1) y := by
 unfold outI
 by_cases e : y = items[n + i]
 ·rw [if_pos e,(q2n hn (j := n + i)).2 (by rw [e]; exact List.getElem?_eq_getElem h)]
  simp only [Option.bind_some]
  rw [if_pos (by omega)]
 ·rw [if_neg e]
  cases hp : posI items y with
  | none => rfl
  | some j =>
   have hj := (q2n hn).1 hp
   have : j ≠ n + i := fun he => e (by subst he; rw [List.getElem?_eq_getElem h] at hj; injection hj with hj; exact hj.symm)
   simp only [Option.bind_some]
   by_cases c : n ≤ j ∧ j < n + i
   ·rw [if_pos c,if_pos (by omega)]
   ·rw [if_neg c,if_neg (by omega)]
theorem qd3 {items : List It} (hn : items.Nodup) {n i : Nat} (h : n + i < items.length) : (outI items n i items[n + i]).isSome = true := by
 unfold outI
 rw [(q2n hn (j := n + i)).2 (List.getElem?_eq_getElem h)]
 simp only [Option.bind_some]
 rw [if_neg (by omega)]
 rfl
theorem qeN {items : List It} (hn : items.Nodup) {n : Nat} (h : n ≤ items.length) (y : It) : outI items n (items.length - n) y = posI (items.take n) y := by
 unfold outI
 cases hp : posI items y with
 | none =>
  rw [q1A] at hp
  exact (q1A.2 (fun hy => hp (List.mem_of_mem_take hy))).symm
 | some j =>
  have hj := (q2n hn).1 hp
  have hl := qg6 hp
  simp only [Option.bind_some]
  by_cases c : j < n
  ·rw [if_neg (by omega)]
   refine ((q2n (hn.sublist (List.take_sublist _ _))).2 ?_).symm
   rw [List.getElem?_take,if_pos c]; exact hj
  ·rw [if_pos (by omega)]
   refine (q1A.2 fun hy => ?_).symm
   obtain ⟨i,hi⟩ := List.mem_iff_getElem?.1 hy
   rw [List.getElem?_take] at hi
   by_cases ci : i < n
   ·rw [if_pos ci] at hi
    have := q3v hn hi hj
    omega
   ·rw [if_neg ci] at hi; cases hi
theorem qga {w : World} {a : Option Addr} {n cap m : Nat} {items : List It} (h : w.ownsRow 0 162 4 (.slice a n cap) n (encI items)) (hl : items.length = n) (hm : m ≤ n) :
  ∃ a',(∀ w',(Instr.sliceAt 122 (.slice a n cap) (some (.int .i64 (m : Int))) none none).run Tryz.prog w' = .ok (.slice a' (n - m) (cap - m)) w') ∧
   ∀ k (x : It),items[m + k]? = some x → ∃ g o,(∀ w',(Instr.indexAt 122 (.slice a' (n - m) (cap - m)) (.int .i64 (k : Int))).run Tryz.prog w' = .ok (.pointer (some ⟨g,o,none⟩)) w') ∧
    ∀ w' : World,w'.ownsRow 0 162 4 (.slice a n cap) n (encI items) → w'.cell? ⟨g,o,none⟩ = some (.int .u8 (x.op : Int)) ∧ w'.cell? ⟨g,o + 1,none⟩ = some (.int .u8 (x.p : Int)) ∧ w'.cell? ⟨g,o + 2,none⟩ = some (.int .i64 x.a) ∧ w'.cell? ⟨g,o + 3,none⟩ = some (.int .i64 x.b) := by
 rcases h.2 with ⟨e,e0⟩ | ⟨g,cap',cur,e,_,hcell,hnc,_,hsz,htk⟩
 ·injection e with e1 _ e3
  subst e1 e3 e0
  obtain ⟨a',h1,_⟩ := cut_n (P := Tryz.prog) Tryz.underlying122 q1v none 0 0 m hm (Nat.le_refl _) (fun _ => rfl)
  exact ⟨a',h1,fun k x hk => absurd (List.getElem?_eq_some_iff.1 hk).1 (by omega)⟩
 ·injection e with e1 _ e3
  subst e1 e3
  obtain ⟨a',h1,_,h3⟩ := cut_n (P := Tryz.prog) Tryz.underlying122 q1v (some ⟨g,0,none⟩) n cap m hm hnc (fun e => by cases e)
  refine ⟨a',h1,fun k x hx => ?_⟩
  obtain ⟨hk,rfl⟩ := List.getElem?_eq_some_iff.1 hx
  have ha := h3 (by omega) _ rfl
  rw [qi,Nat.zero_add] at ha
  subst ha
  have hkn : k < n - m := by omega
  refine ⟨g,4 * (m + k),fun w' => ?_,fun w' ho => ?_⟩
  ·simp [Instr.indexAt,run_underlying Tryz.underlying122,asIntOf,qY q1v,hkn,Result.andThen,go_sem,qi,Nat.mul_comm]
  ·rcases ho.2 with ⟨e,e0⟩ | ⟨g',cap',cur',e,_,hcell',hnc',_,hsz',htk'⟩
   ·cases e
   ·injection e with e1 _ e3
    injection e1 with e1
    injection e1 with e1 _ _
    subst e1
    have key : ∀ j,j < n * 4 → w'.cell? ⟨g,j,none⟩ = (encI items)[j]? := fun j hj => by
     rw [← htk',List.getElem?_take,if_pos hj]
     simp [World.cell?,hcell']
    obtain ⟨q0,q1,q2,q3⟩ := q4p items (m + k) hk
    refine ⟨?_,?_,?_,?_⟩
    ·rw [key _ (by omega)]; exact q0
    ·rw [key _ (by omega)]; exact q1
    ·rw [key _ (by omega)]; exact q2
    ·rw [key _ (by omega)]; exact q3
structure Cut (w wr : World) (t mb L i n : Nat) (a : Option Addr) (cap : Nat) (items : List It) : Prop where
 num : NumOf wr mb (L - i) (outI items n i)
 gr : w.grownBy wr (some mb)
theorem Cut.blk {w wr : World} {t mb i n cap : Nat} {a : Option Addr} {items : List It} (h : TabR w t a items.length cap mb items) (c : Cut w wr t mb items.length i n a cap items) : wr.heap[t]? = some (.cells #[tbV t,.slice a items.length cap,.map (some mb)] 205 (0,0)) ∧ wr.ownsRow 0 162 4 (.slice a items.length cap) items.length (encI items) := by
 obtain ⟨es,cl,hmap⟩ := h.num.isMap
 have hmt : t ≠ mb := fun e => by rw [← e,h.blk] at hmap; cases hmap
 have hnm : (Value.slice a items.length cap).ownBlock ≠ some mb := q4b h.row hmap (fun cs e => by cases e)
 have st : ∀ k,k < w.heap.size → k ≠ mb → wr.heap[k]? = w.heap[k]? := fun k hk hne => c.gr.block k hk (fun e => hne (by injection e))
 exact ⟨(st t (Array.getElem?_eq_some_iff.1 h.blk).1 hmt).trans h.blk,qs h.row fun k hk => st k (qR h.row k hk) (fun e => hnm (e ▸ hk))⟩
theorem qfn {w wr : World} {F : Nat → Prop} {t mb n cap : Nat} {a : Option Addr} {items : List It} (hI : TabI w F t items) (h : TabR w t a items.length cap mb items) (hF : ∀ k,F k ↔ (k = t ∨ k = mb ∨ (Value.slice a items.length cap).ownBlock = some k)) (hn : n ≤ items.length)
  (c : Cut w wr t mb items.length (items.length - n) n a cap items) : TabI (wr.setCell ⟨t,1,none⟩ (.slice a n cap)) F t (items.take n) ∧ Fr w (wr.setCell ⟨t,1,none⟩ (.slice a n cap)) F F := by
 obtain ⟨h1,h2⟩ := c.blk h
 obtain ⟨es,cl,hmap⟩ := c.num.isMap
 have hmt : mb ≠ t := fun e => by rw [e,h1] at hmap; cases hmap
 have hne : (Value.slice a items.length cap).ownBlock ≠ some t := q4b h2 h1 (fun cs e => by injection e with _ e _; exact absurd e (by decide))
 have hlen : (items.take n).length = n := by simp; omega
 obtain ⟨a',cap',e,_,_,_,h4,h5⟩ := q4c h2 hn
 injection e with e1 _ e3
 subst e1 e3
 rw [qdn] at h4
 refine ⟨⟨hI.nd.sublist (List.take_sublist _ _),by have := hI.few; omega,fun x hx => hI.ok x (List.mem_of_mem_take hx),.slice a n cap,mb,?_,?_,?_,fun k => ?_⟩,?_⟩
 ·rw [heap_setCell_same wr t 1 _ _ _ h1]; rfl
 ·rw [hlen]
  refine qs h4 fun k hk => Below.heap_setCell _ _ _ _ ?_
  dsimp only
  rintro rfl
  rw [h5] at hk; exact hne hk
 ·rw [hlen]
  have := c.num
  rw [show items.length - (items.length - n) = n by omega] at this
  exact (this.far (Below.heap_setCell _ _ _ _ (by dsimp only; exact hmt))).alike fun y _ => qeN hI.nd hn y
 ·rw [h5]; exact hF k
 ·refine ⟨c.gr.os,c.gr.tape,c.gr.output,by have := c.gr.size; simpa using this,fun k hk hf => ?_,fun _ hk => Or.inl hk⟩
  have hf' := fun e => hf ((hF k).2 e)
  exact (Below.heap_setCell _ _ _ _ (by dsimp only; exact fun e => hf' (Or.inl e))).trans (c.gr.block k hk (fun e => hf' (Or.inr (Or.inl (by injection e)))))
theorem q9Z {w : World} {F : Nat → Prop} {t : Nat} {items : List It} (h : TabI w F t items) (n : Nat) (hn : n ≤ items.length) :
  Calls Tryz.prog 147 #[.pointer (some ⟨t,0,none⟩),.int .i64 (n : Int)] w fun e w' => e = .returned (.tuple #[]) ∧ TabI w' F t (items.take n) ∧ Fr w w' F F := by
 obtain ⟨a,cap,mb,hr,hF⟩ := h.read
 have c1 := hr.c1
 obtain ⟨a',hcut,hat⟩ := qga hr.row rfl hn
 have hpre := fun w' => pre_n (P := Tryz.prog) Tryz.underlying122 q1v a items.length cap n hn hr.hc hr.nn w'
 have HR : Hid _ := hr
 have HF : Hid _ := hF
 have HI : Hid _ := h
 have HAT : Hid _ := hat
 have HC0 : Hid (Cut w w t mb items.length 0 n a cap items) := ⟨hr.num.alike fun y _ => qdP items n y,⟨rfl,rfl,rfl,Nat.le_refl _,fun _ _ _ => rfl⟩⟩
 have HN : Hid (n ≤ items.length) := hn
 have hfew := h.few
 clear h hr hF hat hn
 generalize hL : items.length = L at *
 have HL : Hid (items.length = L) := hL
 clear hL
 go_enter Tryz.func147,Tryz.ntmps147
 go_wp2
 go_loopw [13] (fun i wr => ∃ k : Nat,k ≤ L - n ∧ i = .int .i64 k ∧ Hid (Cut w wr t mb L k n a cap items)) (fun i _ => (L - n) - (intOf i).toNat)
 case atStart => exact ⟨0,Nat.zero_le _,rfl,HC0⟩
 case round =>
  obtain ⟨k,hk,rfl,HC⟩ := hrel
  clear HC0 c1
  by_cases hlt : k < L - n
  ·have hkl : n + k < items.length := by have := HL.out; omega
   have hx : items[n + k]? = some items[n + k] := List.getElem?_eq_getElem hkl
   have HX : Hid (ItOk items[n + k]) := HI.out.ok _ (List.getElem_mem hkl)
   have HTH : Hid ((outI items n k items[n + k]).isSome = true) := qd3 HI.out.nd hkl
   have HNX : Hid (∀ y,(if y = items[n + k] then none else outI items n k y) = outI items n (k + 1) y) := fun y => qdO HI.out.nd hkl y
   obtain ⟨g,o,hio,hcs⟩ := HAT.out k _ hx
   have HB : Hid _ := (show Cut w wr t mb items.length k n a cap items by rw [HL.out]; exact HC.out).blk (by rw [HL.out]; exact HR.out)
   rw [HL.out] at HB
   obtain ⟨q0,q1,q2,q3⟩ := hcs wr HB.out.2
   generalize items[n + k] = x at *
   obtain ⟨op,p,xa,xb⟩ := x
   dsimp only at q0 q1 q2 q3
   clear hx hkl hcs
   have hb1 := qd wr (.cells #[.int .u8 (op : Int),.int .u8 (p : Int),.int .i64 xa,.int .i64 xb] 162)
   have c2 : (wr.alloc (.cells #[.int .u8 (op : Int),.int .u8 (p : Int),.int .i64 xa,.int .i64 xb] 162)).cell? ⟨t,2,none⟩ = some (.map (some mb)) := qn (qb HB.out.1 2) hb1
   have hnum : NumOf (wr.alloc (.cells #[.int .u8 (op : Int),.int .u8 (p : Int),.int .i64 xa,.int .i64 xb] 162)).drew mb (L - k) (outI items n k) := HC.out.num.far (hb1.block mb HC.out.num.lt)
   have HGR : Hid (w.grownBy (wr.alloc (.cells #[.int .u8 (op : Int),.int .u8 (p : Int),.int .i64 xa,.int .i64 xb] 162)).drew (some mb)) := ⟨HC.out.gr.os,HC.out.gr.tape,HC.out.gr.output,by have := HC.out.gr.size; simp; omega,fun j hj hne => (hb1.block j (by have := HC.out.gr.size; omega)).trans (HC.out.gr.block j hj hne)⟩
   clear hb1 HB HC
   go_wp2
   go_upto_region 15 with fail
   go_region_law ((refine q8e rfl _ _ rfl mb (L - k) (outI items n k) ⟨op,p,xa,xb⟩ rfl rfl hnum HX.out HTH.out ?_; intro w6 hn6 hg6))
   all_goals
    have HC6 : Hid (Cut w w6 t mb L (k + 1) n a cap items) := by
     refine ⟨?_,⟨hg6.os.trans HGR.out.os,hg6.tape.trans HGR.out.tape,hg6.output.trans HGR.out.output,Nat.le_trans HGR.out.size hg6.size,fun j hj hne => (hg6.block j (Nat.lt_of_lt_of_le hj HGR.out.size) hne).trans (HGR.out.block j hj hne)⟩⟩
     rw [show L - (k + 1) = L - k - 1 by omega]
     exact hn6.alike fun y _ => HNX.out y
    clear hnum c2 hn6 hg6 HGR
    go_wp2
    go_roundw
    case rel => exact ⟨k + 1,by omega,by go_num,HC6⟩
    case measure => simp [intOf] <;> omega
  ·obtain rfl : k = L - n := by omega
   have HC' : Hid (Cut w wr t mb items.length (items.length - n) n a cap items) := by show Cut _ _ _ _ _ _ _ _ _ _; rw [HL.out]; exact HC.out
   have HR' : Hid (TabR w t a items.length cap mb items) := by show TabR _ _ _ _ _ _ _; rw [HL.out]; exact HR.out
   have hb := HC'.out.blk HR'.out
   rw [HL.out] at hb
   have c1 : wr.cell? ⟨t,1,none⟩ = some (.slice a L cap) := qb hb.1 1
   have z1 : wr.frozen? ⟨t,1,none⟩ = false := frozen_of_row wr _ 1 _ _ hb.1
   have HFIN : Hid _ := qfn HI.out HR'.out (by rw [HL.out]; exact HF.out) (by rw [HL.out]; exact HN.out) HC'.out
   clear hb HC'
   go_wp2
   go_end0
   exact ⟨rfl,HFIN.out⟩
def TabB (t bx : Nat) (w : World) (G : Nat → Prop) (items : List It) : Prop :=
 ∃ F,TabI w F t items ∧ w.heap[bx]? = some (.cells #[tbV t] 178 (0,0)) ∧ ¬ F bx ∧ ∀ k,G k ↔ (F k ∨ k = bx)
theorem TabB.lt {t bx : Nat} {w : World} {G : Nat → Prop} {items : List It} (h : TabB t bx w G items) : (∀ k,G k → k < w.heap.size) ∧ items.length ≤ 4096 := by
 obtain ⟨F,h1,h2,_,h4⟩ := h
 refine ⟨fun k hk => ?_,h1.few⟩
 rcases (h4 k).1 hk with hk | rfl
 ·exact h1.lt k hk
 ·exact (Array.getElem?_eq_some_iff.1 h2).1
theorem TabB.far {t bx : Nat} {w w' : World} {G : Nat → Prop} {items : List It} (h : TabB t bx w G items) (hb : ∀ k,G k → w'.heap[k]? = w.heap[k]?) : TabB t bx w' G items := by
 obtain ⟨F,h1,h2,h3,h4⟩ := h
 exact ⟨F,h1.far (fun k hk => hb k ((h4 k).2 (Or.inl hk))),(hb bx ((h4 bx).2 (Or.inr rfl))).trans h2,h3,h4⟩
theorem TabB.fr {t bx : Nat} {w w' : World} {F F' G : Nat → Prop} {items : List It} (h2 : w.heap[bx]? = some (.cells #[tbV t] 178 (0,0))) (h3 : ¬ F bx) (h4 : ∀ k,G k ↔ (F k ∨ k = bx)) (hT : TabI w' F' t items) (fr : Fr w w' F F') : ∃ G',TabB t bx w' G' items ∧ Fr w w' G G' := by
 have hl := (Array.getElem?_eq_some_iff.1 h2).1
 refine ⟨fun k => F' k ∨ k = bx,⟨F',hT,(fr.keep bx hl h3).trans h2,fr.out h3 hl,fun k => Iff.rfl⟩,⟨fr.os,fr.tape,fr.output,fr.size,fun k hk hg => fr.keep k hk (fun hf => hg ((h4 k).2 (Or.inl hf))),fun k hk => ?_⟩⟩
 rcases hk with hk | hk
 ·rcases fr.foot k hk with h | h
  ·exact Or.inl ((h4 k).2 (Or.inl h))
  ·exact Or.inr h
 ·exact Or.inl ((h4 k).2 (Or.inr hk))
def FindC (S : World → (Nat → Prop) → List It → Prop) (fd : Fnd) (fid bx : Nat) : Prop := ∀ (w : World) (G : Nat → Prop) (items : List It) (x : It),ItOk x → S w G items → Calls Tryz.prog fid #[itV x,.pointer (some ⟨bx,0,none⟩)] w fun e w' =>
 (∃ r,fd items x = some r ∧ e = .returned (.tuple #[.int .i64 (r.2 : Int),.bool true]) ∧ ∃ G',S w' G' r.1 ∧ Fr w w' G G') ∨ (fd items x = none ∧ e = .returned (.tuple #[.int .i64 0,.bool false]) ∧ ∃ G',S w' G' items ∧ Fr w w' G G')
theorem q79 (t bx : Nat) : FindC (TabB t bx) kpF 145 bx := by
 intro w G items x hx hS
 obtain ⟨F,h1,h2,h3,h4⟩ := hS
 obtain ⟨a,cap,mb,hr,_⟩ := h1.read
 have hb := qd w (itO x)
 have hr1 := hr.up hb
 have c1 := hr1.c1
 have c2 := hr1.c2
 have cb : (w.alloc (itO x)).cell? ⟨bx,0,none⟩ = some (.pointer (some ⟨t,0,none⟩)) := qn (qb h2 0) hb
 have hlk := fun m => (show NumOf ((w.alloc (itO x)).drewN m) mb items.length (posI items) from hr1.num).look hx
 have HFIN : Hid (∀ w',Below (w.alloc (itO x)).heap.size (w.alloc (itO x)) w' → ∃ G',TabB t bx w' G' items ∧ Fr w w' G G') := fun w' hw => TabB.fr h2 h3 h4 (h1.up (qe hb hw)) (Fr.same (qe hb hw))
 have HFIN2 : Hid (∀ (w1 w' : World) (F' : Nat → Prop),Below (w.alloc (itO x)).heap.size (w.alloc (itO x)) w1 → TabI w' F' t (items ++ [x]) → Fr w1 w' F F' → ∃ G',TabB t bx w' G' (items ++ [x]) ∧ Fr w w' G G') := fun w1 w' F' hw hT fr => by
  have hw1 := qe hb hw
  refine TabB.fr h2 h3 h4 hT ⟨fr.os.trans hw1.os,fr.tape.trans hw1.tape,fr.output.trans hw1.output,Nat.le_trans hw1.size fr.size,fun k hk hf => (fr.keep k (Nat.lt_of_lt_of_le hk hw1.size) hf).trans (hw1.block k hk),fun k hk => ?_⟩
  rcases fr.foot k hk with h | h
  ·exact Or.inl h
  ·exact Or.inr (Nat.le_trans hw1.size h)
 have HI : Hid (∀ w',Below (w.alloc (itO x)).heap.size (w.alloc (itO x)) w' → TabI w' F t items) := fun w' hw => h1.up (qe hb hw)
 have HX : Hid _ := hx
 clear h1 h2 h3 h4 hr hr1 hb hx
 cases hp : posI items x with
 | some j =>
  have HP : Hid (kpF items x = some (items,j)) := by
   show _ = _
   unfold kpF
   rw [show items.findIdx? (· = x) = some j from hp]
  rw [hp] at hlk
  clear hp HFIN2
  obtain ⟨op,p,xa,xb⟩ := x
  unfold itV at hlk
  unfold itO at c1 c2 cb HFIN hlk
  dsimp only [Option.getD,Option.isSome] at c1 c2 cb HFIN hlk
  unfold itV
  dsimp only
  go_enter Tryz.func145,Tryz.ntmps145
  go_upto_region 15 with fail
  go_quiet (fail)
  go_wp2
  go_ret2
  exact Or.inl ⟨_,HP.out,rfl,HFIN.out _ (below_drewN (Below.refl _ _) _)⟩
 | none =>
  rw [hp] at hlk
  by_cases hl : items.length = 4096
  ·have HP : Hid (kpF items x = none) := by
    show _ = _
    unfold kpF
    rw [show items.findIdx? (· = x) = none from hp]
    simp only
    rw [if_pos hl]
   have hl' : ((items.length : Int) == 4096) = true := by rw [beq_iff_eq]; omega
   clear hp hl
   obtain ⟨op,p,xa,xb⟩ := x
   unfold itV at hlk
   unfold itO at c1 c2 cb HFIN hlk
   dsimp only [Option.getD,Option.isSome] at c1 c2 cb HFIN hlk
   unfold itV
   dsimp only
   go_enter Tryz.func145,Tryz.ntmps145
   go_upto_region 15 with fail
   go_quiet (fail)
   go_wp2
   go_ret2
   exact Or.inr ⟨HP.out,rfl,HFIN.out _ (below_drewN (Below.refl _ _) _)⟩
  ·have HP : Hid (kpF items x = some (items ++ [x],items.length)) := by
    show _ = _
    unfold kpF
    rw [show items.findIdx? (· = x) = none from hp]
    simp only
    rw [if_neg hl]
   have hadd : ∀ w',Below (w.alloc (itO x)).heap.size (w.alloc (itO x)) w' → _ := fun w' hw => q9Y (HI.out w' hw) x HX.out (q1A.1 hp) (by have := (HI.out w' hw).few; omega)
   have hl' : ((items.length : Int) == 4096) = false := by rw [beq_eq_false_iff_ne]; omega
   clear hp hl HFIN
   obtain ⟨op,p,xa,xb⟩ := x
   unfold itV at hlk hadd
   unfold itO at c1 c2 cb HFIN2 hlk hadd
   dsimp only [Option.getD,Option.isSome] at c1 c2 cb HFIN2 hlk hadd
   unfold itV
   dsimp only
   go_enter Tryz.func145,Tryz.ntmps145
   go_upto_region 15 with fail
   go_quiet (fail)
   have hw1 := below_drewN (Below.refl (w.alloc (.cells #[.int .u8 (op : Int),.int .u8 (p : Int),.int .i64 xa,.int .i64 xb] 162)).heap.size (w.alloc (.cells #[.int .u8 (op : Int),.int .u8 (p : Int),.int .i64 xa,.int .i64 xb] 162))) nq
   have hadd1 := hadd _ hw1
   clear hadd
   go_wp2_with fail
   refine hadd1.mono ?_
   rintro e w2 ⟨rfl,F2,hT2,fr2⟩
   have HG : Hid _ := HFIN2.out _ _ _ hw1 hT2 fr2
   clear hadd1 hT2 fr2 hw1
   go_wp2
   go_ret2
   exact Or.inl ⟨_,HP.out,rfl,HG.out⟩
end Go.Proofs.YtailhklbmenaoaaGreatDoor
