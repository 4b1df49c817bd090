/- Texts of the proof, put together: what it uses. -/
import Derived.Deep.RegionHeld2
import Derived.Test.YtailhklbmenaoaaGreatDoorZ23
set_option maxRecDepth 100000
set_option maxHeartbeats 16000000
namespace Go.Proofs.YtailhklbmenaoaaGreatDoor
open Go.RowKit Go.Maps
abbrev ObjP := World → (Nat → Prop) → List It → Mt → Prop
structure ObjC (Obj : ObjP) : Prop where
 lt : ∀ {w F items M},Obj w F items M → ∀ k,F k → k < w.heap.size
 up : ∀ {w w' F items M},Obj w F items M → Below w.heap.size w w' → Obj w' F items M
def RetQ (Obj : ObjP) (w : World) (F : Nat → Prop) (items : List It) (M : Mt) (r : Rt) (e : Ending) (w' : World) : Prop :=
 ∃ F' items',Fr w w' F F' ∧ items <+: items' ∧ ((∃ (L : List Nat) (M' : Mt) (q : Option Addr) (d : Nat),r = some (L,M') ∧ e = .returned (.slice q L.length d) ∧ US w' F' q L.length d L ∧ Obj w' F' items' M') ∨ (r = none ∧ e = .panicked thrownP ∧ ∃ M',M <+: M' ∧ Obj w' F' items' M'))
theorem q4f {Obj : ObjP} (C : ObjC Obj) {w w' : World} {F : Nat → Prop} {items : List It} {M : Mt} (h : Obj w F items M) {l : List Nat} {e : Ending} (hn : NewL l w e w') : RetQ Obj w F items M (some (l,M)) e w' := by
 obtain ⟨q,d,rfl,hU,hb,hf⟩ := hn
 exact ⟨F,items,Fr.ofBelow hb,List.prefix_refl _,Or.inl ⟨l,M,q,d,rfl,rfl,⟨hU,fun k hk hF => by have := hf k hk; have := C.lt h _ hF; omega⟩,C.up h hb⟩⟩
theorem RetQ.after {Obj : ObjP} {w w1 w2 : World} {F F1 : Nat → Prop} {items items1 : List It} {M M1 : Mt} {r : Rt} {e : Ending} (fr : Fr w w1 F F1) (hi : items <+: items1) (hM : M <+: M1) (h : RetQ Obj w1 F1 items1 M1 r e w2) : RetQ Obj w F items M r e w2 := by
 obtain ⟨F',i',h1,h2,h3⟩ := h
 refine ⟨F',i',fr.trans h1,hi.trans h2,h3.imp id ?_⟩
 rintro ⟨a,b,M',c,d⟩
 exact ⟨a,b,M',hM.trans c,d⟩
theorem q5D {Obj : ObjP} (C : ObjC Obj) {w w' : World} {F : Nat → Prop} {items : List It} {M : Mt} (h : Obj w F items M) {r : Option (List Nat)} {e : Ending} (hn : TwoR r w e w') : RetQ Obj w F items M (r.map fun l => (l,M)) e w' := by
 obtain ⟨hb,⟨L,q,d,rfl,rfl,hU,hf⟩ | ⟨rfl,rfl⟩⟩ := hn
 ·exact ⟨F,items,Fr.ofBelow hb,List.prefix_refl _,Or.inl ⟨L,M,q,d,rfl,rfl,⟨hU,fun k hk hF => by have := hf k hk; have := C.lt h _ hF; omega⟩,C.up h hb⟩⟩
 ·exact ⟨F,items,Fr.ofBelow hb,List.prefix_refl _,Or.inr ⟨rfl,rfl,M,List.prefix_refl _,C.up h hb⟩⟩
structure LstH (L : List Nat) : Prop where
 sm : Sm L
 few : L.length ≤ 1024
def twF (and : Bool) : FuncId := if and then 125 else 126
theorem qF {Obj : ObjP} (C : ObjC Obj) (and : Bool) {w : World} {F : Nat → Prop} {items : List It} {M : Mt} (h : Obj w F items M) {a b : Option Addr} {c d : Nat} {l k : List Nat} (hA : US w F a l.length c l) (hB : US w F b k.length d k) (la : LstH l) (lb : LstH k) :
  Calls Tryz.prog (twF and) #[.slice a l.length c,.slice b k.length d] w (RetQ Obj w F items M (twoM and l k M)) := by
 cases and with
 | true => exact (q3W a l.length c l b k.length d k w hA.sl hB.sl la.sm lb.sm (Nat.le_trans la.few (by decide)) (Nat.le_trans lb.few (by decide))).mono fun e w' hq => q5D C h hq
 | false => exact (q3k a l.length c l b k.length d k w hA.sl hB.sl la.sm lb.sm (Nat.le_trans la.few (by decide)) (Nat.le_trans lb.few (by decide))).mono fun e w' hq => q5D C h hq
def NewE (w : World) (e : Ending) : Prop := ∀ q n d,e = .returned (.slice q n d) → ∀ k,k < n → w.heap.size ≤ (adOf q k).block
theorem q4B {w : World} {c : List PanicEntry} : NewE w (.panicked c) := fun q n d h => by cases h
theorem NewE.at {w w' : World} {e : Ending} (h : NewE w' e) (hs : w.heap.size ≤ w'.heap.size) : NewE w e := fun q n d he k hk => Nat.le_trans hs (h q n d he k hk)
theorem qco {w w' : World} {r : Option (List Nat)} {e : Ending} (hn : TwoR r w e w') : NewE w e := by
 obtain ⟨hb,⟨L,q,d,rfl,rfl,hU,hf⟩ | ⟨rfl,rfl⟩⟩ := hn
 ·intro q' n' d' h k hk
  injection h with h
  injection h with h1 h2 h3
  subst h1 h2 h3
  exact hf k hk
 ·exact fun q n d h => by cases h
theorem qcJ {Obj : ObjP} (C : ObjC Obj) (and : Bool) {w : World} {F : Nat → Prop} {items : List It} {M : Mt} (h : Obj w F items M) {a b : Option Addr} {c d : Nat} {l k : List Nat} (hA : US w F a l.length c l) (hB : US w F b k.length d k) (la : LstH l) (lb : LstH k) :
  Calls Tryz.prog (twF and) #[.slice a l.length c,.slice b k.length d] w (fun e w' => RetQ Obj w F items M (twoM and l k M) e w' ∧ NewE w e) := by
 cases and with
 | true => exact (q3W a l.length c l b k.length d k w hA.sl hB.sl la.sm lb.sm (Nat.le_trans la.few (by decide)) (Nat.le_trans lb.few (by decide))).mono fun e w' hq => ⟨q5D C h hq,qco hq⟩
 | false => exact (q3k a l.length c l b k.length d k w hA.sl hB.sl la.sm lb.sm (Nat.le_trans la.few (by decide)) (Nat.le_trans lb.few (by decide))).mono fun e w' hq => ⟨q5D C h hq,qco hq⟩
theorem q5C (T0 : Tr) (p : Nat) (vs : Value) : ObjC (fun w F items M => PgO T0 w F p vs items M) := ⟨fun h => h.lt,fun h hb => h.up hb⟩
def NeedQ (T0 : Tr) (p : Nat) (vs : Value) (S : Tr) : Prop := ∀ (w : World) (F : Nat → Prop) (items : List It) (M : Mt) (i : Nat),PgO T0 w F p vs items M → Rep items i S → Calls Tryz.prog 96 #[.pointer (some ⟨p,0,none⟩),.int .i64 (i : Int)] w (RetQ (fun w F items M => PgO T0 w F p vs items M) w F items M (needM S M))
theorem PgO.part {T0 : Tr} {w : World} {F : Nat → Prop} {p : Nat} {vs : Value} {items : List It} {M : Mt} (h : PgO T0 w F p vs items M) : ∃ G rest,PtO T0 w G p 128 rest items := by
 obtain ⟨G,mn,vm,met,hr,hF⟩ := h.ex
 exact ⟨G,_,hr.po⟩
theorem q81 {T0 : Tr} {p : Nat} {vs : Value} (op pp : Nat) (ho : op = 11 ∨ op = 12) (c d : Tr) (hT : KT (.bin (op,pp) c d)) (hc : NeedQ T0 p vs c) (hd : NeedQ T0 p vs d) : NeedQ T0 p vs (.bin (op,pp) c d) := by
 intro w F items M i h hi
 obtain ⟨kc,kd⟩ := qB hT (by omega)
 obtain ⟨m,l,hx,hm,hl⟩ : ∃ m l : Nat,items[i]? = some ⟨op,pp,(m : Int),(l : Int)⟩ ∧ Rep items m c ∧ Rep items l d := by cases hi with | bin h h1 h2 h3 h4 => exact ⟨_,_,h,h3,h4⟩
 obtain ⟨G,rest,hpo⟩ := h.part
 obtain ⟨a,n,cap,g,o,c0,hidx,x0,x1,x2,x3⟩ := hpo.at hx
 have hb := qd w (itO ⟨op,pp,(m : Int),(l : Int)⟩)
 have hbx := (MapKept.heap_alloc w (itO ⟨op,pp,(m : Int),(l : Int)⟩)).1
 have hO1 := h.up hb.drew
 have j1 := hc _ F items M m hO1 hm
 obtain ⟨r1,hr1⟩ : ∃ r,r = needM c M := ⟨_,rfl⟩
 rw [← hr1] at j1
 have HR1 : Hid (r1 = needM c M) := hr1
 have cells : ∀ w' : World,w'.heap[w.heap.size]? = some (itO ⟨op,pp,(m : Int),(l : Int)⟩) → w'.cell? ⟨w.heap.size,2,none⟩ = some (.int .i64 (m : Int)) ∧ w'.cell? ⟨w.heap.size,3,none⟩ = some (.int .i64 (l : Int)) := fun w' e => ⟨qb e 2,qb e 3⟩
 have hk0 := cells (w.alloc (itO ⟨op,pp,(m : Int),(l : Int)⟩)).drew hbx
 have hk00 := cells _ hbx
 have HCL : Hid _ := cells
 have HBX : Hid ((w.alloc (itO ⟨op,pp,(m : Int),(l : Int)⟩)).drew.heap[w.heap.size]? = some (itO ⟨op,pp,(m : Int),(l : Int)⟩)) := hbx
 have HNF : Hid (¬ F w.heap.size) := fun e => Nat.lt_irrefl _ (h.lt _ e)
 have HD : Hid (NeedQ T0 p vs d) := hd
 have HL : Hid (Rep items l d) := hl
 have HG : Hid (GoodM M) := h.good
 have HK : Hid (KT c ∧ KT d) := ⟨kc,kd⟩
 have HF0 : Hid (Fr w (w.alloc (itO ⟨op,pp,(m : Int),(l : Int)⟩)).drew F F) := Fr.ofBelow hb.drew
 obtain ⟨R,hR⟩ : ∃ R,R = needM (.bin (op,pp) c d) M := ⟨_,rfl⟩
 have HR : Hid (R = bindM (needM c M) fun a M1 => bindM (needM d M1) fun b M2 => twoM (op == 11) a b M2) := by show _ = _; rw [hR,needM,if_pos ho]
 rw [← hR]
 obtain ⟨Q,hQ⟩ : ∃ Q : Ending → World → Prop,Q = RetQ (fun w F items M => PgO T0 w F p vs items M) w F items M R := ⟨_,rfl⟩
 have HQ : Hid (∀ e w',RetQ (fun w F items M => PgO T0 w F p vs items M) w F items M R e w' → Q e w') := fun e w' h => by rw [hQ]; exact h
 rw [← hQ]
 have HO : Hid (PgO T0 w F p vs items M) := h
 clear h hi hT hc hd hx hm hl hpo hb hbx hO1 hr1 cells kc kd hR hQ
 have n0 : ((op : Int) == 0) = false := by rw [beq_eq_false_iff_ne]; omega
 have n1 : ((op : Int) == 1) = false := by rw [beq_eq_false_iff_ne]; omega
 rcases ho with ho | ho
 ·have n11 : ((op : Int) == 11) = true := by rw [beq_iff_eq]; omega
  have hob : (op == 11) = true := by simp [ho]
  rw [hob] at HR
  clear ho hob
  unfold itO at *
  dsimp only at *
  go_enter Tryz.func96,Tryz.ntmps96
  go_wp2_with fail
  go_region_held2 (fun w' => w'.cell? ⟨w.heap.size,2,none⟩ = some (.int .i64 (m : Int)) ∧ w'.cell? ⟨w.heap.size,3,none⟩ = some (.int .i64 (l : Int))) (first | exact hk0 | exact hk00 | assumption | fail) (first
   | (revert j1; intro j1; go_at_call 96; (with_reducible refine j1.mono ?_); rintro e w1 ⟨F1,i1,fr1,hp1,⟨L1,M1,q1,d1,hs1,rfl,hU1,hO2⟩ | ⟨hs1,rfl,M1,hpm,hO2⟩⟩; (case inr => exact ⟨rfl,HQ.out _ _ ⟨F1,i1,HF0.out.trans fr1,hp1,Or.inr ⟨by rw [HR.out,← HR1.out,hs1]; rfl,rfl,M1,hpm,hO2⟩⟩⟩); have hbk1 := qh HBX.out HNF.out fr1; have hk1 := HCL.out _ hbk1.1; have j2 := HD.out _ F1 i1 M1 l hO2 (HL.out.pre hp1); have ex1 := (qW c HG.out HK.out.1 (HR1.out.symm.trans hs1)).1; have nl1 := q1B c (HR1.out.symm.trans hs1))
   | (revert j2; intro j2; go_at_call 96; (with_reducible refine j2.mono ?_); rintro e w2 ⟨F2,i2,fr2,hp2,⟨L2,M2,q2,d2,hs2,rfl,hU2,hO3⟩ | ⟨hs2,rfl,M2,hpm,hO3⟩⟩; (case inr => exact ⟨rfl,HQ.out _ _ ⟨F2,i2,(HF0.out.trans fr1).trans fr2,hp1.trans hp2,Or.inr ⟨by rw [HR.out,← HR1.out,hs1]; show bindM (needM d M1) _ = none; rw [hs2]; rfl,rfl,M2,ex1.pre.trans hpm,hO3⟩⟩⟩); have hbk2 := qh hbk1.1 hbk1.2 fr2; have hk2 := HCL.out _ hbk2.1; have ex2 := (qW d ex1.good HK.out.2 hs2).1; have nl2 := q1B d hs2; have j3 := qF (q5C T0 p vs) true hO3 (hU1.fr fr2) hU2 ⟨qM ex1.bd ex1.good.few,nl1⟩ ⟨qM ex2.bd ex2.good.few,nl2⟩; unfold twF at j3; simp only [if_true] at j3)
   | (revert j3; intro j3; go_at_call 125; (with_reducible refine j3.mono ?_); rintro e w3 ⟨F3,i3,fr3,hp3,⟨L3,M3,q3,d3,hs3,rfl,hU3,hO4⟩ | ⟨hs3,rfl,M3,hpm,hO4⟩⟩; (case inr => exact ⟨rfl,HQ.out _ _ ⟨F3,i3,((HF0.out.trans fr1).trans fr2).trans fr3,(hp1.trans hp2).trans hp3,Or.inr ⟨by rw [HR.out,← HR1.out,hs1]; show bindM (needM d M1) _ = none; rw [hs2]; exact hs3,rfl,M3,(ex1.pre.trans ex2.pre).trans hpm,hO4⟩⟩⟩); have hk3 := HCL.out _ (qh hbk2.1 hbk2.2 fr3).1; have HE : Hid (Q (.returned (.slice q3 L3.length d3)) w3) := (HQ.out _ _ ⟨F3,i3,((HF0.out.trans fr1).trans fr2).trans fr3,(hp1.trans hp2).trans hp3,Or.inl ⟨L3,M3,q3,d3,by rw [HR.out,← HR1.out,hs1]; show bindM (needM d M1) _ = _; rw [hs2]; exact hs3,rfl,hU3,hO4⟩⟩))
   | fail)
  all_goals
   clear j1 j2 j3
   go_wp2
   exact HE.out
 ·have n11 : ((op : Int) == 11) = false := by rw [beq_eq_false_iff_ne]; omega
  have n12 : ((op : Int) == 12) = true := by rw [beq_iff_eq]; omega
  have hob : (op == 11) = false := by simp [ho]
  rw [hob] at HR
  clear ho hob
  unfold itO at *
  dsimp only at *
  go_enter Tryz.func96,Tryz.ntmps96
  go_wp2_with fail
  go_region_held2 (fun w' => w'.cell? ⟨w.heap.size,2,none⟩ = some (.int .i64 (m : Int)) ∧ w'.cell? ⟨w.heap.size,3,none⟩ = some (.int .i64 (l : Int))) (first | exact hk0 | exact hk00 | assumption | fail) (first
   | (revert j1; intro j1; go_at_call 96; (with_reducible refine j1.mono ?_); rintro e w1 ⟨F1,i1,fr1,hp1,⟨L1,M1,q1,d1,hs1,rfl,hU1,hO2⟩ | ⟨hs1,rfl,M1,hpm,hO2⟩⟩; (case inr => exact ⟨rfl,HQ.out _ _ ⟨F1,i1,HF0.out.trans fr1,hp1,Or.inr ⟨by rw [HR.out,← HR1.out,hs1]; rfl,rfl,M1,hpm,hO2⟩⟩⟩); have hbk1 := qh HBX.out HNF.out fr1; have hk1 := HCL.out _ hbk1.1; have j2 := HD.out _ F1 i1 M1 l hO2 (HL.out.pre hp1); have ex1 := (qW c HG.out HK.out.1 (HR1.out.symm.trans hs1)).1; have nl1 := q1B c (HR1.out.symm.trans hs1))
   | (revert j2; intro j2; go_at_call 96; (with_reducible refine j2.mono ?_); rintro e w2 ⟨F2,i2,fr2,hp2,⟨L2,M2,q2,d2,hs2,rfl,hU2,hO3⟩ | ⟨hs2,rfl,M2,hpm,hO3⟩⟩; (case inr => exact ⟨rfl,HQ.out _ _ ⟨F2,i2,(HF0.out.trans fr1).trans fr2,hp1.trans hp2,Or.inr ⟨by rw [HR.out,← HR1.out,hs1]; show bindM (needM d M1) _ = none; rw [hs2]; rfl,rfl,M2,ex1.pre.trans hpm,hO3⟩⟩⟩); have hbk2 := qh hbk1.1 hbk1.2 fr2; have hk2 := HCL.out _ hbk2.1; have ex2 := (qW d ex1.good HK.out.2 hs2).1; have nl2 := q1B d hs2; have j3 := qF (q5C T0 p vs) false hO3 (hU1.fr fr2) hU2 ⟨qM ex1.bd ex1.good.few,nl1⟩ ⟨qM ex2.bd ex2.good.few,nl2⟩; unfold twF at j3; simp only [Bool.false_eq_true,if_false] at j3)
   | (revert j3; intro j3; go_at_call 126; (with_reducible refine j3.mono ?_); rintro e w3 ⟨F3,i3,fr3,hp3,⟨L3,M3,q3,d3,hs3,rfl,hU3,hO4⟩ | ⟨hs3,rfl,M3,hpm,hO4⟩⟩; (case inr => exact ⟨rfl,HQ.out _ _ ⟨F3,i3,((HF0.out.trans fr1).trans fr2).trans fr3,(hp1.trans hp2).trans hp3,Or.inr ⟨by rw [HR.out,← HR1.out,hs1]; show bindM (needM d M1) _ = none; rw [hs2]; exact hs3,rfl,M3,(ex1.pre.trans ex2.pre).trans hpm,hO4⟩⟩⟩); have hk3 := HCL.out _ (qh hbk2.1 hbk2.2 fr3).1; have HE : Hid (Q (.returned (.slice q3 L3.length d3)) w3) := (HQ.out _ _ ⟨F3,i3,((HF0.out.trans fr1).trans fr2).trans fr3,(hp1.trans hp2).trans hp3,Or.inl ⟨L3,M3,q3,d3,by rw [HR.out,← HR1.out,hs1]; show bindM (needM d M1) _ = _; rw [hs2]; exact hs3,rfl,hU3,hO4⟩⟩))
   | fail)
  all_goals
   clear j1 j2 j3
   go_wp2
   exact HE.out
theorem q82 {T0 : Tr} {p : Nat} {vs : Value} {w : World} {F : Nat → Prop} {items : List It} {M : Mt} (i op pp : Nat) (xa xb : Int) (S : Tr) (h : PgO T0 w F p vs items M) (hx : items[i]? = some ⟨op,pp,xa,xb⟩) (ho : op = 0 ∨ op = 1) (hs : needM S M = some (yesM (op == 0),M)) :
  Calls Tryz.prog 96 #[.pointer (some ⟨p,0,none⟩),.int .i64 (i : Int)] w (RetQ (fun w F items M => PgO T0 w F p vs items M) w F items M (needM S M)) := by
 obtain ⟨G,rest,hpo⟩ := h.part
 obtain ⟨a,n,cap,g,o,c0,hidx,x0,x1,x2,x3⟩ := hpo.at hx
 have hb := qd w (itO ⟨op,pp,xa,xb⟩)
 obtain ⟨Q,hQ⟩ : ∃ Q : Ending → World → Prop,Q = RetQ (fun w F items M => PgO T0 w F p vs items M) w F items M (needM S M) := ⟨_,rfl⟩
 have HQ : Hid (∀ e w',RetQ (fun w F items M => PgO T0 w F p vs items M) w F items M (needM S M) e w' → Q e w') := fun e w' h => by rw [hQ]; exact h
 rw [← hQ]
 have HF0 : Hid (Fr w (w.alloc (itO ⟨op,pp,xa,xb⟩)) F F) := Fr.ofBelow hb
 have HN : Hid (∀ l e w',NewL l (w.alloc (itO ⟨op,pp,xa,xb⟩)) e w' → l = yesM (op == 0) → Q e w') := fun l e w' hn hl => HQ.out e w' (by rw [hs,← hl]; exact (q4f (q5C T0 p vs) (h.up hb) hn).after HF0.out (List.prefix_refl _) (List.prefix_refl _))
 have jj := q1N (w.alloc (itO ⟨op,pp,xa,xb⟩))
 clear h hx hpo hb hQ HQ hs HF0
 rcases ho with rfl | rfl
 ·unfold itO at *
  dsimp only at *
  go_enter Tryz.func96,Tryz.ntmps96
  go_wp2_with fail
  refine jj.mono ?_
  rintro e w1 ⟨q,C,rfl,hU,hbb,hf⟩
  have HE : Hid (Q (.returned (.slice q [0].length C)) w1) := HN.out [0] _ _ ⟨q,C,rfl,hU,hbb,hf⟩ rfl
  clear jj hU hbb hf
  go_wp2
  exact HE.out
 ·have HE : Hid (Q (.returned (.slice none 0 0)) (w.alloc (itO ⟨1,pp,xa,xb⟩))) := HN.out [] _ _ (q3u _ _ (Below.refl _ _)) rfl
  unfold itO at *
  dsimp only at *
  clear jj
  go_enter Tryz.func96,Tryz.ntmps96
  go_wp2
  exact HE.out
theorem qaB (n : Nat) (w : World) : NewL [2 ^ n] w (.returned (.slice (some ⟨w.heap.size,0,none⟩) 1 1)) (w.alloc (.cells #[.int .u64 ((2 ^ n : Nat) : Int)] 55)) :=
 ⟨_,1,rfl,q3l [2 ^ n] w (by simp),qd _ _,fun k hk => by simp [adOf,qi]⟩
theorem q2v {T0 : Tr} {p : Nat} {vs : Value} {w : World} {F : Nat → Prop} {items : List It} {M : Mt} (i op pp : Nat) (xa xb : Int) (S : Tr) (h : PgO T0 w F p vs items M) (hx : items[i]? = some ⟨op,pp,xa,xb⟩) (ho : op ≠ 0 ∧ op ≠ 1 ∧ op ≠ 11 ∧ op ≠ 12) (hi : Rep items i S) (hS : InC T0 S) (kS : KT S) (hs : needM S M = meetM S.flat M) :
  Calls Tryz.prog 96 #[.pointer (some ⟨p,0,none⟩),.int .i64 (i : Int)] w (RetQ (fun w F items M => PgO T0 w F p vs items M) w F items M (needM S M)) := by
 obtain ⟨G,rest,hpo⟩ := h.part
 obtain ⟨a,n,cap,g,o,c0,hidx,x0,x1,x2,x3⟩ := hpo.at hx
 have hb := qd w (itO ⟨op,pp,xa,xb⟩)
 obtain ⟨Q,hQ⟩ : ∃ Q : Ending → World → Prop,Q = RetQ (fun w F items M => PgO T0 w F p vs items M) w F items M (needM S M) := ⟨_,rfl⟩
 have HQ : Hid (∀ e w',RetQ (fun w F items M => PgO T0 w F p vs items M) w F items M (needM S M) e w' → Q e w') := fun e w' h => by rw [hQ]; exact h
 rw [← hQ]
 have HF0 : Hid (Fr w (w.alloc (itO ⟨op,pp,xa,xb⟩)) F F) := Fr.ofBelow hb
 have jm := q80 (h.up hb) i S hi hS kS
 have n0 : ((op : Int) == 0) = false := by rw [beq_eq_false_iff_ne]; omega
 have n1 : ((op : Int) == 1) = false := by rw [beq_eq_false_iff_ne]; omega
 have n11 : ((op : Int) == 11) = false := by rw [beq_eq_false_iff_ne]; omega
 have n12 : ((op : Int) == 12) = false := by rw [beq_eq_false_iff_ne]; omega
 rw [hs] at HQ
 clear h hx hpo hb hQ hs ho hi hS kS
 unfold itO at *
 dsimp only at *
 go_enter Tryz.func96,Tryz.ntmps96
 go_wp2_with fail
 refine jm.mono ?_
 rintro e w1 ⟨F1,fr1,⟨k,M1,hm,hk,rfl,hO⟩ | ⟨hm,rfl,hO⟩⟩
 ·have HE : Hid (Q (.returned (.slice (some ⟨w1.heap.size,0,none⟩) 1 1)) (w1.alloc (.cells #[.int .u64 ((2 ^ k : Nat) : Int)] 55))) := HQ.out _ _ (by
   rw [hm]
   obtain ⟨F2,i2,f2,p2,h2⟩ := q4f (q5C T0 p vs) hO (qaB k w1)
   refine ⟨F2,i2,(HF0.out.trans fr1).trans f2,p2,Or.inl ?_⟩
   rcases h2 with ⟨L,M',q,d,e,h3⟩ | ⟨e,_⟩
   ·exact ⟨L,M',q,d,e,h3⟩
   ·cases e)
  have hpw : IntKind.u64.wrap (2 ^ k) = ((2 ^ k : Nat) : Int) := by
   have : (2 : Nat) ^ k < 2 ^ 64 := Nat.pow_lt_pow_right (by decide) hk
   rw [IntKind.wrap_u64,show ((2 : Int) ^ k) = ((2 ^ k : Nat) : Int) by simp]
   generalize 2 ^ k = y at this ⊢
   omega
  have HPW : Hid _ := hpw
  clear jm hm fr1 hO hpw
  go_wp2
  have e := HPW.out
  rw [e]
  exact HE.out
 ·exact ⟨rfl,HQ.out _ _ ⟨F1,items,HF0.out.trans fr1,List.prefix_refl _,Or.inr ⟨hm,rfl,M,List.prefix_refl _,hO⟩⟩⟩
theorem q1Y {T0 : Tr} {p : Nat} {vs : Value} : ∀ (S : Tr),KT S → InC T0 S → NeedQ T0 p vs S
 | .leaf (op,pp),kS,hS => by
  intro w F items M i h hi
  have hx : items[i]? = some ⟨op,pp,-1,-1⟩ := by cases hi with | leaf h => exact h
  by_cases ho : op = 0 ∨ op = 1
  ·refine q82 i op pp (-1) (-1) _ h hx ho ?_
   unfold needM
   rcases ho with rfl | rfl
   ·rfl
   ·rfl
  ·have h4 : op ≠ 0 ∧ op ≠ 1 ∧ op ≠ 11 ∧ op ≠ 12 := by rcases q1F kS with ⟨rfl,_⟩ | ⟨_,hh⟩ <;> omega
   refine q2v i op pp (-1) (-1) _ h hx h4 hi hS kS ?_
   unfold needM
   rw [if_neg (by dsimp only; omega),if_neg (by dsimp only; omega)]
 | .un (op,pp) c,kS,hS => by
  intro w F items M i h hi
  obtain ⟨m,hx⟩ : ∃ m : Nat,items[i]? = some ⟨op,pp,(m : Int),-1⟩ := by cases hi with | un h h1 h2 => exact ⟨_,h⟩
  have h4 : op ≠ 0 ∧ op ≠ 1 ∧ op ≠ 11 ∧ op ≠ 12 := by rcases kt_un kS with ⟨_,⟨rfl,_⟩ | ⟨hh,_⟩⟩ <;> omega
  exact q2v i op pp (m : Int) (-1) _ h hx h4 hi hS kS rfl
 | .bin (op,pp) c d,kS,hS => by
  by_cases ho : op = 11 ∨ op = 12
  ·obtain ⟨kc,kd⟩ := qB kS (by omega)
   obtain ⟨ic,id,_⟩ := qci hS
   exact q81 op pp ho c d kS (q1Y c kc ic) (q1Y d kd id)
  ·intro w F items M i h hi
   obtain ⟨m,l,hx⟩ : ∃ m l : Nat,items[i]? = some ⟨op,pp,(m : Int),(l : Int)⟩ := by cases hi with | bin h h1 h2 h3 h4 => exact ⟨_,_,h⟩
   obtain ⟨_,hh⟩ := q1t kS
   refine q2v i op pp (m : Int) (l : Int) _ h hx (by omega) hi hS kS ?_
   rw [needM,if_neg ho]
def anyElem (v : Value) : Option (DataW Value × List MemPlace) := some (.held v,[])
def klN (i : Nat) : Lit := .int .i64 (i : Int)
theorem q57 : Keyed Tryz.prog 3 := int_keyed Tryz.underlying3
theorem q6R (i : Nat) (h : i ≤ 100000000) : keyOf Tryz.prog 3 (.int .i64 (i : Int)) = some (klN i) := keyOf_int_mk Tryz.underlying3 (WalkArith.wf_i64 (by omega))
theorem qfJ {x y : Nat} (h : klN x = klN y) : x = y := by
 injection h with _ h
 omega
theorem q8t (i : Nat) : WideAt.IsKeyLit (klN i) := trivial
def MemM (w : World) (b : Nat) (ks : List Nat) (f : Nat → Option Value) : Prop :=
 ∃ D : DataW Value,w.ownsMap Tryz.prog 3 anyElem b ks.length D ∧ Tidy D ∧ Maps.size D = ks.length ∧ ks.Nodup ∧ (∀ i,(f i).isSome = true ↔ i ∈ ks) ∧ ∀ i,i ≤ 100000000 → has D (klN i) = (f i).isSome ∧ ∀ v,f i = some v → D.atKey (klN i) (.held (.slice none 0 0)) = .held v
theorem MemM.lt {w : World} {b : Nat} {ks : List Nat} {f : Nat → Option Value} (h : MemM w b ks f) : b < w.heap.size := by
 obtain ⟨D,h,_⟩ := h; exact h.lt
theorem MemM.far {w w' : World} {b : Nat} {ks : List Nat} {f : Nat → Option Value} (h : MemM w b ks f) (hb : w'.heap[b]? = w.heap[b]?) : MemM w' b ks f := by
 obtain ⟨D,⟨es,clock,h1,h2⟩,r⟩ := h
 exact ⟨D,⟨es,clock,hb.trans h1,h2⟩,r⟩
theorem MemM.isMap {w : World} {b : Nat} {ks : List Nat} {f : Nat → Option Value} (h : MemM w b ks f) : ∃ es c,w.heap[b]? = some (.map es c) := by
 obtain ⟨D,⟨es,clock,h1,h2⟩,r⟩ := h
 exact ⟨es,clock,h1⟩
theorem qbd (w : World) : MemM (w.alloc (.map #[] 0)) w.heap.size [] (fun _ => none) :=
 ⟨.map [],World.ownsMap_made _ _ _ _,tidy_empty,rfl,by simp,fun i => by simp,fun i _ => ⟨rfl,fun v hv => by cases hv⟩⟩
theorem qaP (w : World) : (zeroValue 46).run Tryz.prog w = .ok (.slice none 0 0) w := by kernel_rfl
theorem MemM.look {w : World} {b : Nat} {ks : List Nat} {f : Nat → Option Value} (h : MemM w b ks f) {i : Nat} (hi : i ≤ 100000000) :
  (Instr.lookup 189 (.map (some b)) (.int .i64 (i : Int)) true).run Tryz.prog w = .ok (.tuple #[(f i).getD (.slice none 0 0),.bool (f i).isSome]) w := by
 obtain ⟨D,h1,h2,_,h3,_,h4⟩ := h
 obtain ⟨hh,ha⟩ := h4 i hi
 obtain ⟨v,ps,hrun,hv⟩ := h1.look_ok q57 Tryz.underlying189 (qaP w) (zd := .held (.slice none 0 0)) (zp := []) rfl (q6R i hi)
 have hc : D.atKey (klN i) (.held (.slice none 0 0)) = .held v := by
  unfold anyElem at hv
  injection hv with hv
  injection hv with hv _
  exact hv.symm
 rw [hrun,hh]
 cases hf : f i with
 | none =>
  rw [hf] at hh
  rw [atKey_of_not_has hh] at hc
  injection hc with hc
  subst hc
  rfl
 | some u =>
  rw [ha u hf] at hc
  injection hc with hc
  subst hc
  rfl
def addK (ks : List Nat) (i : Nat) : List Nat := if i ∈ ks then ks else i :: ks
theorem MemM.put {w : World} {b : Nat} {ks : List Nat} {f : Nat → Option Value} (h : MemM w b ks f) (hn : ks.length ≤ 100000000) {i : Nat} (hi : i ≤ 100000000) (v : Value) :
  ∃ w',(Instr.mapUpdate 189 (.map (some b)) (.int .i64 (i : Int)) v).run Tryz.prog w = .ok () w' ∧ MemM w' b (addK ks i) (fun y => if y = i then some v else f y) ∧ w.grownBy w' (some b) := by
 obtain ⟨D,h1,h2,h6,h3,h5,h4⟩ := h
 obtain ⟨w',hrun,hown,hg⟩ := h1.update q57 Tryz.underlying189 (by unfold maxLen; omega) (q6R i hi) (val := v) (d := .held v) (ps := []) rfl
 have hsz : Maps.size (D.put (klN i) (.held v)) = (addK ks i).length := by
  rw [size_put h2,(h4 i hi).1,h6]
  unfold addK
  by_cases hm : i ∈ ks
  ·rw [if_pos hm,(h5 i).2 hm]; rfl
  ·have : (f i).isSome = false := by
    cases hq : (f i).isSome with
    | false => rfl
    | true => exact absurd ((h5 i).1 hq) hm
   rw [if_neg hm,this]; rfl
 have hown' : w'.ownsMap Tryz.prog 3 anyElem b (addK ks i).length (D.put (klN i) (.held v)) := by
  obtain ⟨es,clock,g1,g2,g3,g4⟩ := hown
  refine ⟨es,clock,g1,g2,?_,g4⟩
  rw [← hsz,g4]
  simp [Maps.size,length_sorted]
 refine ⟨w',hrun,⟨_,hown',h2.put (q8t i) _,hsz,?_,fun y => ?_,fun y hy => ?_⟩,hg⟩
 ·unfold addK
  by_cases hm : i ∈ ks
  ·rw [if_pos hm]; exact h3
  ·rw [if_neg hm]; exact List.nodup_cons.2 ⟨hm,h3⟩
 ·dsimp only
  unfold addK
  by_cases e : y = i
  ·subst e
   by_cases hm : y ∈ ks
   ·rw [if_pos rfl,if_pos hm]; simp [hm]
   ·rw [if_pos rfl,if_neg hm]; simp
  ·rw [if_neg e,h5 y]
   by_cases hm : i ∈ ks
   ·rw [if_pos hm]
   ·rw [if_neg hm]; simp [e]
 ·dsimp only
  by_cases e : y = i
  ·subst e
   rw [if_pos rfl]
   refine ⟨has_put_same h2.isMap (q8t y) _,fun u hu => ?_⟩
   injection hu with hu
   subst hu
   exact atKey_put_same h2.isMap (q8t y) _ _
  ·have ne : klN y ≠ klN i := fun he => e (qfJ he)
   rw [if_neg e,has_put_other ne]
   refine ⟨(h4 y hy).1,fun u hu => ?_⟩
   rw [atKey_put_other ne]
   exact (h4 y hy).2 u hu
def EntersF (F : FuncId) : Prop := ∀ args w,(callFunc F args).run Tryz.prog w = .ok (.enter F args) w
theorem q41 (b i fid : Nat) (u v : Value) (w : World) (hlook : (Instr.lookup 189 (.map (some b)) (.int .i64 (i : Int)) true).run Tryz.prog w = .ok (.tuple #[v,.bool true]) w) :
  Calls Tryz.prog 167 #[.map (some b),.int .i64 (i : Int),.func (.func fid) #[u] #[]] w fun e w' => e = .returned v ∧ w' = w := by
 go_enter Tryz.func167,Tryz.ntmps167
 go_wp2
 go_ret
 exact ⟨rfl,rfl⟩
theorem q3F (b i fid : Nat) (u : Value) (w : World) (Q : Ending → World → Prop) (hE : EntersF fid) (hlook : (Instr.lookup 189 (.map (some b)) (.int .i64 (i : Int)) true).run Tryz.prog w = .ok (.tuple #[.slice none 0 0,.bool false]) w)
  (jw : Calls Tryz.prog fid #[u,.int .i64 (i : Int)] w fun e w' => (∃ v w'',e = .returned v ∧ (Instr.mapUpdate 189 (.map (some b)) (.int .i64 (i : Int)) v).run Tryz.prog w' = .ok () w'' ∧ Q (.returned v) w'') ∨ (e = .panicked thrownP ∧ Q (.panicked thrownP) w')) :
  Calls Tryz.prog 167 #[.map (some b),.int .i64 (i : Int),.func (.func fid) #[u] #[]] w Q := by
 unfold EntersF at hE
 go_enter Tryz.func167,Tryz.ntmps167
 go_wp2_with fail
 refine jw.mono ?_
 rintro e w1 (⟨v,w2,rfl,hrun,hq⟩ | ⟨rfl,hq⟩)
 ·have HQ : Hid _ := hq
  clear jw hq
  go_wp2
  exact HQ.out
 ·exact ⟨rfl,hq⟩
def Told (w : World) (F : Nat → Prop) (items : List It) (M : Mt) (g : Tr → Mt → Rt) (i : Nat) (v : Value) : Prop :=
 ∃ (a : Option Addr) (c : Nat) (l : List Nat) (S : Tr),v = .slice a l.length c ∧ US w F a l.length c l ∧ LstH l ∧ Rep items i S ∧ ∀ M2,M <+: M2 → g S M2 = some (l,M2)
theorem Told.go {w w' : World} {F F' : Nat → Prop} {items items' : List It} {M M' : Mt} {g : Tr → Mt → Rt} {i : Nat} {v : Value} (h : Told w F items M g i v) (fr : Fr w w' F F') (hi : items <+: items') (hM : M <+: M') : Told w' F' items' M' g i v := by
 obtain ⟨a,c,l,S,h1,h2,h3,h4,h5⟩ := h
 exact ⟨a,c,l,S,h1,h2.fr fr,h3,h4.pre hi,fun M2 h => h5 M2 (hM.trans h)⟩
structure RdR (T0 : Tr) (p : Nat) (vs : Value) (x bn bl : Nat) (w : World) (F F1 : Nat → Prop) (items : List It) (M : Mt) (kn kl : List Nat) (fn fl : Nat → Option Value) : Prop where
 pg : PgO T0 w F1 p vs items M
 mn : MemM w bn kn fn
 ml : MemM w bl kl fl
 ne : bn ≠ bl
 nn : ¬ F1 bn
 nl : ¬ F1 bl
 ff : ∀ k,F k ↔ (F1 k ∨ k = bn ∨ k = bl)
 tn : ∀ i v,fn i = some v → Told w F items M needM i v
 tl : ∀ i v,fl i = some v → Told w F items M (fun S => aftC S x) i v
def RdO (T0 : Tr) (p : Nat) (vs : Value) (x bn bl : Nat) : ObjP := fun w F items M => ∃ F1 kn kl fn fl,RdR T0 p vs x bn bl w F F1 items M kn kl fn fl
theorem RdR.lt {T0 : Tr} {p : Nat} {vs : Value} {x bn bl : Nat} {w : World} {F F1 : Nat → Prop} {items : List It} {M : Mt} {kn kl : List Nat} {fn fl : Nat → Option Value} (h : RdR T0 p vs x bn bl w F F1 items M kn kl fn fl) : ∀ k,F k → k < w.heap.size := fun k hk => by
 rcases (h.ff k).1 hk with e | e | e
 ·exact h.pg.lt k e
 ·rw [e]; exact h.mn.lt
 ·rw [e]; exact h.ml.lt
theorem RdR.up {T0 : Tr} {p : Nat} {vs : Value} {x bn bl : Nat} {w w' : World} {F F1 : Nat → Prop} {items : List It} {M : Mt} {kn kl : List Nat} {fn fl : Nat → Option Value} (h : RdR T0 p vs x bn bl w F F1 items M kn kl fn fl) (hb : Below w.heap.size w w') : RdR T0 p vs x bn bl w' F F1 items M kn kl fn fl :=
 ⟨h.pg.up hb,h.mn.far (hb.block _ h.mn.lt),h.ml.far (hb.block _ h.ml.lt),h.ne,h.nn,h.nl,h.ff,fun i v hv => (h.tn i v hv).go (Fr.ofBelow hb) (List.prefix_refl _) (List.prefix_refl _),fun i v hv => (h.tl i v hv).go (Fr.ofBelow hb) (List.prefix_refl _) (List.prefix_refl _)⟩
theorem qp (T0 : Tr) (p : Nat) (vs : Value) (x bn bl : Nat) : ObjC (RdO T0 p vs x bn bl) :=
 ⟨fun ⟨_,_,_,_,_,h⟩ => h.lt,fun ⟨F1,kn,kl,fn,fl,h⟩ hb => ⟨F1,kn,kl,fn,fl,h.up hb⟩⟩
theorem RdR.prog {T0 : Tr} {p : Nat} {vs : Value} {x bn bl : Nat} {w w' : World} {F F1 F1' : Nat → Prop} {items items' : List It} {M M' : Mt} {kn kl : List Nat} {fn fl : Nat → Option Value} (h : RdR T0 p vs x bn bl w F F1 items M kn kl fn fl) (hp : PgO T0 w' F1' p vs items' M') (fr : Fr w w' F1 F1') (hi : items <+: items') (hM : M <+: M') :
  RdR T0 p vs x bn bl w' (fun k => F1' k ∨ k = bn ∨ k = bl) F1' items' M' kn kl fn fl ∧ Fr w w' F (fun k => F1' k ∨ k = bn ∨ k = bl) := by
 have fr2 : Fr w w' F (fun k => F1' k ∨ k = bn ∨ k = bl) := ⟨fr.os,fr.tape,fr.output,fr.size,fun k hk hF => fr.keep k hk fun e => hF ((h.ff k).2 (Or.inl e)),fun k hk => by
  rcases hk with e | e | e
  ·exact (fr.foot k e).imp (fun e => (h.ff k).2 (Or.inl e)) id
  ·exact Or.inl ((h.ff k).2 (Or.inr (Or.inl e)))
  ·exact Or.inl ((h.ff k).2 (Or.inr (Or.inr e)))⟩
 exact ⟨⟨hp,h.mn.far (fr.keep _ h.mn.lt h.nn),h.ml.far (fr.keep _ h.ml.lt h.nl),h.ne,fr.out h.nn h.mn.lt,fr.out h.nl h.ml.lt,fun k => Iff.rfl,fun i v hv => (h.tn i v hv).go fr2 hi hM,fun i v hv => (h.tl i v hv).go fr2 hi hM⟩,fr2⟩
theorem qb9 {items : List It} {ks : List Nat} (hn : ks.Nodup) (h : ∀ i ∈ ks,i < items.length) : ks.length ≤ items.length := by
 have := q6s (m := List.range items.length) hn fun i hi => List.mem_range.2 (h i hi)
 simpa using this
section
variable {T0 : Tr} {p : Nat} {vs : Value} {x bn bl : Nat} {w w' : World} {F F1 : Nat → Prop} {items : List It} {M : Mt} {kn kl kn' : List Nat} {fn fl fn' : Nat → Option Value}
theorem RdR.putN (h : RdR T0 p vs x bn bl w F F1 items M kn kl fn fl) (hm : MemM w' bn kn' fn') (hg : w.grownBy w' (some bn)) (ht : ∀ i v,fn' i = some v → Told w F items M needM i v) : RdR T0 p vs x bn bl w' F F1 items M kn' kl fn' fl ∧ Fr w w' F F := by
 have st : ∀ k,k < w.heap.size → k ≠ bn → w'.heap[k]? = w.heap[k]? := fun k hk hne => hg.block k hk (fun e => hne (by injection e))
 have fr : Fr w w' F F := ⟨hg.os,hg.tape,hg.output,hg.size,fun k hk hF => st k hk fun e => hF ((h.ff k).2 (Or.inr (Or.inl e))),fun _ hk => Or.inl hk⟩
 exact ⟨⟨h.pg.far fun k hk => st k (h.pg.lt k hk) (fun e => h.nn (e ▸ hk)),hm,h.ml.far (st bl h.ml.lt (fun e => h.ne e.symm)),h.ne,h.nn,h.nl,h.ff,fun i v hv => (ht i v hv).go fr (List.prefix_refl _) (List.prefix_refl _),fun i v hv => (h.tl i v hv).go fr (List.prefix_refl _) (List.prefix_refl _)⟩,fr⟩
theorem RdR.putL (h : RdR T0 p vs x bn bl w F F1 items M kn kl fn fl) (hm : MemM w' bl kn' fn') (hg : w.grownBy w' (some bl)) (ht : ∀ i v,fn' i = some v → Told w F items M (fun S => aftC S x) i v) : RdR T0 p vs x bn bl w' F F1 items M kn kn' fn fn' ∧ Fr w w' F F := by
 have st : ∀ k,k < w.heap.size → k ≠ bl → w'.heap[k]? = w.heap[k]? := fun k hk hne => hg.block k hk (fun e => hne (by injection e))
 have fr : Fr w w' F F := ⟨hg.os,hg.tape,hg.output,hg.size,fun k hk hF => st k hk fun e => hF ((h.ff k).2 (Or.inr (Or.inr e))),fun _ hk => Or.inl hk⟩
 exact ⟨⟨h.pg.far fun k hk => st k (h.pg.lt k hk) (fun e => h.nl (e ▸ hk)),h.mn.far (st bn h.mn.lt h.ne),hm,h.ne,h.nn,h.nl,h.ff,fun i v hv => (h.tn i v hv).go fr (List.prefix_refl _) (List.prefix_refl _),fun i v hv => (ht i v hv).go fr (List.prefix_refl _) (List.prefix_refl _)⟩,fr⟩
theorem RdR.small (h : RdR T0 p vs x bn bl w F F1 items M kn kl fn fl) : items.length ≤ 20000000 ∧ kn.length ≤ 20000000 ∧ kl.length ≤ 20000000 := by
 obtain ⟨G,rest,hpo⟩ := h.pg.part
 have hf := hpo.few
 obtain ⟨D,_,_,_,nd1,k1,_⟩ := h.mn
 obtain ⟨D2,_,_,_,nd2,k2,_⟩ := h.ml
 have a := qb9 (items := items) nd1 fun i hi => by
  obtain ⟨v,hv⟩ := Option.isSome_iff_exists.1 ((k1 i).2 hi)
  obtain ⟨_,_,_,_,_,_,_,hr,_⟩ := h.tn i v hv
  exact hr.lt
 have b := qb9 (items := items) nd2 fun i hi => by
  obtain ⟨v,hv⟩ := Option.isSome_iff_exists.1 ((k2 i).2 hi)
  obtain ⟨_,_,_,_,_,_,_,hr,_⟩ := h.tl i v hv
  exact hr.lt
 omega
end
theorem q9u : EntersF 96 := fun _ _ => rfl
theorem q6I : EntersF 168 := fun _ _ => rfl
theorem qeI {S : Tr} {M M' : Mt} {L : List Nat} (hM : GoodM M) (hS : KT S) (h : needM S M = some (L,M')) : LstH L ∧ M <+: M' := by
 have ex := (qW S hM hS h).1
 exact ⟨⟨qM ex.bd ex.good.few,q1B S h⟩,ex.pre⟩
theorem qS {T0 : Tr} {p : Nat} {vs : Value} {x bn bl : Nat} {w : World} {F : Nat → Prop} {items : List It} {M : Mt} (h : RdO T0 p vs x bn bl w F items M) (i : Nat) (S : Tr) (hi : Rep items i S) (kS : KT S) (hS : InC T0 S) :
  Calls Tryz.prog 176 #[rdV p x bn bl,.int .i64 (i : Int)] w (RetQ (RdO T0 p vs x bn bl) w F items M (needM S M)) := by
 obtain ⟨F1,kn,kl,fn,fl,hr⟩ := h
 have hb := qd w (rdO p x bn bl)
 have hr1 := hr.up hb
 have hbx := (MapKept.heap_alloc w (rdO p x bn bl)).1
 have hsm := hr.small
 have hil := hi.lt
 have hlk := hr1.mn.look (i := i) (by omega)
 have jj : Calls Tryz.prog 167 #[.map (some bn),.int .i64 (i : Int),.func (.func 96) #[.pointer (some ⟨p,0,none⟩)] #[]] (w.alloc (rdO p x bn bl)) (RetQ (RdO T0 p vs x bn bl) w F items M (needM S M)) := by
  cases hf : fn i with
  | some v =>
   rw [hf] at hlk
   obtain ⟨a,c,l,S',rfl,hU,hl,hrep,hag⟩ := hr1.tn i v hf
   have e := Rep.tree hrep hi
   subst e
   refine (q41 bn i _ _ _ _ hlk).mono ?_
   rintro e w' ⟨rfl,rfl⟩
   exact ⟨F,items,Fr.ofBelow hb,List.prefix_refl _,Or.inl ⟨l,M,a,c,hag M (List.prefix_refl _),rfl,hU,F1,kn,kl,fn,fl,hr1⟩⟩
  | none =>
   rw [hf] at hlk
   refine q3F bn i _ _ _ _ q9u hlk ?_
   refine (q1Y S kS hS _ F1 items M i hr1.pg hi).mono ?_
   rintro e w1 ⟨F1',i1,fr1,hp1,⟨L,M1,q,d,hs,rfl,hU,hO⟩ | ⟨hs,rfl,M1,hM1,hO⟩⟩
   ·obtain ⟨hL,hpre⟩ := qeI hr.pg.good kS hs
    obtain ⟨hr2,fr2⟩ := hr1.prog hO fr1 hp1 hpre
    obtain ⟨w2,hrun,hm2,hg2⟩ := hr2.mn.put (by have := hr2.small; omega) (i := i) (by omega) (.slice q L.length d)
    have hU2 : US w1 (fun k => F1' k ∨ k = bn ∨ k = bl) q L.length d L := ⟨hU.sl,fun k hk hF => by
     rcases hF with e | e | e
     ·exact hU.nf k hk e
     ·have hc := hU.sl.cell k hk
      obtain ⟨es,cl,hmap⟩ := hr2.mn.isMap
      rw [← e] at hmap
      unfold World.cell? at hc
      rw [hmap] at hc
      simp at hc
     ·have hc := hU.sl.cell k hk
      obtain ⟨es,cl,hmap⟩ := hr2.ml.isMap
      rw [← e] at hmap
      unfold World.cell? at hc
      rw [hmap] at hc
      simp at hc⟩
    obtain ⟨hr3,fr3⟩ := hr2.putN hm2 hg2 fun y v hv => by
     by_cases e : y = i
     ·subst e
      simp at hv
      subst hv
      exact ⟨q,d,L,S,rfl,hU2,hL,hi.pre hp1,fun M2 h2 => (q1m S M L M1 hs).2 M2 h2⟩
     ·simp [e] at hv
      exact hr2.tn y v hv
    exact Or.inl ⟨_,w2,rfl,hrun,_,i1,((Fr.ofBelow hb).trans fr2).trans fr3,hp1,Or.inl ⟨L,M1,q,d,hs,rfl,hU2.fr fr3,_,_,_,_,_,hr3⟩⟩
   ·obtain ⟨hr2,fr2⟩ := hr1.prog hO fr1 hp1 hM1
    exact Or.inr ⟨rfl,_,i1,(Fr.ofBelow hb).trans fr2,hp1,Or.inr ⟨hs,rfl,M1,hM1,_,_,_,_,_,hr2⟩⟩
 have b0 : (w.alloc (rdO p x bn bl)).cell? ⟨w.heap.size,0,none⟩ = some (.pointer (some ⟨p,0,none⟩)) := qb hbx 0
 have b2 : (w.alloc (rdO p x bn bl)).cell? ⟨w.heap.size,2,none⟩ = some (.map (some bn)) := qb hbx 2
 generalize needM S M = r at *
 clear hr hr1 hb hbx hsm hil hlk hi kS hS
 obtain ⟨Q,hQ⟩ : ∃ Q : Ending → World → Prop,Q = RetQ (RdO T0 p vs x bn bl) w F items M r := ⟨_,rfl⟩
 rw [← hQ]
 have HQ : Hid (Q = RetQ (RdO T0 p vs x bn bl) w F items M r) := hQ
 clear hQ
 unfold rdO rdV at *
 go_enter Tryz.func176,Tryz.ntmps176
 go_wp2_with fail
 refine jj.mono ?_
 intro e w1 hq
 have hq' := hq
 obtain ⟨F',i',_,_,⟨L,M',q,d,_,rfl,_⟩ | ⟨_,rfl,_⟩⟩ := hq'
 ·have HE : Hid (Q (.returned (.slice q L.length d)) w1) := by show Q _ _; rw [HQ.out]; exact hq
  clear jj hq
  go_wp2
  exact HE.out
 ·refine ⟨rfl,?_⟩
  rw [HQ.out]; exact hq
theorem q8L (b : Bool) : (yesM b).length ≤ 1024 := by cases b <;> decide
theorem q6p (x : Nat) : ∀ n,(∀ T M L M',aftM n T x M = some (L,M') → L.length ≤ 1024) ∧ (∀ box r s f M L M',pthM n box r s f x M = some (L,M') → L.length ≤ 1024)
 | 0 => ⟨fun T M L M' h => (by rw [qH] at h; cases h),fun box r s f M L M' h => (by rw [q15] at h; cases h)⟩
 | n + 1 => by
  obtain ⟨ih,jh⟩ := q6p x n
  refine ⟨fun T M L M' h => ?_,fun box r s f M L M' h => ?_⟩
  ·match T,h with
   | .leaf k,h =>
    rw [qD] at h
    injection h with h; injection h with h1 _; subst h1; exact q8L _
   | .un k c,h =>
    rw [qJ] at h
    split at h
    ·injection h with h; injection h with h1 _; subst h1; exact q8L _
    ·split at h
     ·obtain ⟨_,_,_,h2⟩ := qf h
      obtain ⟨_,_,_,h3⟩ := qf h2
      exact q1Q h3
     ·obtain ⟨_,_,_,h2⟩ := qf h
      obtain ⟨_,_,_,h3⟩ := qf h2
      exact q1Q h3
   | .bin k c d,h =>
    rw [qw] at h
    split at h
    ·obtain ⟨_,_,_,h2⟩ := qf h
     obtain ⟨_,_,_,h3⟩ := qf h2
     exact q1Q h3
    ·split at h
     ·obtain ⟨_,_,_,h2⟩ := qf h
      obtain ⟨_,_,_,h3⟩ := qf h2
      obtain ⟨_,_,_,h4⟩ := qf h3
      obtain ⟨_,_,_,h5⟩ := qf h4
      exact q1Q h5
     ·obtain ⟨_,_,_,h2⟩ := qf h
      exact jh _ _ _ _ _ _ _ h2
  ·match r,h with
   | .leaf k,h => rw [q12] at h; cases h
   | .un k c,h =>
    rw [qT] at h
    split at h
    ·split at h
     ·exact q1B f h
     ·injection h with h; injection h with h1 _; subst h1; exact q8L _
    ·split at h
     ·obtain ⟨_,_,_,h2⟩ := qf h
      exact q1Q h2
     ·obtain ⟨_,_,_,h2⟩ := qf h
      exact q1Q h2
   | .bin k c d,h =>
    rw [qP] at h
    split at h
    ·obtain ⟨_,_,_,h2⟩ := qf h
     obtain ⟨_,_,_,h3⟩ := qf h2
     exact q1Q h3
    ·obtain ⟨_,_,_,h2⟩ := qf h
     exact jh _ _ _ _ _ _ _ h2
def LvQ (T0 : Tr) (p : Nat) (vs : Value) (x bn bl : Nat) (f : FuncId) (S : Tr) : Prop := ∀ (w : World) (F : Nat → Prop) (items : List It) (M : Mt) (i : Nat),RdO T0 p vs x bn bl w F items M → Rep items i S → Calls Tryz.prog f #[rdV p x bn bl,.int .i64 (i : Int)] w (RetQ (RdO T0 p vs x bn bl) w F items M (aftC S x M))
theorem q7W {T0 : Tr} {p : Nat} {vs : Value} {x bn bl : Nat} {S : Tr} (kS : KT S) (hlv : LvQ T0 p vs x bn bl 168 S) (hlen : ∀ M L M',GoodM M → aftC S x M = some (L,M') → LstH L ∧ M <+: M') : LvQ T0 p vs x bn bl 155 S := by
 intro w F items M i h hi
 obtain ⟨F1,kn,kl,fn,fl,hr⟩ := h
 have hb := qd w (rdO p x bn bl)
 have hr1 := hr.up hb
 have hbx := (MapKept.heap_alloc w (rdO p x bn bl)).1
 have hsm := hr.small
 have hil := hi.lt
 have hlk := hr1.ml.look (i := i) (by omega)
 have jj : Calls Tryz.prog 167 #[.map (some bl),.int .i64 (i : Int),.func (.func 168) #[rdV p x bn bl] #[]] (w.alloc (rdO p x bn bl)) (RetQ (RdO T0 p vs x bn bl) w F items M (aftC S x M)) := by
  cases hf : fl i with
  | some v =>
   rw [hf] at hlk
   obtain ⟨a,c,l,S',rfl,hU,hl,hrep,hag⟩ := hr1.tl i v hf
   have e := Rep.tree hrep hi
   subst e
   refine (q41 bl i _ _ _ _ hlk).mono ?_
   rintro e w' ⟨rfl,rfl⟩
   exact ⟨F,items,Fr.ofBelow hb,List.prefix_refl _,Or.inl ⟨l,M,a,c,hag M (List.prefix_refl _),rfl,hU,F1,kn,kl,fn,fl,hr1⟩⟩
  | none =>
   rw [hf] at hlk
   refine q3F bl i _ _ _ _ q6I hlk ?_
   refine (hlv _ F items M i ⟨F1,kn,kl,fn,fl,hr1⟩ hi).mono ?_
   rintro e w1 ⟨F',i1,fr1,hp1,⟨L,M1,q,d,hs,rfl,hU,F2,kn2,kl2,fn2,fl2,hr2⟩ | ⟨hs,rfl,M1,hM1,hO⟩⟩
   ·obtain ⟨hL,hpre⟩ := hlen M L M1 hr.pg.good hs
    obtain ⟨w2,hrun,hm2,hg2⟩ := hr2.ml.put (by have := hr2.small; omega) (i := i) (by omega) (.slice q L.length d)
    obtain ⟨hr3,fr3⟩ := hr2.putL hm2 hg2 fun y v hv => by
     by_cases e : y = i
     ·subst e
      simp at hv
      subst hv
      exact ⟨q,d,L,S,rfl,hU,hL,hi.pre hp1,fun M2 h2 => (qdc S x M L M1 hs).2 M2 h2⟩
     ·simp [e] at hv
      exact hr2.tl y v hv
    exact Or.inl ⟨_,w2,rfl,hrun,_,i1,((Fr.ofBelow hb).trans fr1).trans fr3,hp1,Or.inl ⟨L,M1,q,d,hs,rfl,hU.fr fr3,_,_,_,_,_,hr3⟩⟩
   ·exact Or.inr ⟨rfl,F',i1,(Fr.ofBelow hb).trans fr1,hp1,Or.inr ⟨hs,rfl,M1,hM1,hO⟩⟩
 have b0 : (w.alloc (rdO p x bn bl)).cell? ⟨w.heap.size,0,none⟩ = some (.pointer (some ⟨p,0,none⟩)) := qb hbx 0
 have b1 : (w.alloc (rdO p x bn bl)).cell? ⟨w.heap.size,1,none⟩ = some (.int .u8 (x : Int)) := qb hbx 1
 have b2 : (w.alloc (rdO p x bn bl)).cell? ⟨w.heap.size,2,none⟩ = some (.map (some bn)) := qb hbx 2
 have b3 : (w.alloc (rdO p x bn bl)).cell? ⟨w.heap.size,3,none⟩ = some (.map (some bl)) := qb hbx 3
 generalize aftC S x M = r at *
 clear hr hr1 hb hbx hsm hil hlk hi kS hlv hlen
 obtain ⟨Q,hQ⟩ : ∃ Q : Ending → World → Prop,Q = RetQ (RdO T0 p vs x bn bl) w F items M r := ⟨_,rfl⟩
 rw [← hQ]
 have HQ : Hid (Q = RetQ (RdO T0 p vs x bn bl) w F items M r) := hQ
 clear hQ
 unfold rdO rdV at *
 go_enter Tryz.func155,Tryz.ntmps155
 go_wp2_with fail
 refine jj.mono ?_
 intro e w1 hq
 have hq' := hq
 obtain ⟨F',i',_,_,⟨L,M',q,d,_,rfl,_⟩ | ⟨_,rfl,_⟩⟩ := hq'
 ·have HE : Hid (Q (.returned (.slice q L.length d)) w1) := by show Q _ _; rw [HQ.out]; exact hq
  clear jj hq
  go_wp2
  exact HE.out
 ·refine ⟨rfl,?_⟩
  rw [HQ.out]; exact hq
structure LG (M : Mt) (L : List Nat) (M' : Mt) : Prop where
 bd : BdL L M'.length
 len : L.length ≤ 1024
 pre : M <+: M'
 good : GoodM M'
theorem LG.lst {M M' : Mt} {L : List Nat} (h : LG M L M') : LstH L := ⟨qM h.bd h.good.few,h.len⟩
theorem q3b {S : Tr} {M M' : Mt} {L : List Nat} (hM : GoodM M) (kS : KT S) (h : needM S M = some (L,M')) : LG M L M' := by
 have ex := (qW S hM kS h).1
 exact ⟨ex.bd,q1B S h,ex.pre,ex.good⟩
theorem q1r {S : Tr} {x : Nat} {M M' : Mt} {L : List Nat} (hM : GoodM M) (kS : KT S) (h : aftC S x M = some (L,M')) : LG M L M' := by
 have ex := ((q1Z (hgt S)).1 S x M M' L hM kS h).1
 exact ⟨ex.bd,(q6p x (hgt S)).1 S M L M' h,ex.pre,ex.good⟩
theorem q2Z {box : Bool} {r f : Tr} {s : List Nat} {x : Nat} {M M' : Mt} {L : List Nat} (hM : GoodM M) (kr : KP r) (kf : KT f) (hs : BdL s M.length) (h : pthC box r s f x M = some (L,M')) : LG M L M' := by
 have ex := ((q1Z (hgt r)).2 box r f s x M M' L hM kr kf hs h).1
 exact ⟨ex.bd,(q6p x (hgt r)).2 box r s f M L M' h,ex.pre,ex.good⟩
theorem q7A {and : Bool} {a b : List Nat} {M M' : Mt} {l : List Nat} (hM : GoodM M) (ha : BdL a M.length) (hb : BdL b M.length) (h : twoM and a b M = some (l,M')) : LG M l M' := by
 have e := (qr h).1
 have hl := q1Q h
 have hbd := q3z h ha hb
 subst e
 exact ⟨hbd,hl,List.prefix_refl _,hM⟩
theorem LG.mono {M M' M'' : Mt} {L : List Nat} (h : LG M L M') (hp : M' <+: M'') : BdL L M''.length := h.bd.mono hp.length_le
structure MidR (T0 : Tr) (p : Nat) (vs : Value) (x bn bl : Nat) (w : World) (F : Nat → Prop) (items : List It) (M : Mt) (B : Nat) (o : Obj) (wj : World) (Fj : Nat → Prop) (ij : List It) (Mj : Mt) : Prop where
 obj : RdO T0 p vs x bn bl wj Fj ij Mj
 fr : Fr w wj F Fj
 hi : items <+: ij
 hM : M <+: Mj
 good : GoodM Mj
 rb : wj.heap[B]? = some (rdO p x bn bl)
 rn : ¬ Fj B
 xb : wj.heap[B + 1]? = some o
 xn : ¬ Fj (B + 1)
section
variable {T0 : Tr} {p : Nat} {vs : Value} {x bn bl : Nat} {w : World} {F : Nat → Prop} {items : List It} {M : Mt} {B : Nat} {o : Obj} {wj wk : World} {Fj Fk : Nat → Prop} {ij ik : List It} {Mj Mk : Mt}
theorem MidR.step (h : MidR T0 p vs x bn bl w F items M B o wj Fj ij Mj) (fr : Fr wj wk Fj Fk) (hp : ij <+: ik) (hO : RdO T0 p vs x bn bl wk Fk ik Mk) (hm : Mj <+: Mk) (hg : GoodM Mk) : MidR T0 p vs x bn bl w F items M B o wk Fk ik Mk :=
 ⟨hO,h.fr.trans fr,h.hi.trans hp,h.hM.trans hm,hg,(qh h.rb h.rn fr).1,(qh h.rb h.rn fr).2,(qh h.xb h.xn fr).1,(qh h.xb h.xn fr).2⟩
theorem MidR.bad (h : MidR T0 p vs x bn bl w F items M B o wj Fj ij Mj) {R : Rt} (hR : R = none) (fr : Fr wj wk Fj Fk) (hp : ij <+: ik) (hm : Mj <+: Mk) (hO : RdO T0 p vs x bn bl wk Fk ik Mk) : RetQ (RdO T0 p vs x bn bl) w F items M R (.panicked thrownP) wk :=
 ⟨Fk,ik,h.fr.trans fr,h.hi.trans hp,Or.inr ⟨hR,rfl,Mk,h.hM.trans hm,hO⟩⟩
theorem MidR.fin (h : MidR T0 p vs x bn bl w F items M B o wj Fj ij Mj) {R : Rt} {L : List Nat} {q : Option Addr} {d : Nat} (hR : R = some (L,Mk)) (fr : Fr wj wk Fj Fk) (hp : ij <+: ik) (hU : US wk Fk q L.length d L) (hO : RdO T0 p vs x bn bl wk Fk ik Mk) : RetQ (RdO T0 p vs x bn bl) w F items M R (.returned (.slice q L.length d)) wk :=
 ⟨Fk,ik,h.fr.trans fr,h.hi.trans hp,Or.inl ⟨L,Mk,q,d,hR,rfl,hU,hO⟩⟩
def MidS (p x bn bl B : Nat) (xa xb : Int) (w' : World) : Prop := (w'.cell? ⟨B,0,none⟩ = some (.pointer (some ⟨p,0,none⟩)) ∧ w'.cell? ⟨B,1,none⟩ = some (.int .u8 (x : Int)) ∧ w'.cell? ⟨B,2,none⟩ = some (.map (some bn)) ∧ w'.cell? ⟨B,3,none⟩ = some (.map (some bl))) ∧ w'.cell? ⟨B + 1,2,none⟩ = some (.int .i64 xa) ∧ w'.cell? ⟨B + 1,3,none⟩ = some (.int .i64 xb)
theorem MidR.cells {op pp : Nat} {xa xb : Int} (h : MidR T0 p vs x bn bl w F items M B (itO ⟨op,pp,xa,xb⟩) wj Fj ij Mj) : MidS p x bn bl B xa xb wj := ⟨⟨qb h.rb 0,qb h.rb 1,qb h.rb 2,qb h.rb 3⟩,qb h.xb 2,qb h.xb 3⟩
end
def boxW (w : World) (p x bn bl op pp : Nat) (xa xb : Int) : World := ((w.alloc (rdO p x bn bl)).alloc (itO ⟨op,pp,xa,xb⟩))
theorem qI {T0 : Tr} {p : Nat} {vs : Value} {x bn bl : Nat} {w : World} {F : Nat → Prop} {items : List It} {M : Mt} (h : RdO T0 p vs x bn bl w F items M) (op pp : Nat) (xa xb : Int) :
  MidR T0 p vs x bn bl w F items M w.heap.size (itO ⟨op,pp,xa,xb⟩) (boxW w p x bn bl op pp xa xb).drew F items M ∧ MidR T0 p vs x bn bl w F items M w.heap.size (itO ⟨op,pp,xa,xb⟩) (boxW w p x bn bl op pp xa xb) F items M := by
 have hb1 := qd w (rdO p x bn bl)
 have hb2 := qd (w.alloc (rdO p x bn bl)) (itO ⟨op,pp,xa,xb⟩)
 have hb : Below w.heap.size w (boxW w p x bn bl op pp xa xb) := qe hb1 hb2
 have hz : (w.alloc (rdO p x bn bl)).heap.size = w.heap.size + 1 := by simp
 have hg : GoodM M := by obtain ⟨_,_,_,_,_,hr⟩ := h; exact hr.pg.good
 have hlt := (qp T0 p vs x bn bl).lt h
 have r1 : (boxW w p x bn bl op pp xa xb).heap[w.heap.size]? = some (rdO p x bn bl) := (hb2.block _ (by omega)).trans (MapKept.heap_alloc w _).1
 have r2 : (boxW w p x bn bl op pp xa xb).heap[w.heap.size + 1]? = some (itO ⟨op,pp,xa,xb⟩) := by
  have := (MapKept.heap_alloc (w.alloc (rdO p x bn bl)) (itO ⟨op,pp,xa,xb⟩)).1
  rw [hz] at this
  exact this
 have n1 : ¬ F w.heap.size := fun e => by have := hlt _ e; omega
 have n2 : ¬ F (w.heap.size + 1) := fun e => by have := hlt _ e; omega
 exact ⟨⟨(qp T0 p vs x bn bl).up h hb.drew,Fr.ofBelow hb.drew,List.prefix_refl _,List.prefix_refl _,hg,r1,n1,r2,n2⟩,⟨(qp T0 p vs x bn bl).up h hb,Fr.ofBelow hb,List.prefix_refl _,List.prefix_refl _,hg,r1,n1,r2,n2⟩⟩
def KeptQ (T0 : Tr) (p : Nat) (vs : Value) (x bn bl : Nat) (w : World) (F : Nat → Prop) (items : List It) (M : Mt) (S : Tr) (e : Ending) (w' : World) : Prop :=
 ∃ (j : Nat) (items' : List It) (F' : Nat → Prop),e = .returned (.int .i64 (j : Int)) ∧ items <+: items' ∧ Rep items' j S ∧ Fr w w' F F' ∧ RdO T0 p vs x bn bl w' F' items' M
theorem q2Q {T0 : Tr} {p : Nat} {vs : Value} {x bn bl : Nat} {w : World} {F : Nat → Prop} {items : List It} {M : Mt} {S : Tr} {f : FuncId} {args : Array Value} (h : RdO T0 p vs x bn bl w F items M)
  (hc : ∀ G rest,PtO T0 w G p 128 rest items → Calls Tryz.prog f args w (KeepR T0 w G p 128 rest items (IsN S))) : Calls Tryz.prog f args w (KeptQ T0 p vs x bn bl w F items M S) := by
 obtain ⟨F1,kn,kl,fn,fl,hr⟩ := h
 obtain ⟨G,mn,vm,met,hg,hF⟩ := hr.pg.ex
 refine (hc G _ hg.po).mono ?_
 rintro e w' ⟨j,rfl,i',G',hp,⟨m,rfl,hrep⟩,hpo,fr⟩
 obtain ⟨hg2,fr2⟩ := hg.part hpo hp fr
 have hpg : PgO T0 w' (FQ G' mn vm) p vs i' M := ⟨hr.pg.few,hr.pg.nd,hr.pg.of,G',mn,vm,met,hg2,fun k => Iff.rfl⟩
 obtain ⟨hr2,fr3⟩ := hr.prog hpg (fr2.alike (fun k hk => (hF k).2 hk) (fun k hk => hk)) hp (List.prefix_refl _)
 exact ⟨m,i',_,rfl,hp,hrep,fr3,_,_,_,_,_,hr2⟩
end Go.Proofs.YtailhklbmenaoaaGreatDoor
