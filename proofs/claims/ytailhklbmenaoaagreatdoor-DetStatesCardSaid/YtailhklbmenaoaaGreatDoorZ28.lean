/- Texts of the proof, put together: what it uses. -/
import Derived.Deep.RegionHeld2
import Derived.Test.YtailhklbmenaoaaGreatDoorZ23
import Derived.Test.YtailhklbmenaoaaGreatDoorZ27
set_option maxRecDepth 100000
set_option maxHeartbeats 16000000
namespace Go.Proofs.YtailhklbmenaoaaGreatDoor
open Go.RowKit Go.Maps
structure StV (w : World) (F : Nat → Prop) (p x : Nat) (a : Option Addr) (n c : Nat) (v : Value) (b0 b1 b2 b3 : Nat) : Prop where
 h0 : w.heap[b0]? = some (.cells #[.pointer (some ⟨p,0,none⟩)] 74 (0,0))
 h1 : w.heap[b1]? = some (.cells #[.slice a n c] 46 (0,0))
 h2 : w.heap[b2]? = some (.cells #[.int .u8 (x : Int)] 59 (0,0))
 h3 : w.heap[b3]? = some (.cells #[v] 46 (0,0))
 n0 : ¬ F b0
 n1 : ¬ F b1
 n2 : ¬ F b2
 n3 : ¬ F b3
 d13 : b1 ≠ b3
theorem StV.fr {w w' : World} {F F' : Nat → Prop} {p x : Nat} {a : Option Addr} {n c : Nat} {v : Value} {b0 b1 b2 b3 : Nat} (h : StV w F p x a n c v b0 b1 b2 b3) (fr : Fr w w' F F') : StV w' F' p x a n c v b0 b1 b2 b3 :=
 ⟨(qh h.h0 h.n0 fr).1,(qh h.h1 h.n1 fr).1,(qh h.h2 h.n2 fr).1,(qh h.h3 h.n3 fr).1,(qh h.h0 h.n0 fr).2,(qh h.h1 h.n1 fr).2,(qh h.h2 h.n2 fr).2,(qh h.h3 h.n3 fr).2,h.d13⟩
def StC (p x b0 b1 b2 : Nat) (a : Option Addr) (n c : Nat) (w' : World) : Prop := w'.cell? ⟨b0,0,none⟩ = some (.pointer (some ⟨p,0,none⟩)) ∧ w'.cell? ⟨b2,0,none⟩ = some (.int .u8 (x : Int)) ∧ w'.cell? ⟨b1,0,none⟩ = some (.slice a n c)
theorem StV.cells {w : World} {F : Nat → Prop} {p x : Nat} {a : Option Addr} {n c : Nat} {v : Value} {b0 b1 b2 b3 : Nat} (h : StV w F p x a n c v b0 b1 b2 b3) : StC p x b0 b1 b2 a n c w := ⟨qb h.h0 0,qb h.h2 0,qb h.h1 0⟩
theorem StV.set {w : World} {F : Nat → Prop} {p x : Nat} {a : Option Addr} {n c : Nat} {v : Value} {b0 b1 b2 b3 : Nat} (h : StV w F p x a n c v b0 b1 b2 b3) (u : Value) : StC p x b0 b1 b2 a n c (w.setCell ⟨b3,0,none⟩ u) := by
 have e0 : b0 ≠ b3 := fun e => by
  have := h.h0
  rw [e,h.h3] at this
  injection this with this
  injection this with _ this _
  exact absurd this (by decide)
 have e2 : b2 ≠ b3 := fun e => by
  have := h.h2
  rw [e,h.h3] at this
  injection this with this
  injection this with _ this _
  exact absurd this (by decide)
 exact ⟨qb ((Below.heap_setCell _ _ _ _ e0).trans h.h0) 0,qb ((Below.heap_setCell _ _ _ _ e2).trans h.h2) 0,qb ((Below.heap_setCell _ _ _ _ h.d13).trans h.h1) 0⟩
def StepQ (T0 : Tr) (p : Nat) (vs : Value) (w : World) (F : Nat → Prop) (items : List It) (M : Mt) (b3 : Nat) (R : Rt) (e : Ending) (w' : World) : Prop :=
 (e = .returned (.tuple #[]) ∧ ∃ (L : List Nat) (M' : Mt) (q : Option Addr) (d : Nat) (F' : Nat → Prop) (items' : List It),R = some (L,M') ∧ w'.heap[b3]? = some (.cells #[.slice q L.length d] 46 (0,0)) ∧ PgO T0 w' F' p vs items' M' ∧ US w' F' q L.length d L ∧ ¬ F' b3 ∧ items <+: items' ∧ M <+: M' ∧ Fr w w' (fun k => F k ∨ k = b3) F' ∧ ∀ k,k < L.length → w.heap.size ≤ (adOf q k).block) ∨
 (e = .panicked thrownP ∧ R = none ∧ ∃ (M' : Mt) (F' : Nat → Prop) (items' : List It),PgO T0 w' F' p vs items' M' ∧ ¬ F' b3 ∧ items <+: items' ∧ M <+: M' ∧ Fr w w' (fun k => F k ∨ k = b3) F' ∧ w'.heap[b3]? = w.heap[b3]?)
theorem qgT {w : World} {F : Nat → Prop} {a : Option Addr} {n c : Nat} {l : List Nat} {b : Nat} {T : TypeId} (h : US w F a n c l) (hb : w.heap[b]? = some (.cells #[.slice none 0 0] T (0,0))) : ∀ k,k < n → (adOf a k).block ≠ b := fun k hk e => by
 have hc := h.sl.cell k hk
 unfold World.cell? at hc
 rw [e,hb] at hc
 simp at hc
 match ho : (adOf a k).off,hc with
 | 0,hc => simp at hc
 | j + 1,hc => simp at hc
theorem qf2 {T0 : Tr} {p : Nat} {vs : Value} {x bn bl : Nat} {w w2 : World} {F F2 : Nat → Prop} {items i2 : List It} {M M2 : Mt} {b3 : Nat} {R : Rt} {L : List Nat} {q : Option Addr} {d : Nat} (hR : R = some (L,M2)) (h3 : w2.heap[b3]? = some (.cells #[.slice none 0 0] 46 (0,0))) (n3 : ¬ F2 b3) (fr : Fr w w2 F F2) (hp : items <+: i2) (hM : M <+: M2) (hU : US w2 F2 q L.length d L) (hO : RdO T0 p vs x bn bl w2 F2 i2 M2) (hnw : ∀ k,k < L.length → w.heap.size ≤ (adOf q k).block) :
  StepQ T0 p vs w F items M b3 R (.returned (.tuple #[])) (w2.setCell ⟨b3,0,none⟩ (.slice q L.length d)) := by
 obtain ⟨F1,kn,kl,fn,fl,hr⟩ := hO
 have st : ∀ k,k ≠ b3 → (w2.setCell ⟨b3,0,none⟩ (.slice q L.length d)).heap[k]? = w2.heap[k]? := fun k hk => Below.heap_setCell _ _ _ _ hk
 have hoff := qgT hU h3
 have hsub : ∀ k,F1 k → F2 k := fun k hk => (hr.ff k).2 (Or.inl hk)
 refine Or.inl ⟨rfl,L,M2,q,d,F1,i2,hR,?_,hr.pg.far fun k hk => st k (fun e => n3 (e ▸ hsub k hk)),⟨?_,fun k hk e => hU.nf k hk (hsub _ e)⟩,fun e => n3 (hsub _ e),hp,hM,?_,hnw⟩
 ·rw [heap_setCell_same w2 b3 0 _ _ _ h3]; rfl
 ·have hs := hU.sl
  refine ⟨hs.hlen,hs.hcap,hs.bd,hs.idx,fun k hk => ?_,fun k hk => by simp; exact hs.blk k hk,hs.nn⟩
  have := hs.cell k hk
  unfold World.cell? at this ⊢
  rw [st _ (hoff k hk)]
  exact this
 ·exact ⟨fr.os,fr.tape,fr.output,by simp; exact fr.size,fun k hk hF => (st k fun e => hF (Or.inr e)).trans (fr.keep k hk fun e => hF (Or.inl e)),fun k hk => (fr.foot k (hsub k hk)).imp Or.inl id⟩
theorem qf1 {T0 : Tr} {p : Nat} {vs : Value} {x bn bl : Nat} {w w2 : World} {F F2 : Nat → Prop} {items i2 : List It} {M M2 : Mt} {b3 : Nat} {R : Rt} (hR : R = none) (h3 : w2.heap[b3]? = w.heap[b3]?) (n3 : ¬ F2 b3) (fr : Fr w w2 F F2) (hp : items <+: i2) (hM : M <+: M2) (hO : RdO T0 p vs x bn bl w2 F2 i2 M2) :
  StepQ T0 p vs w F items M b3 R (.panicked thrownP) w2 := by
 obtain ⟨F1,kn,kl,fn,fl,hr⟩ := hO
 have hsub : ∀ k,F1 k → F2 k := fun k hk => (hr.ff k).2 (Or.inl hk)
 exact Or.inr ⟨rfl,hR,M2,F1,i2,hr.pg,fun e => n3 (hsub _ e),hp,hM,fr.alike (fun k hk => Or.inl hk) hsub,h3⟩
theorem q71 {T0 : Tr} {p : Nat} {vs : Value} {x : Nat} (hx8 : x < 256) {w : World} {F : Nat → Prop} {items : List It} {M : Mt} (h : PgO T0 w F p vs items M) (hT : Tab64 w) (hnG : ¬ F tabG) (a : Option Addr) (c : Nat) (l : List Nat) (hL : LH w F M a c l) (b0 b1 b2 b3 : Nat) (hV : StV w F p x a l.length c (.slice none 0 0) b0 b1 b2 b3) :
  Calls Tryz.prog 130 #[.pointer (some ⟨b0,0,none⟩),.pointer (some ⟨b2,0,none⟩),.pointer (some ⟨b1,0,none⟩),.pointer (some ⟨b3,0,none⟩)] w (StepQ T0 p vs w F items M b3 (stepM fuelN x l [] M)) := by
 have hVd := hV.fr (Fr.ofBelow (F := F) (Below.refl w.heap.size w).drew)
 have hk0 := hVd.cells
 have hk00 := hV.cells
 have jr := q86 x (h.up (Below.refl w.heap.size w).drew)
 have HV : Hid _ := hVd
 have HT : Hid (Tab64 w.drew) := hT.up (Below.refl _ _).drew
 have HL : Hid (LH w.drew F M a c l) := hL.fr (Fr.ofBelow (Below.refl _ _).drew) (List.prefix_refl _)
 have HNG : Hid (¬ F tabG) := hnG
 have H0 : Hid (T0k T0) := h.t0
 have htl : Hid (tabG < w.heap.size) := World.block_lt_of_cell? _ _ (hT 0 (by decide))
 obtain ⟨R,hR⟩ : ∃ R,R = stepM fuelN x l [] M := ⟨_,rfl⟩
 rw [← hR]
 have HR : Hid _ := hR
 obtain ⟨Q,hQ⟩ : ∃ Q : Ending → World → Prop,Q = StepQ T0 p vs w F items M b3 R := ⟨_,rfl⟩
 have HQ : Hid (∀ e w',StepQ T0 p vs w F items M b3 R e w' → Q e w') := fun e w' h => by rw [hQ]; exact h
 rw [← hQ]
 clear h hT hnG hL hV hVd hR hQ
 generalize hN : l.length = n at *
 have HN : Hid _ := hN
 clear hN
 unfold StC at *
 unfold rdV at jr
 go_enter Tryz.func130,Tryz.ntmps130
 go_wp2_with fail
 go_region_held2 (fun w' => w'.cell? ⟨b0,0,none⟩ = some (.pointer (some ⟨p,0,none⟩)) ∧ w'.cell? ⟨b2,0,none⟩ = some (.int .u8 (x : Int)) ∧ w'.cell? ⟨b1,0,none⟩ = some (.slice a n c)) (first | exact hk0 | exact hk00 | assumption | fail) (first
   | (revert jr; intro jr; go_at_call 131; (with_reducible refine jr.mono ?_); rintro e w1 ⟨bn,bl,rfl,hO1,fr1,hb1⟩; have hV1 := HV.out.fr fr1; have hk1 := hV1.cells; unfold StC at hk1; have js := q87 hx8 hO1 (HT.out.up hb1) (fr1.out HNG.out htl.out) a c l (HL.out.fr fr1 (List.prefix_refl _)) H0.out; rw [HN.out,← HR.out] at js; unfold rdV at js)
   | (revert js; intro js; go_at_call 132; (with_reducible refine js.mono ?_); rintro e w2 ⟨⟨F2,i2,fr2,hp2,⟨L2,M2,q2,d2,hs2,rfl,hU2,hO2⟩ | ⟨hs2,rfl,M2,hpm2,hO2⟩⟩,hnw2⟩; (case inr => exact ⟨rfl,HQ.out _ _ (qf1 hs2 (((hV1.fr fr2).h3).trans HV.out.h3.symm) (hV1.fr fr2).n3 (((Fr.ofBelow (Below.refl _ _).drew).trans fr1).trans fr2) hp2 hpm2 hO2)⟩); have hV2 := hV1.fr fr2; have hk2 := hV2.cells; unfold StC at hk2; have hk3 := hV2.set (.slice q2 L2.length d2); unfold StC at hk3; have HE : Hid (Q (.returned (.tuple #[])) (w2.setCell ⟨b3,0,none⟩ (.slice q2 L2.length d2))) := (HQ.out _ _ (qf2 hs2 hV2.h3 hV2.n3 (((Fr.ofBelow (Below.refl _ _).drew).trans fr1).trans fr2) hp2 (q2A fuelN x l [] M M2 L2 HL.out.bd (HR.out.symm.trans hs2)).1 hU2 hO2 ((hnw2.at ((Fr.ofBelow (Below.refl _ _).drew).trans fr1).size) _ _ _ rfl))); have z2 : w2.cell? ⟨b3,0,none⟩ = some (.slice none 0 0) := qb hV2.h3 0; have z3 : w2.frozen? ⟨b3,0,none⟩ = false := frozen_of_row w2 b3 0 _ _ hV2.h3)
   | fail)
 all_goals
  clear jr js
  go_wp2
  go_end0
  exact HE.out
theorem qdI {M : Mt} (hM : ∀ f ∈ M,SmT f) (nd : M.Nodup) {i : Nat} (hi : i < M.length) : nmF M (txOf M[i]) = some i := by
 rw [qbg hM (hM _ (List.getElem_mem hi)),List.findIdx?_eq_some_iff_getElem]
 refine ⟨hi,by simp,fun j hj => ?_⟩
 intro e
 have e' : M[j] = M[i] := by simpa using e
 have := (List.getElem_inj nd).1 e'
 omega
theorem qdJ {M : Mt} {y : ByteArray} {j : Nat} (h : nmF M y = some j) : ∃ hj : j < M.length,txOf M[j] = y := by
 unfold nmF at h
 obtain ⟨hj,h1,_⟩ := List.findIdx?_eq_some_iff_getElem.1 h
 exact ⟨hj,by simpa using h1⟩
def outN (M : Mt) (n i : Nat) (y : ByteArray) : Option Nat := (nmF M y).bind fun j => if n ≤ j ∧ j < n + i then none else some j
theorem qdR (M : Mt) (n : Nat) (y : ByteArray) : nmF M y = outN M n 0 y := by
 unfold outN
 cases nmF M y with
 | none => rfl
 | some j => simp only [Option.bind_some]; rw [if_neg (by omega)]
theorem qdQ {M : Mt} (hM : ∀ f ∈ M,SmT f) (nd : M.Nodup) {n i : Nat} (h : n + i < M.length) (y : ByteArray) : (if y = txOf M[n + i] then none else outN M n i y) = outN M n (i + 1) y := by
 unfold outN
 by_cases e : y = txOf M[n + i]
 ·rw [if_pos e,e,qdI hM nd h]
  simp only [Option.bind_some]
  rw [if_pos (by omega)]
 ·rw [if_neg e]
  cases hp : nmF M y with
  | none => rfl
  | some j =>
   obtain ⟨hj,ht⟩ := qdJ hp
   have : j ≠ n + i := fun he => e (by subst he; exact ht.symm)
   simp only [Option.bind_some]
   by_cases h1 : n ≤ j ∧ j < n + i
   ·rw [if_pos h1,if_pos (by omega)]
   ·rw [if_neg h1,if_neg (by omega)]
theorem qd4 {M : Mt} (hM : ∀ f ∈ M,SmT f) (nd : M.Nodup) {n i : Nat} (h : n + i < M.length) : (outN M n i (txOf M[n + i])).isSome = true := by
 unfold outN
 rw [qdI hM nd h]
 simp only [Option.bind_some]
 rw [if_neg (by omega)]; rfl
theorem qeO {M : Mt} {n : Nat} (hn : n ≤ M.length) (y : ByteArray) : outN M n (M.length - n) y = nmF (M.take n) y := by
 unfold outN nmF
 have e : M.findIdx? (fun f => decide (txOf f = y)) = ((M.take n).findIdx? fun f => decide (txOf f = y)).or (((M.drop n).findIdx? fun f => decide (txOf f = y)).map (· + (M.take n).length)) := by
  rw [← List.findIdx?_append,List.take_append_drop]
 rw [e]
 cases h1 : (M.take n).findIdx? fun f => decide (txOf f = y) with
 | some j =>
  have hj := (List.findIdx?_eq_some_iff_getElem.1 h1).1
  rw [List.length_take] at hj
  simp only [Option.some_or,Option.bind_some]
  rw [if_neg (by omega)]
 | none =>
  simp only [Option.none_or]
  cases h2 : (M.drop n).findIdx? fun f => decide (txOf f = y) with
  | none => rfl
  | some j =>
   have hj := (List.findIdx?_eq_some_iff_getElem.1 h2).1
   rw [List.length_drop] at hj
   simp only [Option.map_some,Option.bind_some,List.length_take]
   rw [if_pos (by omega)]
theorem q78 {w : World} {ops : Array Oper} {o : Oper} {a : Act} {K : Act → World → Prop} {Q : Exit → Act → World → Prop} {E : Prop} (hw : Region.wanted o (yielded ops a.tmps) = true) (m x : Operand)
  (ho : o.op = .call { callee := .builtin .delete,args := #[m,x],argTypes := #[76,9] }) (b n : Nat) (f : ByteArray → Option Nat) (y : ByteArray) (hm : a.eval m = .map (some b)) (hx : a.eval x = .string y)
  (h : NumS w b n f) (hy : SOk y) (hf : (f y).isSome = true)
  (hK : ∀ w',NumS w' b (n - 1) (fun z => if z = y then none else f z) → w.grownBy w' (some b) → K (a.put o.dst (.tuple #[])) w') :
  if Region.wanted o (yielded ops a.tmps) = true then Oper.wp Tryz.prog o a w K Q else E := by
 rw [if_pos hw]
 obtain ⟨w',hr,h1,h2⟩ := h.drop hy hf o.type
 unfold Oper.wp execOp
 simp only [ho,resolve,invoke,builtin,Sem.run_bind,Sem.run_pure,Result.andThen_ok,List.map_toArray,List.map_cons,List.map_nil,hm,hx,hr]
 exact hK w' h1 h2
structure FgS (T0 : Tr) (w wr : World) (G : Nat → Prop) (p mn : Nat) (vm vs : Value) (items : List It) (met : List Nat) (M : Mt) (n k : Nat) : Prop where
 po : PtO T0 wr G p 128 (pgRest p mn vm vs) items
 num : NumS wr mn (met.length - k) (outN M n k)
 row : wr.ownsRow 0 3 1 vm met.length (encM met)
 fr : Fr w wr (FQ G mn vm) (FQ G mn vm)
theorem FgS.c4 {T0 : Tr} {w wr : World} {G : Nat → Prop} {p mn : Nat} {vm vs : Value} {items : List It} {met : List Nat} {M : Mt} {n k : Nat} (h : FgS T0 w wr G p mn vm vs items met M n k) : wr.cell? ⟨p,4,none⟩ = some (.map (some mn)) ∧ wr.cell? ⟨p,5,none⟩ = some vm ∧ wr.frozen? ⟨p,5,none⟩ = false ∧ G p := by
 obtain ⟨vi,mp,vt,hb,hg⟩ := h.po.blk
 exact ⟨qb hb 4,qb hb 5,frozen_of_row wr p 5 _ _ hb,hg⟩
theorem FgS.next {T0 : Tr} {w wr w1 w2 : World} {G : Nat → Prop} {p mn : Nat} {vm vs : Value} {items : List It} {met : List Nat} {M : Mt} {n k : Nat} {y : ByteArray} (h : FgS T0 w wr G p mn vm vs items met M n k) (ng : ¬ G mn) (nv : ∀ q,vm.ownBlock = some q → ¬ G q) (ht : TextP T0 wr.drew G p 128 (pgRest p mn vm vs) items w1)
  (hn : NumS w2 mn (met.length - k - 1) (fun z => if z = y then none else outN M n k z)) (hy : ∀ z,(if z = y then none else outN M n k z) = outN M n (k + 1) z) (hg : w1.grownBy w2 (some mn)) :
  FgS T0 w w2 G p mn vm vs items met M n (k + 1) := by
 have fr1 : Fr wr w1 G G := (Fr.ofBelow (Below.refl _ _).drew).trans ht.2
 obtain ⟨es,cl,hmap⟩ := h.num.isMap
 have hvn : vm.ownBlock ≠ some mn := q2m h.row hmap fun cs e => by cases e
 have st : ∀ q,q < w1.heap.size → q ≠ mn → w2.heap[q]? = w1.heap[q]? := fun q hq hne => hg.block q hq (fun e => hne (by injection e))
 have hs1 := fr1.size
 refine ⟨ht.1.far fun q hq => st q (ht.1.lt q hq) (fun e => ng (e ▸ hq)),?_,qs h.row fun q hq => (st q (by have := qR h.row q hq; omega) (fun e => hvn (e ▸ hq))).trans (fr1.keep q (qR h.row q hq) (nv q hq)),h.fr.trans ⟨hg.os.trans fr1.os,hg.tape.trans fr1.tape,hg.output.trans fr1.output,Nat.le_trans fr1.size hg.size,fun q hq hF => (st q (by omega) (fun e => hF (Or.inr (Or.inl e)))).trans (fr1.keep q hq fun e => hF (Or.inl e)),fun _ hq => Or.inl hq⟩⟩
 rw [show met.length - (k + 1) = met.length - k - 1 by omega]
 exact hn.alike fun z _ => hy z
theorem qcS {T0 : Tr} {w wr : World} {F G : Nat → Prop} {p mn : Nat} {va : Option Addr} {vc L : Nat} {vs : Value} {items : List It} {met : List Nat} {M : Mt} {n : Nat} (h : PgO T0 w F p vs items M) (hr : PgR T0 w G p mn (.slice va L vc) vs items met M) (hF : ∀ k,F k ↔ FQ G mn (.slice va L vc) k) (hL : met.length = L) (hn : n ≤ M.length) (hS : FgS T0 w wr G p mn (.slice va L vc) vs items met M n (L - n)) :
  ∃ F',PgO T0 (wr.setCell ⟨p,5,none⟩ (.slice va n vc)) F' p vs items (M.take n) ∧ Fr w (wr.setCell ⟨p,5,none⟩ (.slice va n vc)) F F' := by
 have hml := hr.met.1
 have hrow := hS.row
 rw [hL] at hrow
 obtain ⟨va',vc',vb,e,_,hown,_,_,hob⟩ := q7o hrow (m := n) (by omega)
 injection e with e1 _ e3
 subst e1 e3
 obtain ⟨_,_,_,hgp⟩ := hS.c4
 have hob' : (Value.slice va n vc).ownBlock = (Value.slice va L vc).ownBlock := hob
 have st : ∀ k,k ≠ p → (wr.setCell ⟨p,5,none⟩ (.slice va n vc)).heap[k]? = wr.heap[k]? := fun k hk => Below.heap_setCell _ _ _ _ hk
 have hmlen : (met.take n).length = n := by rw [List.length_take]; omega
 have hMlen : (M.take n).length = n := by rw [List.length_take]; omega
 refine ⟨FQ G mn (.slice va n vc),⟨by rw [hMlen]; have := h.few; omega,h.nd.sublist (List.take_sublist _ _),fun f hf => h.of f (List.mem_of_mem_take hf),G,mn,.slice va n vc,met.take n,⟨hS.po.setRest (j := 2) (.slice va n vc),?_,?_,⟨by rw [hmlen,hMlen],fun q i hq => ?_⟩,hr.ng,fun q hq => hr.nv q (hob' ▸ hq)⟩,fun k => Iff.rfl⟩,?_⟩
 ·rw [hmlen]
  exact qs hown fun q hq => st q (fun e => hr.nv q (hob' ▸ hq) (e ▸ hgp))
 ·rw [hmlen]
  have h1 := hS.num
  rw [show met.length - (L - n) = n by omega,show L - n = M.length - n by omega] at h1
  exact (h1.far (st mn (fun e => hr.ng (e ▸ hgp)))).alike fun y _ => qeO hn y
 ·have hqn : q < n := by have := (List.getElem?_eq_some_iff.1 hq).1; omega
  rw [List.getElem?_take,if_pos hqn] at hq
  obtain ⟨S,h1,h2⟩ := hr.met.2 q i hq
  exact ⟨S,h1,by rw [List.getElem?_take,if_pos hqn]; exact h2⟩
 ·have fr := hS.fr
  exact ⟨fr.os,fr.tape,fr.output,by simp; exact fr.size,fun k hk hf => (st k fun e => hf ((hF k).2 (Or.inl (e ▸ hgp)))).trans (fr.keep k hk fun e => hf ((hF k).2 e)),fun k hk => by
   refine (fr.foot k ?_).imp (fun e => (hF k).2 e) id
   rcases hk with e | e | e
   ·exact Or.inl e
   ·exact Or.inr (Or.inl e)
   ·exact Or.inr (Or.inr (hob' ▸ e))⟩
theorem q69 {T0 : Tr} {w : World} {F : Nat → Prop} {p : Nat} {vs : Value} {items : List It} {M : Mt} (h : PgO T0 w F p vs items M) (n : Nat) (hn : n ≤ M.length) :
  Calls Tryz.prog 133 #[.pointer (some ⟨p,0,none⟩),.int .i64 (n : Int)] w fun e w' => e = .returned (.tuple #[]) ∧ ∃ F',PgO T0 w' F' p vs items (M.take n) ∧ Fr w w' F F' := by
 obtain ⟨G,mn,vm,met,hr,hF⟩ := h.ex
 have hml := hr.met.1
 obtain ⟨va,vc,vb,rfl,hpre,_,hcut,_,_⟩ := q7o hr.row (m := n) (by omega)
 have HH : Hid _ := h
 have HRR : Hid _ := hr
 have HF : Hid _ := hF
 have HC0 : Hid (FgS T0 w w G p mn (.slice va met.length vc) vs items met M n 0) := ⟨hr.po,by rw [Nat.sub_zero]; exact hr.num.alike fun y _ => qdR M n y,hr.row,Fr.ofBelow (Below.refl _ _)⟩
 have c5 := hr.c5
 have HSM : Hid (∀ f ∈ M,SmT f) := h.small h.t0.kt
 have HML : Hid (met.length = M.length) := hml
 have HN : Hid (n ≤ M.length) := hn
 have hfew : met.length ≤ 64 := by have := h.few; omega
 have hn64 : n ≤ met.length := by omega
 have HCUT : Hid _ := hcut
 clear h hr hF hml hn
 generalize hL : met.length = L at *
 have HL : Hid (met.length = L) := hL
 clear hL
 go_enter Tryz.func133,Tryz.ntmps133
 go_wp2
 go_loopw [13] (fun i wr => ∃ k : Nat,k ≤ L - n ∧ i = .int .i64 (k : Int) ∧ Hid (FgS T0 w wr G p mn (.slice va L vc) vs items met M n k)) (fun i _ => (L - n) - (intOf i).toNat)
 case atStart => exact ⟨0,Nat.zero_le _,rfl,HC0⟩
 case round =>
  obtain ⟨k,hk,rfl,HC⟩ := hrel
  clear HC0 c5
  by_cases hlt : k < L - n
  ·have hkm : n + k < met.length := by have := HL.out; omega
   have hkM : n + k < M.length := by have := HML.out; omega
   obtain ⟨va',vc',vb',e',_,_,hcut',hns',_⟩ := q7o (show wr.ownsRow 0 3 1 (.slice va L vc) L (encM met) by have := HC.out.row; rw [HL.out] at this; exact this) (m := n) hn64
   injection e' with e1 e2 e3
   subst e1 e3
   have eb : vb = vb' := by
    have := (HCUT.out wr).symm.trans (hcut' wr)
    injection this with this
    injection this
   subst eb
   have hdl : k < (met.drop n).length := by rw [List.length_drop]; omega
   obtain ⟨g1,o1,s1,hix,hcx⟩ := hns'.at k hdl
   have hval : (met.drop n)[k] = met[n + k] := by simp
   rw [hval] at hcx
   obtain ⟨S,hrep,hMk⟩ := HRR.out.met.2 (n + k) met[n + k] (List.getElem?_eq_getElem hkm)
   have hMg : M[n + k] = S.flat := by rw [List.getElem?_eq_getElem hkM] at hMk; injection hMk
   obtain ⟨S2,k2,i2,e2⟩ := HH.out.of S.flat (List.mem_of_getElem? hMk)
   have hw : S.WF := by
    obtain ⟨S3,h3,h4⟩ := HRR.out.po.cov _ hrep.lt
    have := Rep.tree hrep h3
    subst this
    rcases q2P HRR.out.po.t0.kt h4 with q | q <;> exact q.wf
   have e := q6f hw k2.wf e2
   subst e
   have jt := q42 (HC.out.po.up (Below.refl _ _).drew) met[n + k] S hrep i2
   have htx : txB S = txOf M[n + k] := by rw [hMg]; rfl
   have HSO : Hid (SOk (txB S)) := by unfold Hid SOk; rw [q6A]; have := (q4u HH.out.t0.sz i2).1; omega
   have HTH : Hid ((outN M n k (txB S)).isSome = true) := by rw [htx]; exact qd4 HSM.out HH.out.nd hkM
   have HNX : Hid (∀ z,(if z = txB S then none else outN M n k z) = outN M n (k + 1) z) := fun z => by rw [htx]; exact qdQ HSM.out HH.out.nd hkM z
   obtain ⟨c4,c5,z5,hgp⟩ := HC.out.c4
   have c4d : wr.drew.cell? ⟨p,4,none⟩ = some (.map (some mn)) := c4
   have HPN : Hid (p ≠ mn) := fun e => HRR.out.ng (e ▸ hgp)
   generalize txB S = tx at *
   generalize met[n + k] = mi at *
   clear hval hMg hMk hrep k2 i2 e2 hw htx hcut' hns'
   go_wp2
   go_region_held2 (fun w' => w'.cell? ⟨p,4,none⟩ = some (.map (some mn))) (first | exact c4d | exact c4 | assumption | fail) (first
    | (revert jt; intro jt; go_at_call 152; (with_reducible refine jt.mono ?_); rintro e w1 ⟨rfl,hq⟩; have hfr1 : Fr wr w1 G G := ((Fr.ofBelow (Below.refl _ _).drew).trans hq.2); have hnum1 := HC.out.num.far (hfr1.keep mn HC.out.num.lt HRR.out.ng); have c41 : w1.cell? ⟨p,4,none⟩ = some (.map (some mn)) := (by obtain ⟨vi,mp,vt,hb,_⟩ := hq.1.blk; exact qb hb 4))
    | (revert hnum1; intro hnum1; refine q78 rfl _ _ rfl mn _ (outN M n k) tx rfl rfl hnum1 HSO.out HTH.out ?_; intro w6 hn6 hg6; have c46 : w6.cell? ⟨p,4,none⟩ = some (.map (some mn)) := (by unfold World.cell? at c41 ⊢; rw [hg6.block p (by have := hq.1.lt p hgp; exact this) (fun e => HPN.out (by injection e))]; exact c41))
    | fail)
   all_goals
    have HC6 : Hid (FgS T0 w w6 G p mn (.slice va L vc) vs items met M n (k + 1)) := HC.out.next HRR.out.ng HRR.out.nv hq hn6 HNX.out hg6
    clear jt hnum1 hq hn6 hg6 hfr1 c4 c4d c41 c46 c5 z5 hix hcx
    go_wp2
    go_roundw
    case rel => exact ⟨k + 1,by omega,by go_num,HC6⟩
    case measure => simp [intOf] <;> omega
  ·obtain rfl : k = L - n := by omega
   obtain ⟨c4,c5,z5,hgp⟩ := HC.out.c4
   have HFIN : Hid _ := qcS HH.out HRR.out HF.out HL.out HN.out HC.out
   clear HC
   go_wp2
   go_end0
   exact ⟨rfl,HFIN.out⟩
theorem qcB {w : World} {F : Nat → Prop} {a : Option Addr} {n c : Nat} {l : List Nat} {b : Nat} (h : US w F a n c l) {e : Int} (hb : Erc w b e) : ∀ k,k < n → (adOf a k).block ≠ b := fun k hk e => by
 have hc := h.sl.cell k hk
 unfold Erc at hb
 unfold World.cell? at hc
 rw [e,hb] at hc
 simp at hc
 match ho : (adOf a k).off,hc with
 | 0,hc => simp at hc
 | j + 1,hc => simp at hc
theorem US.grown {w w' : World} {F : Nat → Prop} {a : Option Addr} {n c : Nat} {l : List Nat} {b : Nat} (h : US w F a n c l) (hg : w.grownBy w' (some b)) (hb : ∀ k,k < n → (adOf a k).block ≠ b) : US w' F a n c l := by
 have hs := h.sl
 refine ⟨⟨hs.hlen,hs.hcap,hs.bd,hs.idx,fun k hk => ?_,fun k hk => Nat.lt_of_lt_of_le (hs.blk k hk) hg.size,hs.nn⟩,h.nf⟩
 have := hs.cell k hk
 unfold World.cell? at this ⊢
 rw [hg.block _ (hs.blk k hk) (fun e => hb k hk (by injection e))]
 exact this
def StP (T0 : Tr) (p : Nat) (vs : Value) (w : World) (F : Nat → Prop) (b3 E : Nat) (R : Rt) (w' : World) : Prop :=
 ∃ (L : List Nat) (M' : Mt) (q : Option Addr) (d : Nat) (F' : Nat → Prop) (items' : List It),R = some (L,M') ∧ w'.heap[b3]? = some (.cells #[.slice q L.length d] 46 (0,0)) ∧ PgO T0 w' F' p vs items' M' ∧ US w' F' q L.length d L ∧ ¬ F' E ∧ (∀ k,k < L.length → (adOf q k).block ≠ E) ∧ Fr w w' (fun k => F k ∨ k = b3 ∨ k = E) F' ∧ ∀ k,k < L.length → w.heap.size ≤ (adOf q k).block
def StN (T0 : Tr) (p : Nat) (vs : Value) (w : World) (F : Nat → Prop) (M : Mt) (b3 E : Nat) (R : Rt) (w' : World) : Prop :=
 R = none ∧ ∃ (M' : Mt) (F' : Nat → Prop) (items' : List It),PgO T0 w' F' p vs items' M' ∧ M <+: M' ∧ ¬ F' E ∧ Fr w w' (fun k => F k ∨ k = b3 ∨ k = E) F'
theorem StP.grown {T0 : Tr} {p : Nat} {vs : Value} {w w1 w2 : World} {F : Nat → Prop} {b3 E : Nat} {R : Rt} (h : StP T0 p vs w F b3 E R w1) (hg : w1.grownBy w2 (some E)) (hbE : b3 ≠ E) (hb3 : b3 < w1.heap.size) : StP T0 p vs w F b3 E R w2 := by
 obtain ⟨L,M',q,d,F',i',h1,h2,h3,h4,h5,h6,h7,h8⟩ := h
 refine ⟨L,M',q,d,F',i',h1,(hg.block b3 hb3 (fun e => hbE (by injection e))).trans h2,h3.far fun k hk => hg.block k (h3.lt k hk) (fun e => h5 (by injection e with e; exact e ▸ hk)),h4.grown hg h6,h5,h6,⟨hg.os.trans h7.os,hg.tape.trans h7.tape,hg.output.trans h7.output,Nat.le_trans h7.size hg.size,fun k hk hF => (hg.block k (Nat.lt_of_lt_of_le hk h7.size) (fun e => hF (Or.inr (Or.inr (by injection e))))).trans (h7.keep k hk hF),h7.foot⟩,h8⟩
theorem StN.grown {T0 : Tr} {p : Nat} {vs : Value} {w w1 w2 : World} {F : Nat → Prop} {M : Mt} {b3 E : Nat} {R : Rt} (h : StN T0 p vs w F M b3 E R w1) (hg : w1.grownBy w2 (some E)) : StN T0 p vs w F M b3 E R w2 := by
 obtain ⟨h1,M',F',i',h3,hM,h5,h7⟩ := h
 exact ⟨h1,M',F',i',h3.far fun k hk => hg.block k (h3.lt k hk) (fun e => h5 (by injection e with e; exact e ▸ hk)),hM,h5,⟨hg.os.trans h7.os,hg.tape.trans h7.tape,hg.output.trans h7.output,Nat.le_trans h7.size hg.size,fun k hk hF => (hg.block k (Nat.lt_of_lt_of_le hk h7.size) (fun e => hF (Or.inr (Or.inr (by injection e))))).trans (h7.keep k hk hF),h7.foot⟩⟩
theorem q7M : EntersF 130 := fun _ _ => rfl
theorem q5L {T0 : Tr} {p : Nat} {vs : Value} {x : Nat} (hx8 : x < 256) {w : World} {F : Nat → Prop} {items : List It} {M : Mt} (h : PgO T0 w F p vs items M) (hT : Tab64 w) (hnG : ¬ F tabG) (a : Option Addr) (c : Nat) (l : List Nat) (hL : LH w F M a c l) (b0 b1 b2 b3 : Nat) (hV : StV w F p x a l.length c (.slice none 0 0) b0 b1 b2 b3) :
  Calls Tryz.prog 94 #[.func (.func 130) #[] #[.pointer (some ⟨b0,0,none⟩),.pointer (some ⟨b2,0,none⟩),.pointer (some ⟨b1,0,none⟩),.pointer (some ⟨b3,0,none⟩)]] w fun e w' =>
   (e = .returned (.int .i64 0) ∧ StP T0 p vs w F b3 w.heap.size (stepM fuelN x l [] M) w') ∨ (e = .returned (.int .i64 9) ∧ StN T0 p vs w F M b3 w.heap.size (stepM fuelN x l [] M) w') := by
 have h3l : b3 < w.heap.size := (Array.getElem?_eq_some_iff.1 hV.h3).1
 refine (q3j 130 _ w q7M (fun w' => StP T0 p vs w F b3 w.heap.size (stepM fuelN x l [] M) w' ∧ b3 < w'.heap.size) (fun w' => StN T0 p vs w F M b3 w.heap.size (stepM fuelN x l [] M) w') ?_ ?_ ?_).mono ?_
 ·rintro w1 w2 b ⟨hp,hb⟩ hg rfl
  exact ⟨hp.grown hg (by omega) hb,Nat.lt_of_lt_of_le hb hg.size⟩
 ·rintro w1 w2 b hp hg rfl
  exact hp.grown hg
 ·intro w0 hw0
  have hb : Below w.heap.size w w0 := by rw [hw0]; exact qd _ _
  have hE : Erc w0 w.heap.size 0 := by rw [hw0]; exact (MapKept.heap_alloc w _).1
  have hz : w0.heap.size = w.heap.size + 1 := by rw [hw0]; simp
  have hnE : ¬ F w.heap.size := fun e => Nat.lt_irrefl _ (h.lt _ e)
  refine (q71 hx8 (h.up hb) (hT.up hb) hnG a c l (hL.fr (Fr.ofBelow hb) (List.prefix_refl _)) b0 b1 b2 b3 (hV.fr (Fr.ofBelow hb))).mono ?_
  rintro e w' (⟨rfl,L,M',q,d,F',i',hs,h3,hO,hU,hn3,hp,hM,fr,hnw⟩ | ⟨rfl,hs,M',F',i',hO,hn3,hp,hM,fr,h3⟩)
  ·have hE' : Erc w' w.heap.size 0 := (fr.keep _ (by omega) (fun e => by rcases e with e | e; exact hnE e; omega)).trans hE
   have hnE' : ¬ F' w.heap.size := fr.out (fun e => by rcases e with e | e; exact hnE e; omega) (by omega)
   refine Or.inl ⟨rfl,⟨⟨L,M',q,d,F',i',hs,h3,hO,hU,hnE',qcB hU hE',?_,fun k hk => Nat.le_trans hb.size (hnw k hk)⟩,(Array.getElem?_eq_some_iff.1 h3).1⟩,hE'⟩
   exact ((Fr.ofBelow hb).trans fr).alike (fun k hk => by rcases hk with e | e; exact Or.inl e; exact Or.inr (Or.inl e)) (fun k hk => hk)
  ·have hE' : Erc w' w.heap.size 0 := (fr.keep _ (by omega) (fun e => by rcases e with e | e; exact hnE e; omega)).trans hE
   have hnE' : ¬ F' w.heap.size := fr.out (fun e => by rcases e with e | e; exact hnE e; omega) (by omega)
   refine Or.inr ⟨rfl,⟨hs,M',F',i',hO,hM,hnE',?_⟩,hE'⟩
   exact ((Fr.ofBelow hb).trans fr).alike (fun k hk => by rcases hk with e | e; exact Or.inl e; exact Or.inr (Or.inl e)) (fun k hk => hk)
 ·rintro e w' (⟨h1,h2⟩ | ⟨h1,h2⟩)
  ·exact Or.inl ⟨h1,h2.1⟩
  ·exact Or.inr ⟨h1,h2⟩
theorem qf6 {M M' : Mt} (h : M <+: M') : M'.take M.length = M := by
 obtain ⟨r,rfl⟩ := h
 simp
def StepR (T0 : Tr) (p : Nat) (vs : Value) (w : World) (F : Nat → Prop) (M : Mt) (R : Rt) (e : Ending) (w' : World) : Prop :=
 ∃ (F' : Nat → Prop) (items' : List It),Fr w w' F F' ∧ ((R = none ∧ e = .returned (.tuple #[.slice none 0 0,.int .i64 9]) ∧ PgO T0 w' F' p vs items' M) ∨
  ∃ (L : List Nat) (M' : Mt) (q : Option Addr) (d : Nat),R = some (L,M') ∧ e = .returned (.tuple #[.slice q L.length d,.int .i64 0]) ∧ US w' F' q L.length d L ∧ PgO T0 w' F' p vs items' M' ∧ ∀ k,k < L.length → w.heap.size ≤ (adOf q k).block)
theorem qds {w w4 w5 : World} {F F' : Nat → Prop} {b3 E : Nat} (hb : Below w.heap.size w w4) (fr : Fr w4 w5 (fun k => F k ∨ k = b3 ∨ k = E) F') (h3 : w.heap.size ≤ b3) (hE : w.heap.size ≤ E) : Fr w w5 F F' :=
 ⟨fr.os.trans hb.os,fr.tape.trans hb.tape,fr.output.trans hb.output,Nat.le_trans hb.size fr.size,fun k hk hF => (fr.keep k (Nat.lt_of_lt_of_le hk hb.size) (fun e => by rcases e with e | e | e; exact hF e; omega; omega)).trans (hb.block k hk),fun k hk => by
  have := hb.size
  rcases fr.foot k hk with (e | e | e) | e
  ·exact Or.inl e
  ·right; omega
  ·right; omega
  ·right; omega⟩
theorem q7V {T0 : Tr} {p : Nat} {vs : Value} {x : Nat} (hx8 : x < 256) {w : World} {F : Nat → Prop} {items : List It} {M : Mt} (h : PgO T0 w F p vs items M) (hT : Tab64 w) (hnG : ¬ F tabG) (a : Option Addr) (c : Nat) (l : List Nat) (hL : LH w F M a c l) :
  Calls Tryz.prog 98 #[.pointer (some ⟨p,0,none⟩),.slice a l.length c,.int .u8 (x : Int)] w (StepR T0 p vs w F M (stepM fuelN x l [] M)) := by
 obtain ⟨w1,hw1⟩ : ∃ w1,w1 = w.alloc (.cells #[.pointer (some ⟨p,0,none⟩)] 74) := ⟨_,rfl⟩
 obtain ⟨w2,hw2⟩ : ∃ w2,w2 = w1.alloc (.cells #[.slice a l.length c] 46) := ⟨_,rfl⟩
 obtain ⟨w3,hw3⟩ : ∃ w3,w3 = w2.alloc (.cells #[.int .u8 (x : Int)] 59) := ⟨_,rfl⟩
 obtain ⟨w4,hw4⟩ : ∃ w4,w4 = w3.alloc (.cells #[.slice none 0 0] 46) := ⟨_,rfl⟩
 have z1 : w1.heap.size = w.heap.size + 1 := by rw [hw1]; simp
 have z2 : w2.heap.size = w.heap.size + 1 + 1 := by rw [hw2]; simp [z1]
 have z3 : w3.heap.size = w.heap.size + 1 + 1 + 1 := by rw [hw3]; simp [z2]
 have z4 : w4.heap.size = w.heap.size + 1 + 1 + 1 + 1 := by rw [hw4]; simp [z3]
 have b1 : Below w.heap.size w w1 := by rw [hw1]; exact qd _ _
 have b2 : Below w1.heap.size w1 w2 := by rw [hw2]; exact qd _ _
 have b3 : Below w2.heap.size w2 w3 := by rw [hw3]; exact qd _ _
 have b4 : Below w3.heap.size w3 w4 := by rw [hw4]; exact qd _ _
 have hb3 : Below w.heap.size w w3 := qe (qe b1 b2) b3
 have hb4 : Below w.heap.size w w4 := qe hb3 b4
 have v0 : w1.heap[w.heap.size]? = some (.cells #[.pointer (some ⟨p,0,none⟩)] 74 (0,0)) := by rw [hw1]; exact (MapKept.heap_alloc w _).1
 have v1 : w2.heap[w.heap.size + 1]? = some (.cells #[.slice a l.length c] 46 (0,0)) := by rw [← z1,hw2]; exact (MapKept.heap_alloc w1 _).1
 have v2 : w3.heap[w.heap.size + 1 + 1]? = some (.cells #[.int .u8 (x : Int)] 59 (0,0)) := by rw [← z2,hw3]; exact (MapKept.heap_alloc w2 _).1
 have v3 : w4.heap[w.heap.size + 1 + 1 + 1]? = some (.cells #[.slice none 0 0] 46 (0,0)) := by rw [← z3,hw4]; exact (MapKept.heap_alloc w3 _).1
 have u0 : w3.heap[w.heap.size]? = some (.cells #[.pointer (some ⟨p,0,none⟩)] 74 (0,0)) := (b3.block _ (by omega)).trans ((b2.block _ (by omega)).trans v0)
 have u1 : w3.heap[w.heap.size + 1]? = some (.cells #[.slice a l.length c] 46 (0,0)) := (b3.block _ (by omega)).trans v1
 have hlt := h.lt
 have hV : StV w4 F p x a l.length c (.slice none 0 0) w.heap.size (w.heap.size + 1) (w.heap.size + 1 + 1) (w.heap.size + 1 + 1 + 1) := ⟨(b4.block _ (by omega)).trans u0,(b4.block _ (by omega)).trans u1,(b4.block _ (by omega)).trans v2,v3,fun e => by have := hlt _ e; omega,fun e => by have := hlt _ e; omega,fun e => by have := hlt _ e; omega,fun e => by have := hlt _ e; omega,by omega⟩
 have jm := q2E (h.up hb3)
 have hL3 := hL.fr (Fr.ofBelow (F := F) hb3) (List.prefix_refl _)
 have jk := q6Z (h.up hb3) a c l hL3.us.sl (hL3.lst h.good).sm hL3.len
 have jc := q5L hx8 (h.up hb4) (hT.up hb4) hnG a c l (hL.fr (Fr.ofBelow hb4) (List.prefix_refl _)) _ _ _ _ hV
 obtain ⟨G,mn,vm,met,hr,hF⟩ := (h.up hb3).ex
 have c5 := hr.c5
 obtain ⟨ma,mc,rfl⟩ := qK hr.row
 rw [hr.met.1] at c5
 have q0 : w3.cell? ⟨w.heap.size,0,none⟩ = some (.pointer (some ⟨p,0,none⟩)) := qb u0 0
 have q1 : w3.cell? ⟨w.heap.size + 1,0,none⟩ = some (.slice a l.length c) := qb u1 0
 have HBD : Hid (BdL l M.length) := hL.bd
 have HH : Hid _ := h
 have HV : Hid _ := hV
 have HB4 : Hid _ := hb4
 have Z4 : Hid _ := z4
 obtain ⟨R,hR⟩ : ∃ R,R = stepM fuelN x l [] M := ⟨_,rfl⟩
 rw [← hR] at jc ⊢
 obtain ⟨Q,hQ⟩ : ∃ Q : Ending → World → Prop,Q = StepR T0 p vs w F M R := ⟨_,rfl⟩
 have HQ : Hid (∀ e w',StepR T0 p vs w F M R e w' → Q e w') := fun e w' h => by rw [hQ]; exact h
 rw [← hQ]
 clear h hT hnG hL hL3 hV hlt hr hF hR hQ b1 b2 b3 b4 hb3 hb4 v0 v1 v2 v3 u0 u1
 have HW1 : Hid _ := hw1
 have HW2 : Hid _ := hw2
 have HW3 : Hid _ := hw3
 have HW4 : Hid _ := hw4
 have Z3 : Hid _ := z3
 clear hw1 hw2 hw3 hw4 z1 z2 z3 z4
 generalize l.length = n at *
 go_enter Tryz.func98,Tryz.ntmps98
 go_wp2_with fail
 rw [← HW1.out,← HW2.out,← HW3.out]
 refine jm.mono ?_
 rintro e w5 ⟨rfl,hw5⟩
 obtain rfl := hw5.symm
 clear jm
 go_wp2_with fail
 refine jk.mono ?_
 rintro e w5 ⟨⟨b,rfl,hbd⟩,hw5⟩
 obtain rfl := hw5.symm
 have hbt : b = true := hbd.2 HBD.out
 subst hbt
 clear jk hbd
 go_wp2_with fail
 rw [← HW4.out,Z3.out]
 refine jc.mono ?_
 clear jc
 rintro e w5 (⟨rfl,L,M',q,d,F',i',hs,h3,hO,hU,hnE,hoff,fr,hnw⟩ | ⟨rfl,hs,M',F',i',hO,hM,hnE,fr⟩)
 ·have r3 : w5.cell? ⟨w.heap.size + 1 + 1 + 1,0,none⟩ = some (.slice q L.length d) := qb h3 0
  have HE : Hid (Q (.returned (.tuple #[.slice q L.length d,.int .i64 0])) w5) := HQ.out _ _ ⟨F',i',qds HB4.out fr (by omega) (by rw [Z4.out]; omega),Or.inr ⟨L,M',q,d,hs,rfl,hU,hO,fun k hk => Nat.le_trans HB4.out.size (hnw k hk)⟩⟩
  clear hs h3 hO hU hnE hoff fr hnw
  go_wp2
  exact HE.out
 ·have r0 : w5.heap[w.heap.size]? = some (.cells #[.pointer (some ⟨p,0,none⟩)] 74 (0,0)) := (fr.keep _ (by rw [Z4.out]; omega) (fun e => by rcases e with e | e | e; exact HV.out.n0 e; omega; rw [Z4.out] at e; omega)).trans HV.out.h0
  have rc : w5.cell? ⟨w.heap.size,0,none⟩ = some (.pointer (some ⟨p,0,none⟩)) := qb r0 0
  have jf := q69 hO M.length hM.length_le
  have HFR : Hid (Fr w w5 F F') := qds HB4.out fr (by omega) (by rw [Z4.out]; omega)
  rw [qf6 hM] at jf
  clear r0 hO hnE fr
  go_wp2_with fail
  refine jf.mono ?_
  rintro e w6 ⟨rfl,F6,hO6,fr6⟩
  have HE : Hid (Q (.returned (.tuple #[.slice none 0 0,.int .i64 9])) w6) := HQ.out _ _ ⟨F6,i',HFR.out.trans fr6,Or.inl ⟨hs,rfl,hO6⟩⟩
  clear jf hs hO6 fr6
  go_wp2
  exact HE.out
def EbAt (w : World) (g : Nat) (bs : List Bool) : Prop := w.heap[g]? = some (.cells (bs.map Value.bool).toArray 4 (0,0))
theorem EbAt.lt {w : World} {g : Nat} {bs : List Bool} (h : EbAt w g bs) : g < w.heap.size := (Array.getElem?_eq_some_iff.1 h).1
theorem EbAt.up {w w' : World} {g : Nat} {bs : List Bool} (h : EbAt w g bs) (hb : Below w.heap.size w w') : EbAt w' g bs := (hb.block g h.lt).trans h
theorem EbAt.cell {w : World} {g : Nat} {bs : List Bool} (h : EbAt w g bs) {i : Nat} {b : Bool} (hi : bs[i]? = some b) : w.cell? ⟨g,i,none⟩ = some (.bool b) := by
 unfold EbAt at h
 rw [qb h i]
 simp [hi]
theorem EbAt.fz {w : World} {g : Nat} {bs : List Bool} (h : EbAt w g bs) (i : Nat) : w.frozen? ⟨g,i,none⟩ = false := frozen_of_row w g i _ _ h
theorem EbAt.set {w : World} {g : Nat} {bs : List Bool} (h : EbAt w g bs) (i : Nat) (b : Bool) : EbAt (w.setCell ⟨g,i,none⟩ (.bool b)) g (bs.set i b) := by
 unfold EbAt at h ⊢
 rw [heap_setCell_same w g i _ _ _ h]
 congr 2
 simp
theorem q4g (g n i : Nat) (hi : i < n) (w : World) : (Instr.indexAt 28 (.slice (some ⟨g,0,none⟩) n n) (.int .i64 (i : Int))).run Tryz.prog w = .ok (.pointer (some ⟨g,i,none⟩)) w := by
 simp [Instr.indexAt,run_underlying Tryz.underlying28,asIntOf,qY (show (Tryz.prog.info? 4).map (·.size) = some 1 by kernel_rfl),hi,Result.andThen,go_sem,qi]
theorem q5M {T0 : Tr} (t0 : KT T0) {items : List It} {k : Nat} {S : Tr} (hk : Rep items k S) (hS : InC T0 S) (x : It) (hx : items[k]? = some x) (g n : Nat) (bs : List Bool) (w : World) (hb : EbAt w g bs) (hn : bs.length = n) (hall : ∀ j S,j < k → Rep items j S → bs[j]? = some (endB S)) :
  Calls Tryz.prog 102 #[itV x,.slice (some ⟨g,0,none⟩) n n] w fun e w' => e = .returned (.bool (endB S)) ∧ w' = w.alloc (itO x) := by
 have hkind := q2P t0 hS
 have key : ∀ (m : Nat) (c : Tr),m < k → Rep items m c → (∀ w',(Instr.indexAt 28 (.slice (some ⟨g,0,none⟩) n n) (.int .i64 (m : Int))).run Tryz.prog w' = .ok (.pointer (some ⟨g,m,none⟩)) w') ∧ ∀ o,(w.alloc o).cell? ⟨g,m,none⟩ = some (.bool (endB c)) := fun m c hm hr => by
  have hq := hall m c hm hr
  have hlt : m < n := by rw [← hn]; exact (List.getElem?_eq_some_iff.1 hq).1
  exact ⟨fun w' => q4g g n m hlt w',fun o => (hb.up (qd w o)).cell hq⟩
 match S,hk,hS,hkind with
 | .leaf (op,pp),hk,hS,hkind =>
  obtain rfl : x = ⟨op,pp,-1,-1⟩ := by cases hk with | leaf h => rw [h] at hx; injection hx with hx; exact hx.symm
  have ho : op = 0 ∨ op = 1 ∨ op = 2 ∨ op = 4 ∨ op = 5 := by
   rcases hkind with q | q
   ·rcases q1F q with ⟨h,_⟩ | ⟨_,h⟩ <;> omega
   ·exact (q2i q).elim
  rcases ho with rfl | rfl | rfl | rfl | rfl
  ·exact q1o _ _ _ _ _ _ _ _ (by simp)
  ·exact q1u _ _ _ _ _ _ _ _ (by simp)
  ·exact q1u _ _ _ _ _ _ _ _ (by simp)
  ·exact q1u _ _ _ _ _ _ _ _ (by simp)
  ·exact q1o _ _ _ _ _ _ _ _ (by simp)
 | .un (op,pp) c,hk,hS,hkind =>
  obtain ⟨m,rfl,hm,hr⟩ : ∃ m : Nat,x = ⟨op,pp,(m : Int),-1⟩ ∧ m < k ∧ Rep items m c := by cases hk with | un h h1 h2 => rw [h] at hx; injection hx with hx; exact ⟨_,hx.symm,h1,h2⟩
  obtain ⟨hi,hc⟩ := key m c hm hr
  have ho : op = 6 ∨ op = 7 ∨ op = 8 ∨ op = 19 ∨ op = 20 ∨ op = 23 := by
   rcases hkind with q | q
   ·rcases kt_un q with ⟨_,⟨h,_⟩ | ⟨h,_⟩⟩ <;> omega
   ·rcases kp_un q with ⟨_,⟨h,_⟩ | ⟨h,_⟩ | ⟨h,_⟩⟩ <;> omega
  rcases ho with rfl | rfl | rfl | rfl | rfl | rfl
  ·exact q1o _ _ _ _ _ _ _ _ (by simp)
  ·exact q1u _ _ _ _ _ _ _ _ (by simp)
  ·exact q1o _ _ _ _ _ _ _ _ (by simp)
  ·exact q1u _ _ _ _ _ _ _ _ (by simp)
  ·exact q6X _ _ _ _ _ _ _ g _ rfl m (endB c) (hi _) (hc _)
  ·exact q1o _ _ _ _ _ _ _ _ (by simp)
 | .bin (op,pp) c d,hk,hS,hkind =>
  obtain ⟨m,l,rfl,hm,hl,hr,hr2⟩ : ∃ m l : Nat,x = ⟨op,pp,(m : Int),(l : Int)⟩ ∧ m < k ∧ l < k ∧ Rep items m c ∧ Rep items l d := by cases hk with | bin h h1 h2 h3 h4 => rw [h] at hx; injection hx with hx; exact ⟨_,_,hx.symm,h1,h2,h3,h4⟩
  obtain ⟨hi,hc⟩ := key m c hm hr
  obtain ⟨hi2,hc2⟩ := key l d hl hr2
  have ho : op = 11 ∨ op = 12 ∨ op = 15 ∨ op = 16 ∨ op = 17 ∨ op = 18 ∨ op = 21 ∨ op = 22 := by
   rcases hkind with q | q
   ·have := (q1t q).2; omega
   ·have := (q1k q).2.1; omega
  rcases ho with rfl | rfl | rfl | rfl | rfl | rfl | rfl | rfl
  ·exact q2D _ _ _ _ _ _ _ g _ (by simp) m l (endB c) (endB d) (hi _) (hc _) (hi2 _) (hc2 _)
  ·exact q4O _ _ _ _ _ _ _ g _ (by simp) m l (endB c) (endB d) (hi _) (hc _) (hi2 _) (hc2 _)
  ·exact q1u _ _ _ _ _ _ _ _ (by simp)
  ·exact q1o _ _ _ _ _ _ _ _ (by simp)
  ·exact q2D _ _ _ _ _ _ _ g _ (by simp) m l (endB c) (endB d) (hi _) (hc _) (hi2 _) (hc2 _)
  ·exact q7Y _ _ _ _ _ _ _ g _ rfl m l (endB c) (endB d) (hi _) (hc _) (hi2 _) (hc2 _)
  ·exact q4O _ _ _ _ _ _ _ g _ (by simp) m l (endB c) (endB d) (hi _) (hc _) (hi2 _) (hc2 _)
  ·exact q2D _ _ _ _ _ _ _ g _ (by simp) m l (endB c) (endB d) (hi _) (hc _) (hi2 _) (hc2 _)
theorem qbB : (Tryz.prog.info? 4).map (fun i => (i.zero,i.size,i.bytes)) = some (some (.bool false),1,1) := by kernel_rfl
theorem qgz (n : Nat) : madeCells #[.bool false] n = Array.replicate n (.bool false) := by
 unfold madeCells
 apply Array.ext
 ·simp
 ·intro i h1 h2
  simp [Nat.mod_one]
theorem qbN (l : Nat) (hb : l ≤ 100000000) (w : World) :
  (Instr.makeSlice 28 (.int .i64 (l : Int)) (.int .i64 (l : Int))).run Tryz.prog w = .ok (.slice (some ⟨w.heap.size,0,none⟩) l l) (w.alloc (.cells (Array.replicate l (Value.bool false)) 4)) := by
 obtain ⟨i,hi,hz0,hz1,hz2⟩ := info_parts qbB
 have := run_make (P := Tryz.prog) w 28 4 i (.bool false) Tryz.underlying28 hi hz0 .i64 .i64 (l : Int) (l : Int) (by omega) (by omega) (by rw [hz2]; omega) (by omega)
 rw [this,hz1]
 simp only [Int.toNat_natCast,Nat.mul_one]
 have e : (Value.bool false).cells = #[.bool false] := rfl
 rw [e,qgz]
theorem EbAt.made (w : World) (l : Nat) : EbAt (w.alloc (.cells (Array.replicate l (Value.bool false)) 4)) w.heap.size (List.replicate l false) := by
 unfold EbAt
 rw [(MapKept.heap_alloc w _).1]
 simp
structure EndL (items : List It) (bs : List Bool) : Prop where
 len : bs.length = items.length
 all : ∀ j S,Rep items j S → bs[j]? = some (endB S)
theorem q7X {T0 : Tr} {w : World} {G : Nat → Prop} {b : Nat} {T : TypeId} {rest : List Value} {items : List It} (h : PtO T0 w G b T rest items) :
  Calls Tryz.prog 73 #[.pointer (some ⟨b,0,none⟩)] w fun e w' => e = .returned (.slice (some ⟨w.heap.size,0,none⟩) items.length items.length) ∧ (∃ bs,EndL items bs ∧ EbAt w' w.heap.size bs) ∧ Below w.heap.size w w' := by
 have hfew := h.few
 obtain ⟨texts,hp,_⟩ := h.ex
 obtain ⟨vi,mp,vt,hr,_⟩ := hp.ex
 obtain ⟨ai,ci,rfl⟩ := qK hr.ri
 have c0 := hr.c0
 have c0b : (w.alloc (.cells (Array.replicate items.length (Value.bool false)) 4)).cell? ⟨b,0,none⟩ = some (.slice ai items.length ci) := (hr.up (qd w _)).c0
 have hmk := qbN items.length (by omega) w
 have HH : Hid _ := h
 have HE0 : Hid _ := EbAt.made w items.length
 have HB0 : Hid _ := qd w (.cells (Array.replicate items.length (Value.bool false)) 4)
 have HC : Hid (w.cell? ⟨b,0,none⟩ = some (.slice ai items.length ci)) := c0
 clear h hp hr
 generalize hL : items.length = L at *
 have HL : Hid (items.length = L) := hL
 clear hL
 go_enter Tryz.func73,Tryz.ntmps73
 go_wp2
 go_loopw [17] (fun i wr => ∃ (k : Nat) (bs : List Bool),k ≤ L ∧ i = .int .i64 (k : Int) ∧ Hid (EbAt wr w.heap.size bs) ∧ Hid (bs.length = L) ∧ Hid (∀ j S,j < k → Rep items j S → bs[j]? = some (endB S)) ∧ Hid (Below w.heap.size w wr)) (fun i _ => L - (intOf i).toNat)
 case atStart => exact ⟨0,List.replicate L false,Nat.zero_le _,rfl,HE0,by simp [Hid],fun j S hj => absurd hj (by omega),HB0⟩
 case round =>
  clear HE0 HB0 c0 c0b hmk
  obtain ⟨k,bs,hk,rfl,HE,HLN,HALL,HB⟩ := hrel
  by_cases hlt : k < L
  ·have hki : k < items.length := by have := HL.out; omega
   obtain ⟨S,hrep,hS⟩ := HH.out.cov k hki
   obtain ⟨a,n,cap,g,o,d0,hidx,x0,x1,x2,x3⟩ := (HH.out.up HB.out).at (List.getElem?_eq_getElem hki)
   have ea : Value.slice a n cap = .slice ai L ci := by
    have e1 := qn HC.out HB.out
    rw [d0] at e1
    injection e1
   injection ea with e1 e2 e3
   subst e1 e2 e3
   have hb1 := qd wr (itO items[k])
   have je := q5M HH.out.t0.kt hrep hS items[k] (List.getElem?_eq_getElem hki) w.heap.size n bs (wr.alloc (itO items[k])) (HE.out.up hb1) HLN.out HALL.out
   have hz : (wr.alloc (itO items[k])).heap.size = wr.heap.size + 1 := by simp
   have hbx := (MapKept.heap_alloc wr (itO items[k])).1
   have y0 : (wr.alloc (itO items[k])).cell? ⟨wr.heap.size,0,none⟩ = some (.int .u8 (items[k].op : Int)) := qb hbx 0
   have y1 : (wr.alloc (itO items[k])).cell? ⟨wr.heap.size,1,none⟩ = some (.int .u8 (items[k].p : Int)) := qb hbx 1
   have y2 : (wr.alloc (itO items[k])).cell? ⟨wr.heap.size,2,none⟩ = some (.int .i64 items[k].a) := qb hbx 2
   have y3 : (wr.alloc (itO items[k])).cell? ⟨wr.heap.size,3,none⟩ = some (.int .i64 items[k].b) := qb hbx 3
   have hb2 : Below wr.heap.size wr ((wr.alloc (itO items[k])).alloc (itO items[k])) := qe hb1 (qd _ _)
   have HE2 : Hid (EbAt ((wr.alloc (itO items[k])).alloc (itO items[k])) w.heap.size bs) := EbAt.up HE.out hb2
   have HB2 : Hid _ := qe HB.out hb2
   have hix := fun w' => q4g w.heap.size n k hlt w'
   have hbk : bs[k]? = some (bs[k]'(by rw [HLN.out]; exact hlt)) := List.getElem?_eq_getElem _
   have cB := HE2.out.cell hbk
   have zB := HE2.out.fz k
   have HNX : Hid (∀ j S',j < k + 1 → Rep items j S' → (bs.set k (endB S))[j]? = some (endB S')) := fun j S' hj hr => by
    by_cases e : j = k
    ·subst e
     have := Rep.tree hrep hr
     subst this
     rw [List.getElem?_set_self (by rw [HLN.out]; exact hlt)]
    ·rw [List.getElem?_set_ne (fun h => e h.symm)]
     exact HALL.out j S' (by omega) hr
   have HES : Hid (EbAt (((wr.alloc (itO items[k])).alloc (itO items[k])).setCell ⟨w.heap.size,k,none⟩ (.bool (endB S))) w.heap.size (bs.set k (endB S))) := HE2.out.set k _
   have HBS : Hid (Below w.heap.size w (((wr.alloc (itO items[k])).alloc (itO items[k])).setCell ⟨w.heap.size,k,none⟩ (.bool (endB S)))) := ⟨HB2.out.os,HB2.out.tape,HB2.out.output,by simp; have := HB2.out.size; simp at this; omega,fun j hj => (Below.heap_setCell _ _ _ _ (by dsimp only; omega)).trans (HB2.out.block j hj)⟩
   generalize items[k] = xx at *
   obtain ⟨op,pp,xa,xb⟩ := xx
   generalize endB S = bv at *
   unfold itO itV at *
   dsimp only at *
   clear hbx hb1 hb2 hrep hS HB HE HALL HE2 HB2 hbk
   go_wp2_with fail
   refine je.mono ?_
   rintro e w5 ⟨rfl,rfl⟩
   clear je y0 y1 y2 y3 x0 x1 x2 x3 d0 hidx
   have HLN2 : Hid ((bs.set k bv).length = n) := by show _ = _; rw [List.length_set]; exact HLN.out
   go_wp2
   go_roundw
   case rel => exact ⟨k + 1,bs.set k bv,by omega,by go_num,HES,HLN2,HNX,HBS⟩
   case measure => simp [intOf] <;> omega
  ·obtain rfl : k = L := by omega
   have HEND : Hid (∃ bs,EndL items bs ∧ EbAt wr w.heap.size bs) := ⟨bs,⟨by rw [HLN.out,HL.out],fun j S hr => HALL.out j S (by have := hr.lt; have := HL.out; omega) hr⟩,HE.out⟩
   clear HE HALL
   go_wp2
   go_ret
   exact ⟨rfl,HEND.out,HB.out⟩
end Go.Proofs.YtailhklbmenaoaaGreatDoor
