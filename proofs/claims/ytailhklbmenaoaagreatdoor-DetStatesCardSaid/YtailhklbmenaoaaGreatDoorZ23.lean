/- Texts of the proof, put together: what it uses. -/
import Derived.Deep.DeepCutAuto
import Derived.Test.YtailhklbmenaoaaGreatDoorZ01
import Derived.Test.YtailhklbmenaoaaGreatDoorZ05
import Derived.Test.YtailhklbmenaoaaGreatDoorZ07
import Derived.Test.YtailhklbmenaoaaGreatDoorZ16
import Derived.Test.YtailhklbmenaoaaGreatDoorZ18
import Derived.Test.YtailhklbmenaoaaGreatDoorZ22
set_option maxRecDepth 100000
set_option maxHeartbeats 16000000
namespace Go.Proofs.YtailhklbmenaoaaGreatDoor
open Go.RowKit Go.Maps
def txOf (f : List Tk) : ByteArray := ⟨(f.map fun k => UInt8.ofNat (k.1 * 8 + k.2)).toArray⟩
def SmT (f : List Tk) : Prop := ∀ k ∈ f,k.1 ≤ 23 ∧ k.2 ≤ 7
theorem qef {a b : Tk} (ha : a.1 ≤ 23 ∧ a.2 ≤ 7) (hb : b.1 ≤ 23 ∧ b.2 ≤ 7) (h : UInt8.ofNat (a.1 * 8 + a.2) = UInt8.ofNat (b.1 * 8 + b.2)) : a = b := by
 have := congrArg UInt8.toNat h
 simp at this
 obtain ⟨a1,a2⟩ := a
 obtain ⟨b1,b2⟩ := b
 simp only [Prod.mk.injEq]
 dsimp only at *
 omega
theorem qfa : ∀ {f g : List Tk},SmT f → SmT g → txOf f = txOf g → f = g := by
 intro f g hf hg h
 have h1 : (f.map fun k => UInt8.ofNat (k.1 * 8 + k.2)) = g.map fun k => UInt8.ofNat (k.1 * 8 + k.2) := by
  have := congrArg (fun x : ByteArray => x.data.toList) h
  simpa [txOf] using this
 clear h
 induction f generalizing g with
 | nil => cases g with
  | nil => rfl
  | cons y g => simp at h1
 | cons x f ih => cases g with
  | nil => simp at h1
  | cons y g =>
   rw [List.map_cons,List.map_cons] at h1
   injection h1 with e1 e2
   rw [qef (hf x (by simp)) (hg y (by simp)) e1,ih (fun k hk => hf k (by simp [hk])) (fun k hk => hg k (by simp [hk])) e2]
def nmF (M : Mt) (s : ByteArray) : Option Nat := M.findIdx? fun f => decide (txOf f = s)
theorem q5k {p q : List Tk → Bool} : ∀ {M : Mt},(∀ f ∈ M,p f = q f) → M.findIdx? p = M.findIdx? q
 | [],_ => rfl
 | f :: M,h => by
  rw [List.findIdx?_cons,List.findIdx?_cons,h f (by simp),q5k fun g hg => h g (by simp [hg])]
theorem qbg {M : Mt} (hM : ∀ f ∈ M,SmT f) {g : List Tk} (hg : SmT g) : nmF M (txOf g) = M.findIdx? (· == g) := by
 refine q5k fun f hf => ?_
 by_cases e : f = g
 ·subst e; simp
 ·have : ¬ txOf f = txOf g := fun h => e (qfa (hM f hf) hg h)
  simp [e,this]
theorem qeL {M : Mt} (hM : ∀ f ∈ M,SmT f) {g : List Tk} (hg : SmT g) (hn : M.findIdx? (· == g) = none) (y : ByteArray) : (if y = txOf g then some M.length else nmF M y) = nmF (M ++ [g]) y := by
 by_cases e : y = txOf g
 ·subst e
  rw [if_pos rfl]
  unfold nmF
  rw [List.findIdx?_append,show M.findIdx? (fun f => decide (txOf f = txOf g)) = none from (qbg hM hg).trans hn]
  simp
 ·rw [if_neg e]
  unfold nmF
  rw [List.findIdx?_append]
  have : ¬ txOf g = y := fun h => e h.symm
  simp [this]
theorem PtR.setRest {w : World} {b mp n j : Nat} {T : TypeId} {rest : List Value} {vi vt : Value} {items : List It} {texts : List ByteArray} {f : It → Option Nat} (h : PtR w b T rest vi mp vt items texts n f) (v : Value) :
  PtR (w.setCell ⟨b,3 + j,none⟩ v) b T (rest.set j v) vi mp vt items texts n f := by
 have st : ∀ k,k ≠ b → (w.setCell ⟨b,3 + j,none⟩ v).heap[k]? = w.heap[k]? := fun k hk => Below.heap_setCell _ _ _ _ hk
 refine ⟨h.ty,?_,qs h.ri fun k hk => st k (fun e => h.ib (e ▸ hk)),qs h.rt fun k hk => st k (fun e => h.tb (e ▸ hk)),h.num.far (st mp h.mb)⟩
 rw [heap_setCell_same w b (3 + j) _ _ v h.blk]
 unfold ptA
 congr 2
 rw [show 3 + j = j + 1 + 1 + 1 by omega]
 simp
theorem PtO.setRest {T0 : Tr} {w : World} {G : Nat → Prop} {b j : Nat} {T : TypeId} {rest : List Value} {items : List It} (h : PtO T0 w G b T rest items) (v : Value) :
  PtO T0 (w.setCell ⟨b,3 + j,none⟩ v) G b T (rest.set j v) items := by
 obtain ⟨texts,hp,ht⟩ := h.ex
 obtain ⟨vi,mp,vt,hr,hG⟩ := hp.ex
 exact ⟨h.t0,h.low,h.cov,texts,⟨hp.nd,hp.tl,hp.few,hp.ok,hp.tok,vi,mp,vt,hr.setRest v,hG⟩,ht⟩
theorem PtO.blk {T0 : Tr} {w : World} {G : Nat → Prop} {b : Nat} {T : TypeId} {rest : List Value} {items : List It} (h : PtO T0 w G b T rest items) : ∃ vi mp vt,w.heap[b]? = some (.cells (ptA vi mp vt rest) T (0,0)) ∧ G b := by
 obtain ⟨texts,hp,ht⟩ := h.ex
 obtain ⟨vi,mp,vt,hr,hG⟩ := hp.ex
 exact ⟨vi,mp,vt,hr.blk,(hG b).2 (Or.inl rfl)⟩
def pgRest (p mn : Nat) (vm vs : Value) : List Value := [pgV p,.map (some mn),vm,vs]
def MetOk (items : List It) (met : List Nat) (M : Mt) : Prop := met.length = M.length ∧ ∀ (n i : Nat),met[n]? = some i → ∃ S : Tr,Rep items i S ∧ M[n]? = some S.flat
theorem MetOk.pre {items items' : List It} {met : List Nat} {M : Mt} (h : MetOk items met M) (hp : items <+: items') : MetOk items' met M := ⟨h.1,fun n i hi => by
 obtain ⟨S,h1,h2⟩ := h.2 n i hi
 exact ⟨S,h1.pre hp,h2⟩⟩
structure PgR (T0 : Tr) (w : World) (G : Nat → Prop) (p mn : Nat) (vm vs : Value) (items : List It) (met : List Nat) (M : Mt) : Prop where
 po : PtO T0 w G p 128 (pgRest p mn vm vs) items
 row : w.ownsRow 0 3 1 vm met.length (encM met)
 num : NumS w mn met.length (nmF M)
 met : MetOk items met M
 ng : ¬ G mn
 nv : ∀ k,vm.ownBlock = some k → ¬ G k
def FQ (G : Nat → Prop) (mn : Nat) (vm : Value) (k : Nat) : Prop := G k ∨ k = mn ∨ vm.ownBlock = some k
structure PgO (T0 : Tr) (w : World) (F : Nat → Prop) (p : Nat) (vs : Value) (items : List It) (M : Mt) : Prop where
 few : M.length ≤ 64
 nd : M.Nodup
 of : ∀ f ∈ M,∃ S,KT S ∧ InC T0 S ∧ f = S.flat
 ex : ∃ G mn vm met,PgR T0 w G p mn vm vs items met M ∧ ∀ k,F k ↔ FQ G mn vm k
section
variable {T0 : Tr} {w : World} {G : Nat → Prop} {p mn : Nat} {vm vs : Value} {items : List It} {met : List Nat} {M : Mt}
theorem PgR.vn (h : PgR T0 w G p mn vm vs items met M) : vm.ownBlock ≠ some mn := by
 obtain ⟨es,c,hm⟩ := h.num.isMap
 exact q2m h.row hm fun cs e => by cases e
theorem PgR.lt (h : PgR T0 w G p mn vm vs items met M) : ∀ k,FQ G mn vm k → k < w.heap.size := fun k hk => by
 rcases hk with hk | rfl | hk
 ·exact h.po.lt k hk
 ·exact h.num.lt
 ·exact qR h.row k hk
theorem PgR.far {w' : World} (h : PgR T0 w G p mn vm vs items met M) (hb : ∀ k,FQ G mn vm k → w'.heap[k]? = w.heap[k]?) : PgR T0 w' G p mn vm vs items met M :=
 ⟨h.po.far fun k hk => hb k (Or.inl hk),qs h.row fun k hk => hb k (Or.inr (Or.inr hk)),h.num.far (hb mn (Or.inr (Or.inl rfl))),h.met,h.ng,h.nv⟩
theorem PgR.c4 (h : PgR T0 w G p mn vm vs items met M) : w.cell? ⟨p,4,none⟩ = some (.map (some mn)) := by
 obtain ⟨vi,mp,vt,hb,_⟩ := h.po.blk
 exact qb hb 4
theorem PgR.c3 (h : PgR T0 w G p mn vm vs items met M) : w.cell? ⟨p,3,none⟩ = some (.pointer (some ⟨p,0,none⟩)) := by
 obtain ⟨vi,mp,vt,hb,_⟩ := h.po.blk
 exact qb hb 3
theorem PgR.c5 (h : PgR T0 w G p mn vm vs items met M) : w.cell? ⟨p,5,none⟩ = some vm := by
 obtain ⟨vi,mp,vt,hb,_⟩ := h.po.blk
 exact qb hb 5
theorem PgR.c6 (h : PgR T0 w G p mn vm vs items met M) : w.cell? ⟨p,6,none⟩ = some vs := by
 obtain ⟨vi,mp,vt,hb,_⟩ := h.po.blk
 exact qb hb 6
theorem PgR.gp (h : PgR T0 w G p mn vm vs items met M) : G p := by
 obtain ⟨vi,mp,vt,hb,hg⟩ := h.po.blk
 exact hg
theorem PgR.fz (h : PgR T0 w G p mn vm vs items met M) (j : Nat) : w.frozen? ⟨p,j,none⟩ = false := by
 obtain ⟨vi,mp,vt,hb,_⟩ := h.po.blk
 exact frozen_of_row w p j _ _ hb
theorem PgR.part {w' : World} {G' : Nat → Prop} {items' : List It} (h : PgR T0 w G p mn vm vs items met M) (hp : PtO T0 w' G' p 128 (pgRest p mn vm vs) items') (hi : items <+: items') (fr : Fr w w' G G') : PgR T0 w' G' p mn vm vs items' met M ∧ Fr w w' (FQ G mn vm) (FQ G' mn vm) := by
 refine ⟨⟨hp,qs h.row fun k hk => fr.keep k (qR h.row k hk) (h.nv k hk),h.num.far (fr.keep mn h.num.lt h.ng),h.met.pre hi,fr.out h.ng h.num.lt,fun k hk => fr.out (h.nv k hk) (qR h.row k hk)⟩,fr.os,fr.tape,fr.output,fr.size,fun k hk hF => fr.keep k hk fun e => hF (Or.inl e),fun k hk => ?_⟩
 rcases hk with hk | hk | hk
 ·exact (fr.foot k hk).imp Or.inl id
 ·exact Or.inl (Or.inr (Or.inl hk))
 ·exact Or.inl (Or.inr (Or.inr hk))
theorem PgR.put {w' : World} (h : PgR T0 w G p mn vm vs items met M) (hg : w.grownBy w' (some mn)) : PtO T0 w' G p 128 (pgRest p mn vm vs) items ∧ w'.ownsRow 0 3 1 vm met.length (encM met) ∧ Fr w w' (FQ G mn vm) (FQ G mn vm) := by
 have st : ∀ k,k < w.heap.size → k ≠ mn → w'.heap[k]? = w.heap[k]? := fun k hk hne => hg.block k hk (fun e => hne (by injection e))
 exact ⟨h.po.far fun k hk => st k (h.po.lt k hk) (fun e => h.ng (e ▸ hk)),qs h.row fun k hk => st k (qR h.row k hk) (fun e => h.vn (e ▸ hk)),hg.os,hg.tape,hg.output,hg.size,fun k hk hF => st k hk fun e => hF (Or.inr (Or.inl e)),fun _ hk => Or.inl hk⟩
end
section
variable {T0 : Tr} {w : World} {F : Nat → Prop} {p : Nat} {vs : Value} {items : List It} {M : Mt}
theorem PgO.lt (h : PgO T0 w F p vs items M) : ∀ k,F k → k < w.heap.size := fun k hk => by
 obtain ⟨G,mn,vm,met,hr,hF⟩ := h.ex
 exact hr.lt k ((hF k).1 hk)
theorem PgO.far {w' : World} (h : PgO T0 w F p vs items M) (hb : ∀ k,F k → w'.heap[k]? = w.heap[k]?) : PgO T0 w' F p vs items M := by
 obtain ⟨G,mn,vm,met,hr,hF⟩ := h.ex
 exact ⟨h.few,h.nd,h.of,G,mn,vm,met,hr.far fun k hk => hb k ((hF k).2 hk),hF⟩
theorem PgO.up {w' : World} (h : PgO T0 w F p vs items M) (hb : Below w.heap.size w w') : PgO T0 w' F p vs items M := h.far fun k hk => hb.block k (h.lt k hk)
theorem PgO.small (h : PgO T0 w F p vs items M) (t0 : KT T0) : ∀ f ∈ M,SmT f := fun f hf => by
 obtain ⟨S,_,h2,rfl⟩ := h.of f hf
 exact qb5 t0 h2
theorem PgO.t0 (h : PgO T0 w F p vs items M) : T0k T0 := by
 obtain ⟨G,mn,vm,met,hr,hF⟩ := h.ex
 exact hr.po.t0
theorem PgO.good (h : PgO T0 w F p vs items M) : GoodM M := ⟨fun f hf => by
 obtain ⟨S,h1,_,rfl⟩ := h.of f hf
 exact ⟨S,h1,rfl⟩,h.few⟩
end
def MetR (T0 : Tr) (w : World) (F : Nat → Prop) (p : Nat) (vs : Value) (items : List It) (M : Mt) (S : Tr) (e : Ending) (w' : World) : Prop :=
 ∃ F',Fr w w' F F' ∧ ((∃ (n : Nat) (M' : Mt),meetM S.flat M = some ([2 ^ n],M') ∧ n < 64 ∧ e = .returned (.int .i64 (n : Int)) ∧ PgO T0 w' F' p vs items M') ∨ (meetM S.flat M = none ∧ e = .panicked thrownP ∧ PgO T0 w' F' p vs items M))
theorem qgE {items : List It} {M : Mt} {met : List Nat} (h : MetOk items met M) {n : Nat} {g : List Tk} (hn : M.findIdx? (· == g) = some n) : n < met.length := by
 have := (List.findIdx?_eq_some_iff_getElem.1 hn).1
 rw [h.1]; exact this
theorem PgR.met1 {T0 : Tr} {w w5 : World} {G : Nat → Prop} {p mn : Nat} {vm vs v5 : Value} {items : List It} {met : List Nat} {M : Mt} {S : Tr} {i : Nat} (t0 : KT T0) (hM : ∀ f ∈ M,SmT f) (hS : InC T0 S) (hi : Rep items i S) (hno : M.findIdx? (· == S.flat) = none)
  (hpo : PtO T0 w G p 128 (pgRest p mn vm vs) items) (hrow : w.ownsRow 0 3 1 vm met.length (encM met)) (hnum : NumS w mn (met.length + 1) (fun y => if y = txB S then some met.length else nmF M y)) (hmet : MetOk items met M) (hng : ¬ G mn) (hnv : ∀ k,vm.ownBlock = some k → ¬ G k)
  (hg : (w.alloc (.cells #[.int .i64 (i : Int)] 3)).grownBy w5 vm.ownBlock) (ho : w5.ownsRow 0 3 1 v5 (met.length + 1) (encM met ++ [.int .i64 (i : Int)])) (hl : v5.ownBlock = vm.ownBlock ∨ v5.ownBlock = some (w.heap.size + 1)) :
  w5.cell? ⟨p,5,none⟩ = some vm ∧ w5.frozen? ⟨p,5,none⟩ = false ∧ PgR T0 (w5.setCell ⟨p,5,none⟩ v5) G p mn v5 vs items (met ++ [i]) (M ++ [S.flat]) ∧ Fr w (w5.setCell ⟨p,5,none⟩ v5) (FQ G mn vm) (FQ G mn v5) := by
 have hb1 := qd w (.cells #[.int .i64 (i : Int)] 3)
 have hz : (w.alloc (.cells #[.int .i64 (i : Int)] 3)).heap.size = w.heap.size + 1 := by simp
 have hs := hg.size
 have st : ∀ k,k < w.heap.size → vm.ownBlock ≠ some k → w5.heap[k]? = w.heap[k]? := fun k hk hne => (hg.block k (by omega) (fun e => hne e.symm)).trans (hb1.block k hk)
 have hGv : ∀ k,G k → vm.ownBlock ≠ some k := fun k hk e => hnv k e hk
 have hpo5 := hpo.far (w' := w5) fun k hk => st k (hpo.lt k hk) (hGv k hk)
 obtain ⟨es,cl,hmap⟩ := hnum.isMap
 have hvn : vm.ownBlock ≠ some mn := q2m hrow hmap fun cs e => by cases e
 obtain ⟨vi,mp,vt,hb5,hgp⟩ := hpo5.blk
 have hv5 : ∀ k,v5.ownBlock = some k → ¬ G k := fun k hk hG => by
  rcases hl with e | e
  ·rw [e] at hk; exact hnv k hk hG
  ·rw [e] at hk; injection hk with hk; have := hpo.lt k hG; omega
 have s6 : ∀ k,k ≠ p → (w5.setCell ⟨p,5,none⟩ v5).heap[k]? = w5.heap[k]? := fun k hk => Below.heap_setCell _ _ _ _ hk
 refine ⟨qb hb5 5,frozen_of_row w5 p 5 _ _ hb5,⟨hpo5.setRest (j := 2) v5,?_,?_,⟨by simp [hmet.1],fun n j hj => ?_⟩,hng,hv5⟩,hg.os,hg.tape,hg.output,by simp; omega,fun k hk hF => ?_,fun k hk => ?_⟩
 ·rw [List.length_append]
  have : encM (met ++ [i]) = encM met ++ [.int .i64 (i : Int)] := by simp [encM]
  rw [this]
  exact qs ho fun k hk => s6 k (fun e => hv5 k hk (e ▸ hgp))
 ·rw [List.length_append]
  refine ((hnum.far (w' := w5.setCell ⟨p,5,none⟩ v5) ((s6 mn (fun e => hng (e ▸ hgp))).trans (st mn hnum.lt hvn))).alike fun y _ => ?_)
  rw [hmet.1]
  exact qeL hM (qb5 t0 hS) hno y
 ·by_cases hlt : n < met.length
  ·rw [List.getElem?_append_left hlt] at hj
   obtain ⟨S',h1,h2⟩ := hmet.2 n j hj
   exact ⟨S',h1,by rw [List.getElem?_append_left (by rw [← hmet.1]; exact hlt)]; exact h2⟩
  ·have hn : n = met.length := by
    have := (List.getElem?_eq_some_iff.1 hj).1
    simp at this
    omega
   subst hn
   simp at hj
   subst hj
   exact ⟨S,hi,by rw [hmet.1]; simp⟩
 ·exact (s6 k fun e => hF (Or.inl (e ▸ hgp))).trans (st k hk fun e => hF (Or.inr (Or.inr e)))
 ·rcases hk with hk | hk | hk
  ·exact Or.inl (Or.inl hk)
  ·exact Or.inl (Or.inr (Or.inl hk))
  ·rcases hl with e | e
   ·rw [e] at hk; exact Or.inl (Or.inr (Or.inr hk))
   ·rw [e] at hk; injection hk with hk; right; omega
theorem q80 {T0 : Tr} {w : World} {F : Nat → Prop} {p : Nat} {vs : Value} {items : List It} {M : Mt} (h : PgO T0 w F p vs items M) (i : Nat) (S : Tr) (hi : Rep items i S) (hS : InC T0 S) (kS : KT S) :
  Calls Tryz.prog 127 #[.pointer (some ⟨p,0,none⟩),.int .i64 (i : Int)] w (MetR T0 w F p vs items M S) := by
 obtain ⟨G,mn,vm,met,hr,hF⟩ := h.ex
 have t0 := h.t0
 have hsm := h.small t0.kt
 have jt := q42 hr.po i S hi hS
 have HT : Hid (∀ w1,TextP T0 w G p 128 (pgRest p mn vm vs) items w1 → PgR T0 w1 G p mn vm vs items met M ∧ Fr w w1 (FQ G mn vm) (FQ G mn vm)) := fun w1 hq => hr.part hq.1 (List.prefix_refl _) hq.2
 have hso : SOk (txB S) := by unfold SOk; rw [q6A]; have := (q4u t0.sz hS).1; omega
 have hlk : nmF M (txB S) = M.findIdx? (· == S.flat) := qbg hsm (qb5 t0.kt hS)
 have hfr : ∀ {w' : World} {G' : Nat → Prop} {mn' : Nat} {vm' : Value},Fr w w' (FQ G mn vm) (FQ G' mn' vm') → Fr w w' F (FQ G' mn' vm') := fun fr => fr.alike (fun k hk => (hF k).2 hk) (fun k hk => hk)
 have hml := hr.met.1
 have hfew := h.few
 cases hf : M.findIdx? (· == S.flat) with
 | some n =>
  have hn := qgE hr.met hf
  have hm : meetM S.flat M = some ([2 ^ n],M) := by unfold meetM; rw [hf]
  have HFIN : Hid (∀ w1,TextP T0 w G p 128 (pgRest p mn vm vs) items w1 → MetR T0 w F p vs items M S (.returned (.int .i64 (n : Int))) w1) := fun w1 hq => by
   obtain ⟨h1,h2⟩ := HT.out w1 hq
   exact ⟨_,hfr h2,Or.inl ⟨n,M,hm,by omega,rfl,h.few,h.nd,h.of,G,mn,vm,met,h1,fun k => Iff.rfl⟩⟩
  have HLK : Hid (∀ w1,PgR T0 w1 G p mn vm vs items met M → (Instr.lookup 76 (.map (some mn)) (.string (txB S)) true).run Tryz.prog w1 = .ok (.tuple #[.int .i64 (n : Int),.bool true]) w1) := fun w1 h1 => by
   have := h1.num.look hso
   rw [hlk,hf] at this
   exact this
  clear h hr hF t0 hsm hi hS kS hso hlk hfr hml hfew hf hn hm
  generalize txB S = s at *
  go_enter Tryz.func127,Tryz.ntmps127
  go_wp2_with fail
  refine jt.mono ?_
  rintro e w1 ⟨rfl,hq⟩
  have hR := (HT.out w1 hq).1
  have c4 := hR.c4
  have hlook := HLK.out w1 hR
  have HQ : Hid _ := HFIN.out w1 hq
  clear jt hq hR HT HFIN HLK
  go_wp2
  go_ret
  exact HQ.out
 | none =>
  by_cases hl : M.length < 64
  ·have hm : meetM S.flat M = some ([2 ^ met.length],M ++ [S.flat]) := by unfold meetM; rw [hf,hml]; dsimp only; rw [if_pos hl]
   have HLK : Hid (∀ w1,PgR T0 w1 G p mn vm vs items met M → (Instr.lookup 76 (.map (some mn)) (.string (txB S)) true).run Tryz.prog w1 = .ok (.tuple #[.int .i64 0,.bool false]) w1 ∧ ∃ w',(Instr.mapUpdate 76 (.map (some mn)) (.string (txB S)) (.int .i64 (met.length : Int))).run Tryz.prog w1 = .ok () w' ∧ NumS w' mn (met.length + 1) (fun y => if y = txB S then some met.length else nmF M y) ∧ w1.grownBy w' (some mn)) := fun w1 h1 => by
    have := h1.num.look hso
    rw [hlk,hf] at this
    exact ⟨this,h1.num.put (by omega) hso (hlk.trans hf) met.length (by omega)⟩
   have HM1 : Hid _ := fun (w : World) (w5 : World) (v5 : Value) a b c d e f => PgR.met1 (w := w) (w5 := w5) (v5 := v5) (p := p) (mn := mn) (vm := vm) (vs := vs) (G := G) (met := met) t0.kt hsm hS hi hf a b c hr.met hr.ng hr.nv d e f
   have HFIN : Hid (∀ w6 v5,PgR T0 w6 G p mn v5 vs items (met ++ [i]) (M ++ [S.flat]) → Fr w w6 (FQ G mn vm) (FQ G mn v5) → MetR T0 w F p vs items M S (.returned (.int .i64 (met.length : Int))) w6) := fun w6 v5 h1 h2 => by
    refine ⟨_,hfr h2,Or.inl ⟨met.length,_,hm,by omega,rfl,by simp; omega,List.nodup_append.2 ⟨h.nd,by simp,fun a ha b hb => by simp at hb; subst hb; exact fun e => (by have := List.findIdx?_eq_none_iff.1 hf a ha; simp [e] at this)⟩,fun f hf2 => ?_,G,mn,v5,_,h1,fun k => Iff.rfl⟩⟩
    rcases List.mem_append.1 hf2 with h3 | h3
    ·exact h.of f h3
    ·exact ⟨S,kS,hS,by simpa using h3⟩
   obtain ⟨av,cv,rfl⟩ := qK hr.row
   have hl64 : ((met.length : Int) == 64) = false := by rw [beq_eq_false_iff_ne]; omega
   have hl65 : met.length ≤ 64 := by omega
   clear h hr hF t0 hsm hi hS kS hso hlk hfr hml hfew hf hm hl
   generalize hs : txB S = s at *
   clear hs
   generalize hML : met.length = L at *
   go_enter Tryz.func127,Tryz.ntmps127
   go_wp2_with fail
   refine jt.mono ?_
   rintro e w1 ⟨rfl,hq⟩
   have hR := HT.out w1 hq
   have c4 := hR.1.c4
   have c5 := hR.1.c5
   obtain ⟨hlook,w2,hrun,hn2,hg2⟩ := HLK.out w1 hR.1
   obtain ⟨hpo2,hrow2,fr2⟩ := hR.1.put hg2
   obtain ⟨vi,mp,vt,hb2,hgp⟩ := hpo2.blk
   have d5 : w2.cell? ⟨p,5,none⟩ = some (.slice av L cv) := qb hb2 5
   have hc3 : (w2.alloc (.cells #[.int .i64 (i : Int)] 3)).cell? ⟨w2.heap.size,0,none⟩ = some (.int .i64 (i : Int)) := qb (MapKept.heap_alloc w2 _).1 0
   rw [hML] at hrow2
   have hO3 : (w2.alloc (.cells #[.int .i64 (i : Int)] 3)).ownsRow 0 3 1 (.slice av L cv) L (encM met) := World.ownsRow.alloc hrow2 _
   have HPO : Hid _ := hpo2
   have HROW : Hid _ := hrow2
   have HN2 : Hid _ := hn2
   have HFR2 : Hid (Fr w w2 _ _) := hR.2.trans fr2
   clear jt hq hR HT HLK hpo2 hrow2 fr2 hb2 hgp hn2 hg2
   go_wp2_with (at_builtin; refine q2f Tryz.underlying29 q4K rfl (by decide) rfl _ _ rfl 0 _ L (encM met) (.int .i64 (i : Int)) w2.heap.size rfl rfl hO3 hc3 rfl (by omega) (Nat.zero_le _) ?_)
   intro v5 w5 hown5 hgr5 hloc5
   obtain ⟨a5,k5,rfl⟩ := qK hown5
   obtain ⟨e5,z5,hR5,fr5⟩ := HM1.out w2 w5 _ HPO.out HROW.out HN2.out hgr5 hown5 hloc5
   have HQ : Hid _ := HFIN.out _ _ hR5 (HFR2.out.trans fr5)
   clear hO3 hc3 hown5 hgr5 hloc5 hR5 fr5 d5 HPO HROW HN2 HFR2 HFIN HM1
   go_wp2
   go_ret
   exact HQ.out
  ·have hm : meetM S.flat M = none := by unfold meetM; rw [hf]; dsimp only; rw [if_neg hl]
   have HLK : Hid (∀ w1,PgR T0 w1 G p mn vm vs items met M → (Instr.lookup 76 (.map (some mn)) (.string (txB S)) true).run Tryz.prog w1 = .ok (.tuple #[.int .i64 0,.bool false]) w1) := fun w1 h1 => by
    have := h1.num.look hso
    rw [hlk,hf] at this
    exact this
   have HFIN : Hid (∀ w1,TextP T0 w G p 128 (pgRest p mn vm vs) items w1 → MetR T0 w F p vs items M S (.panicked thrownP) w1) := fun w1 hq => by
    obtain ⟨h1,h2⟩ := HT.out w1 hq
    exact ⟨_,hfr h2,Or.inr ⟨hm,rfl,h.few,h.nd,h.of,G,mn,vm,met,h1,fun k => Iff.rfl⟩⟩
   obtain ⟨av,cv,rfl⟩ := qK hr.row
   have hl64 : ((met.length : Int) == 64) = true := by rw [beq_iff_eq]; omega
   clear h hr hF t0 hsm hi hS kS hso hlk hfr hml hfew hf hm hl
   generalize txB S = s at *
   go_enter Tryz.func127,Tryz.ntmps127
   go_wp2_with fail
   refine jt.mono ?_
   rintro e w1 ⟨rfl,hq⟩
   have hR := (HT.out w1 hq).1
   have c4 := hR.c4
   have c5 := hR.c5
   have hlook := HLK.out w1 hR
   have HQ : Hid _ := HFIN.out w1 hq
   clear jt hq hR HT HFIN HLK
   go_wp2
   obtain ⟨F',fr,⟨_,_,_,_,h,_⟩ | ⟨h1,_,h3⟩⟩ := HQ.out
   ·cases h
   ·exact ⟨rfl,F',fr,Or.inr ⟨h1,rfl,h3⟩⟩
theorem qcU (a b : Nat) (ha : a < 4611686018427387904) (hb : b < 4611686018427387904) : bits .or .i64 (a : Int) (b : Int) = ((a ||| b : Nat) : Int) := by
 have hx : a ||| b < 2 ^ 62 := Nat.or_lt_two_pow (by omega) (by omega)
 show IntKind.i64.wrap ((BitVec.ofInt 64 (a : Int) ||| BitVec.ofInt 64 (b : Int)).toNat : Int) = _
 rw [BitVec.toNat_or,ofInt_u64 a (by omega),ofInt_u64 b (by omega),IntKind.wrap_i64]
 omega
theorem qc3 (a b : Nat) (ha : a < 4611686018427387904) (hb : b < 4611686018427387904) : bits .and .i64 (a : Int) (b : Int) = ((a &&& b : Nat) : Int) := by
 have hx : a &&& b < 2 ^ 62 := Nat.and_lt_two_pow _ (by omega)
 show IntKind.i64.wrap ((BitVec.ofInt 64 (a : Int) &&& BitVec.ofInt 64 (b : Int)).toNat : Int) = _
 rw [BitVec.toNat_and,ofInt_u64 a (by omega),ofInt_u64 b (by omega),IntKind.wrap_i64]
 omega
theorem qcQ {ts : List Tk} {k : Nat} (h : k < ts.length) : bitsL (ts.take (k + 1)) = if ts[k].1 = 2 then bitsL (ts.take k) ||| 2 ^ ts[k].2 else bitsL (ts.take k) := by
 rw [List.take_add_one,List.getElem?_eq_getElem h]
 exact qdh _ _
theorem q5R {ts : List Tk} (h : ∀ t ∈ ts,t.2 ≤ 7) (k : Nat) : bitsL (ts.take k) < 256 := qfl (n := 8) fun p hp => by
 have := h _ (List.mem_of_mem_take hp)
 dsimp only at this
 omega
theorem pow7 {p : Nat} (h : p ≤ 7) : (2 : Nat) ^ p ≤ 128 := Nat.pow_le_pow_right (n := 2) (by decide) h
theorem q8Z {T : Tr} (h : KT T) : ∀ t ∈ T.flat,t.2 ≤ 7 := fun t ht => (q1D T h.1 t ht).2
theorem qbp (x k : Nat) : ((x : Int) / 2 ^ k) = ((x >>> k : Nat) : Int) := by
 rw [Nat.shiftRight_eq_div_pow]
 simp
theorem q5S {ts : List Tk} (h : ∀ t ∈ ts,t.2 ≤ 7) : bitsL ts < 256 := by
 have := q5R h ts.length
 rwa [List.take_length] at this
theorem q7K (a : Option Addr) (len cap : Nat) (ts : List Tk) (w : World) (hT : TkSl w a len cap ts) (h7 : ∀ t ∈ ts,t.2 ≤ 7) (hsz : len ≤ 1000000) :
  Calls Tryz.prog 66 #[.slice a len cap] w fun e w' => e = .returned (.int .i64 (bitsL ts : Int)) ∧ Below w.heap.size w w' := by
 have hlen := hT.hlen
 have HT : Hid _ := hT
 have H7 : Hid _ := h7
 clear hT h7
 go_enter Tryz.func66,Tryz.ntmps66
 go_wp2
 go_loopw [3,8] (fun m j wr => ∃ (k : Nat),k ≤ len ∧ j = .int .i64 k ∧ m = .int .i64 (bitsL (ts.take k) : Int) ∧ Hid (Below w.heap.size w wr)) (fun _ j _ => len - (intOf j).toNat)
 case atStart => exact ⟨0,Nat.zero_le _,rfl,rfl,Below.refl _ _⟩
 case round =>
  obtain ⟨k,hk,rfl,rfl,hbk⟩ := hrel
  by_cases hlt : k < len
  ·have hkl : k < ts.length := by omega
   obtain ⟨g,o,s,hidx0,hc0,hc1,hgw,_⟩ := (HT.out.up hbk.out).at Tryz.underlying22 q1U k hlt
   have hidx := fun w' => hidx0 len w' hlt
   have hp7 := H7.out ts[k] (List.getElem_mem hkl)
   have hsm := q5R H7.out k
   have HN : Hid _ := qcQ hkl
   clear hidx0
   generalize ts[k] = t at *
   generalize bitsL (ts.take k) = x at *
   obtain ⟨op,pp⟩ := t
   dsimp only at *
   by_cases h2 : op = 2
   ·subst h2
    have hmin : min pp 64 = pp := by omega
    have HP := pow7 hp7
    have HSH : Hid (wrap64 ((2 : Int) ^ pp) = (2 : Int) ^ pp) := by
     show _ = _
     rw [show ((2 : Int) ^ pp) = ((2 ^ pp : Nat) : Int) by simp]
     generalize 2 ^ pp = y at HP ⊢
     unfold wrap64
     omega
    have HOR : Hid _ := qcU x (2 ^ pp) (by omega) (by omega)
    have HN2 : Hid (bitsL (ts.take (k + 1)) = x ||| 2 ^ pp) := by show _ = _; rw [HN.out]; rfl
    go_wp2
    go_roundw
    case rel =>
     refine ⟨k + 1,by omega,by go_num,?_,hbk.out.alloc hbk.out.size _⟩
     rw [HN2.out,← HOR.out]
     simp
     rw [HSH.out]
    case measure => simp [intOf]; omega
   ·have HN2 : Hid (bitsL (ts.take (k + 1)) = x) := by
     show _ = _
     rw [HN.out,if_neg h2]
    have h2' : ((op : Int) == 2) = false := by rw [beq_eq_false_iff_ne]; omega
    go_wp2
    go_roundw
    case rel => exact ⟨k + 1,by omega,by go_num,by rw [HN2.out],hbk.out.alloc hbk.out.size _⟩
    case measure => simp [intOf]; omega
  ·obtain rfl : k = len := by omega
   have HF : Hid (bitsL (ts.take k) = bitsL ts) := by show _ = _; rw [List.take_of_length_le (by omega)]
   go_wp2
   go_ret
   exact ⟨by rw [HF.out]; rfl,hbk.out⟩
end Go.Proofs.YtailhklbmenaoaaGreatDoor
