/- Texts of the proof, put together: what it uses. -/
import Derived.Test.YtailhklbmenaoaaGreatDoorZ13
import Derived.Test.YtailhklbmenaoaaGreatDoorZ18
import Derived.Test.YtailhklbmenaoaaGreatDoorZ19
import Derived.Test.YtailhklbmenaoaaGreatDoorZ23
import Derived.Test.YtailhklbmenaoaaGreatDoorZ29
import Derived.Test.YtailhklbmenaoaaGreatDoorZ30
set_option maxRecDepth 100000
set_option maxHeartbeats 16000000
namespace Go.Proofs.YtailhklbmenaoaaGreatDoor
open Go.RowKit Go.Maps
def mkdA (n ak p g : Nat) (cL : Value) (mp : Nat) (cG : Value) : Array Value := #[.int .i64 (n : Int),.int .i64 (ak : Int),.pointer (some ⟨p,0,none⟩),.pointer (some ⟨g,0,none⟩),cL,.map (some mp),cG]
def pcD (r : PcU) : Value := .slice r.a r.len r.cap
theorem US.sameD {w w' : World} {F : Nat → Prop} {a : Option Addr} {n c : Nat} {l : List Nat} (h : US w F a n c l) (hs : w.heap.size ≤ w'.heap.size) (hk : ∀ k,k < n → w'.heap[(adOf a k).block]? = w.heap[(adOf a k).block]?) {F' : Nat → Prop} (hF : ∀ k,k < n → ¬ F' (adOf a k).block) : US w' F' a n c l := by
 refine ⟨⟨h.sl.hlen,h.sl.hcap,h.sl.bd,h.sl.idx,fun k hk2 => ?_,fun k hk2 => Nat.lt_of_lt_of_le (h.sl.blk k hk2) hs,h.sl.nn⟩,hF⟩
 have := h.sl.cell k hk2
 unfold World.cell? at this ⊢
 rw [hk k hk2]; exact this
def ChO (own own' : Nat → Nat) (i s : Nat) : Prop := ∀ k,own' k = own k ∨ (own k = i ∧ own' k = 0) ∨ (s ≤ k ∧ own' k = i)
theorem ChO.refl (own : Nat → Nat) (i s : Nat) : ChO own own i s := fun _ => Or.inl rfl
theorem ChO.pred {own own' : Nat → Nat} {i s : Nat} (h : ChO own own' i s) (hl : ∀ k,own k ≠ 0 → k < s) {j : Nat} (hj : j ≠ i) (h0 : j ≠ 0) : (fun k => own' k = j) = (fun k => own k = j) := by
 funext k
 apply propext
 rcases h k with e | ⟨e1,e2⟩ | ⟨e1,e2⟩
 ·rw [e]
 ·constructor <;> intro h <;> omega
 ·constructor
  ·intro h; omega
  ·intro h; have := hl k (by omega); omega
theorem ChO.at {own own' : Nat → Nat} {i s : Nat} (h : ChO own own' i s) (hl : ∀ k,own k ≠ 0 → k < s) {j : Nat} (hj : j ≠ i) (h0 : j ≠ 0) {k : Nat} (hk : own k = j) : own' k = j := by
 have := congrFun (h.pred hl hj h0) k
 rw [this]; exact hk
theorem ChO.zero {own own' : Nat → Nat} {i s : Nat} (h : ChO own own' i s) {k : Nat} (hk : own k = 0) (hs : k < s) : own' k = 0 := by
 rcases h k with e | ⟨_,e⟩ | ⟨e,_⟩
 ·rw [e]; exact hk
 ·exact e
 ·omega
theorem ChO.fr {own own' : Nat → Nat} {i s : Nat} (h : ChO own own' i s) {w w' : World} (hs : w.heap.size = s) (h0 : i ≠ 0) (os : w'.os = w.os) (tp : w'.tape = w.tape) (ou : w'.output = w.output) (hz : w.heap.size ≤ w'.heap.size) (hk : ∀ k,k < w.heap.size → own k ≠ i → w'.heap[k]? = w.heap[k]?) : Fr w w' (fun k => own k ≠ 0) (fun k => own' k ≠ 0) := by
 refine ⟨os,tp,ou,hz,fun k h1 h2 => hk k h1 ?_,fun k h1 => ?_⟩
 ·have : own k = 0 := Decidable.not_not.1 h2
  omega
 ·rcases h k with e | ⟨_,e⟩ | ⟨e,_⟩
  ·left; rw [← e]; exact h1
  ·exact absurd e h1
  ·right; omega
theorem q7r {own : Nat → Nat} {F' : Nat → Prop} {i s : Nat} (h0 : i ≠ 0) (hf : ∀ k,F' k → own k = i ∨ s ≤ k) : ∃ own',ChO own own' i s ∧ (fun k => own' k = i) = F' := by
 classical
 refine ⟨fun k => if F' k then i else if own k = i then 0 else own k,fun k => ?_,?_⟩
 ·dsimp only
  by_cases h : F' k
  ·rw [if_pos h]
   rcases hf k h with e | e
   ·exact Or.inl e.symm
   ·exact Or.inr (Or.inr ⟨e,rfl⟩)
  ·rw [if_neg h]
   by_cases e : own k = i
   ·rw [if_pos e]; exact Or.inr (Or.inl ⟨e,rfl⟩)
   ·rw [if_neg e]; exact Or.inl rfl
 ·funext k
  apply propext
  by_cases h : F' k
  ·simp [h]
  ·by_cases e : own k = i
   ·simp [h,e]; omega
   ·simp [h,e]
structure MkD (T0 : Tr) (vs : Value) (w : World) (own : Nat → Nat) (b p g n ak mp : Nat) (M : Mt) (cL cG vL vG : Value) (ps : List PcU) (R : List Int) (N : List Gd) (nm : Nat) (f : ByteArray → Option Nat) : Prop where
 lt : ∀ k,own k ≠ 0 → k < w.heap.size
 prg : ∃ items,PgO T0 w (fun k => own k = 1) p vs items M
 st : StG w (fun k => own k = 2) g n N
 blk : w.heap[b]? = some (.cells (mkdA n ak p g cL mp cG) 78 (0,0))
 ob : own b = 3
 num : NumS w mp nm f
 om : own mp = 4
 rl : w.ownsRow 0 46 1 vL ps.length (ps.map pcD)
 ol : ∀ k,vL.ownBlock = some k → own k = 5
 rg : w.ownsRow 0 3 1 vG R.length (R.map (Value.int .i64))
 og : ∀ k,vG.ownBlock = some k → own k = 6
 ls : ∀ r ∈ ps,US w (fun k => own k ≠ 0) r.a r.len r.cap r.ts
 t64 : Tab64 w
 t10 : Tab10 w
 o64 : own tabG = 0
 o10 : own ptG = 0
section
variable {T0 : Tr} {vs : Value} {w w' : World} {own own' : Nat → Nat} {b p g n ak mp nm i : Nat} {M M' : Mt} {cL cG vL vG : Value} {ps : List PcU} {R : List Int} {N : List Gd} {f : ByteArray → Option Nat}
theorem MkD.glt (h : MkD T0 vs w own b p g n ak mp M cL cG vL vG ps R N nm f) : tabG < w.heap.size := World.block_lt_of_cell? _ _ (h.t64 0 (by decide))
structure MkK (T0 : Tr) (vs : Value) (w' : World) (own' : Nat → Nat) (b p g n ak mp : Nat) (M : Mt) (cL cG vL vG : Value) (ps : List PcU) (R : List Int) (N : List Gd) (nm : Nat) (f : ByteArray → Option Nat) (i : Nat) : Prop where
 lt : (∀ k,own' k = i → k < w'.heap.size) → ∀ k,own' k ≠ 0 → k < w'.heap.size
 prg : i ≠ 1 → ∃ items,PgO T0 w' (fun k => own' k = 1) p vs items M
 st : i ≠ 2 → StG w' (fun k => own' k = 2) g n N
 blk : i ≠ 3 → w'.heap[b]? = some (.cells (mkdA n ak p g cL mp cG) 78 (0,0))
 ob : i ≠ 3 → own' b = 3
 num : i ≠ 4 → NumS w' mp nm f
 om : i ≠ 4 → own' mp = 4
 rl : i ≠ 5 → w'.ownsRow 0 46 1 vL ps.length (ps.map pcD)
 ol : i ≠ 5 → ∀ k,vL.ownBlock = some k → own' k = 5
 rg : i ≠ 6 → w'.ownsRow 0 3 1 vG R.length (R.map (Value.int .i64))
 og : i ≠ 6 → ∀ k,vG.ownBlock = some k → own' k = 6
 ls : ∀ r ∈ ps,US w' (fun k => own' k ≠ 0) r.a r.len r.cap r.ts
 t64 : Tab64 w'
 t10 : Tab10 w'
 o64 : own' tabG = 0
 o10 : own' ptG = 0
theorem MkD.keep (h : MkD T0 vs w own b p g n ak mp M cL cG vL vG ps R N nm f) (hc : ChO own own' i w.heap.size) (h0 : i ≠ 0) (hs : w.heap.size ≤ w'.heap.size) (hk : ∀ k,k < w.heap.size → own k ≠ i → w'.heap[k]? = w.heap[k]?) : MkK T0 vs w' own' b p g n ak mp M cL cG vL vG ps R N nm f i := by
 have hz : ∀ k,own k = 0 → k < w.heap.size → w'.heap[k]? = w.heap[k]? := fun k h1 h2 => hk k h2 (by omega)
 refine ⟨fun hi k h1 => ?_,fun hi => ?_,fun hi => ?_,fun hi => ?_,fun hi => hc.at h.lt (Ne.symm hi) (by decide) h.ob,fun hi => ?_,fun hi => hc.at h.lt (Ne.symm hi) (by decide) h.om,fun hi => ?_,fun hi k hv => hc.at h.lt (Ne.symm hi) (by decide) (h.ol k hv),fun hi => ?_,fun hi k hv => hc.at h.lt (Ne.symm hi) (by decide) (h.og k hv),fun r hr => ?_,?_,?_,hc.zero h.o64 h.glt,hc.zero h.o10 h.t10.lt⟩
 ·rcases hc k with e | ⟨_,e⟩ | ⟨_,e⟩
  ·exact Nat.lt_of_lt_of_le (h.lt k (by rw [← e]; exact h1)) hs
  ·exact absurd e h1
  ·exact hi k e
 ·obtain ⟨items,hp⟩ := h.prg
  rw [hc.pred h.lt (Ne.symm hi) (by decide)]
  exact ⟨items,hp.far fun k h1 => hk k (hp.lt k h1) (by omega)⟩
 ·rw [hc.pred h.lt (Ne.symm hi) (by decide)]
  exact h.st.far fun k h1 => hk k (h.st.lt k h1) (by omega)
 ·exact (hk b (h.lt b (by rw [h.ob]; decide)) (by rw [h.ob]; exact Ne.symm hi)).trans h.blk
 ·exact h.num.far (hk mp h.num.lt (by rw [h.om]; exact Ne.symm hi))
 ·exact qs h.rl fun k h1 => hk k (qR h.rl k h1) (by rw [h.ol k h1]; exact Ne.symm hi)
 ·exact qs h.rg fun k h1 => hk k (qR h.rg k h1) (by rw [h.og k h1]; exact Ne.symm hi)
 ·have hu := h.ls r hr
  exact hu.sameD hs (fun k h1 => hz _ (Decidable.not_not.1 (hu.nf k h1)) (hu.sl.blk k h1)) fun k h1 => not_not_intro (hc.zero (Decidable.not_not.1 (hu.nf k h1)) (hu.sl.blk k h1))
 ·intro j hj
  have := h.t64 j hj
  unfold World.cell? at this ⊢
  have e := hz tabG h.o64 h.glt
  unfold tabG at e
  rw [e]; exact this
 ·exact h.t10.keep (hz ptG h.o10 h.t10.lt)
theorem MkD.up (h : MkD T0 vs w own b p g n ak mp M cL cG vL vG ps R N nm f) (hb : Below w.heap.size w w') : MkD T0 vs w' own b p g n ak mp M cL cG vL vG ps R N nm f := by
 have k := h.keep (i := 7) (ChO.refl own 7 _) (by decide) hb.size (fun k h1 _ => hb.block k h1)
 exact ⟨fun k h1 => Nat.lt_of_lt_of_le (h.lt k h1) hb.size,k.prg (by decide),k.st (by decide),k.blk (by decide),h.ob,k.num (by decide),h.om,k.rl (by decide),h.ol,k.rg (by decide),h.og,k.ls,k.t64,k.t10,h.o64,h.o10⟩
theorem MkD.frP {F' : Nat → Prop} (h : MkD T0 vs w own b p g n ak mp M cL cG vL vG ps R N nm f) (hP : ∃ items,PgO T0 w' F' p vs items M') (fr : Fr w w' (fun k => own k = 1) F') : ∃ own',MkD T0 vs w' own' b p g n ak mp M' cL cG vL vG ps R N nm f ∧ Fr w w' (fun k => own k ≠ 0) (fun k => own' k ≠ 0) ∧ ∀ k,own' k ≠ 0 → k < w.heap.size ∨ F' k := by
 obtain ⟨own',hc,e⟩ := q7r (own := own) (i := 1) (by decide) (fun k hk => fr.foot k hk)
 have hk : ∀ k,k < w.heap.size → own k ≠ 1 → w'.heap[k]? = w.heap[k]? := fun k h1 h2 => fr.keep k h1 h2
 have k := h.keep hc (by decide) fr.size hk
 refine ⟨own',⟨k.lt fun z hz => ?_,by rw [e]; exact hP,k.st (by decide),k.blk (by decide),k.ob (by decide),k.num (by decide),k.om (by decide),k.rl (by decide),k.ol (by decide),k.rg (by decide),k.og (by decide),k.ls,k.t64,k.t10,k.o64,k.o10⟩,hc.fr rfl (by decide) fr.os fr.tape fr.output fr.size hk,fun z hz => ?_⟩
 rotate_left
 ·rcases hc z with h1 | ⟨_,h1⟩ | ⟨_,h1⟩
  ·exact Or.inl (h.lt z (by rw [← h1]; exact hz))
  ·exact absurd h1 hz
  ·exact Or.inr ((congrFun e z).mp h1)
 have hz2 : F' z := by
  have := congrFun e z
  rw [← this]; exact hz
 obtain ⟨items,hp⟩ := hP
 exact hp.lt z hz2
theorem MkD.frS {F' : Nat → Prop} {N' : List Gd} (h : MkD T0 vs w own b p g n ak mp M cL cG vL vG ps R N nm f) (hP : StG w' F' g n N') (fr : Fr w w' (fun k => own k = 2) F') : ∃ own',MkD T0 vs w' own' b p g n ak mp M cL cG vL vG ps R N' nm f ∧ Fr w w' (fun k => own k ≠ 0) (fun k => own' k ≠ 0) := by
 obtain ⟨own',hc,e⟩ := q7r (own := own) (i := 2) (by decide) (fun k hk => fr.foot k hk)
 have hk : ∀ k,k < w.heap.size → own k ≠ 2 → w'.heap[k]? = w.heap[k]? := fun k h1 h2 => fr.keep k h1 h2
 have k := h.keep hc (by decide) fr.size hk
 refine ⟨own',⟨k.lt fun z hz => ?_,k.prg (by decide),by rw [e]; exact hP,k.blk (by decide),k.ob (by decide),k.num (by decide),k.om (by decide),k.rl (by decide),k.ol (by decide),k.rg (by decide),k.og (by decide),k.ls,k.t64,k.t10,k.o64,k.o10⟩,hc.fr rfl (by decide) fr.os fr.tape fr.output fr.size hk⟩
 have hz2 : F' z := by
  have := congrFun e z
  rw [← this]; exact hz
 exact hP.lt z hz2
theorem MkD.put {nm' : Nat} {f' : ByteArray → Option Nat} (h : MkD T0 vs w own b p g n ak mp M cL cG vL vG ps R N nm f) (hg : w.grownBy w' (some mp)) (hn : NumS w' mp nm' f') : MkD T0 vs w' own b p g n ak mp M cL cG vL vG ps R N nm' f' ∧ Fr w w' (fun k => own k ≠ 0) (fun k => own k ≠ 0) := by
 have hc : ChO own own 4 w.heap.size := ChO.refl _ _ _
 have hk : ∀ k,k < w.heap.size → own k ≠ 4 → w'.heap[k]? = w.heap[k]? := fun k h1 h2 => hg.block k h1 fun e => by
  injection e with e
  exact h2 (e ▸ h.om)
 have k := h.keep hc (by decide) hg.size hk
 exact ⟨⟨fun z hz => Nat.lt_of_lt_of_le (h.lt z hz) hg.size,k.prg (by decide),k.st (by decide),k.blk (by decide),h.ob,hn,h.om,k.rl (by decide),h.ol,k.rg (by decide),h.og,k.ls,k.t64,k.t10,h.o64,h.o10⟩,hc.fr rfl (by decide) hg.os hg.tape hg.output hg.size hk⟩
theorem MkD.growL {w1 : World} {vL' : Value} {ps' : List PcU} (h : MkD T0 vs w own b p g n ak mp M cL cG vL vG ps R N nm f) (hb1 : Below w.heap.size w w1) (hg : w1.grownBy w' vL.ownBlock) (ho : w'.ownsRow 0 46 1 vL' ps'.length (ps'.map pcD)) (hl : vL'.ownBlock = vL.ownBlock ∨ vL'.ownBlock = some w1.heap.size) (hls : ∀ r ∈ ps',r ∈ ps ∨ US w (fun k => own k ≠ 0) r.a r.len r.cap r.ts) :
  ∃ own',MkD T0 vs w' own' b p g n ak mp M cL cG vL' vG ps' R N nm f ∧ Fr w w' (fun k => own k ≠ 0) (fun k => own' k ≠ 0) := by
 obtain ⟨own',hc,e⟩ := q7r (own := own) (F' := fun k => vL'.ownBlock = some k) (i := 5) (s := w.heap.size) (by decide) fun k hk => by
  rcases hl with e | e
  ·rw [e] at hk; exact Or.inl (h.ol k hk)
  ·rw [e] at hk; injection hk with hk; right; rw [← hk]; exact hb1.size
 have hs : w.heap.size ≤ w'.heap.size := Nat.le_trans hb1.size hg.size
 have hk : ∀ k,k < w.heap.size → own k ≠ 5 → w'.heap[k]? = w.heap[k]? := fun k h1 h2 => (hg.block k (Nat.lt_of_lt_of_le h1 hb1.size) fun e => h2 (h.ol k e.symm)).trans (hb1.block k h1)
 have k := h.keep hc (by decide) hs hk
 refine ⟨_,⟨k.lt fun z hz => ?_,k.prg (by decide),k.st (by decide),k.blk (by decide),k.ob (by decide),k.num (by decide),k.om (by decide),ho,fun z hz => (congrFun e z).mpr hz,k.rg (by decide),k.og (by decide),fun r hr => ?_,k.t64,k.t10,k.o64,k.o10⟩,hc.fr rfl (by decide) (hg.os.trans hb1.os) (hg.tape.trans hb1.tape) (hg.output.trans hb1.output) hs hk⟩
 ·have hz2 : vL'.ownBlock = some z := (congrFun e z).mp hz
  exact qR ho z hz2
 ·rcases hls r hr with hr | hu
  ·exact k.ls r hr
  ·exact hu.sameD hs (fun z h1 => hk _ (hu.sl.blk z h1) (by have := Decidable.not_not.1 (hu.nf z h1); omega)) fun z h1 => not_not_intro (hc.zero (Decidable.not_not.1 (hu.nf z h1)) (hu.sl.blk z h1))
theorem MkD.growG {w1 : World} {vG' : Value} {R' : List Int} (h : MkD T0 vs w own b p g n ak mp M cL cG vL vG ps R N nm f) (hb1 : Below w.heap.size w w1) (hg : w1.grownBy w' vG.ownBlock) (ho : w'.ownsRow 0 3 1 vG' R'.length (R'.map (Value.int .i64))) (hl : vG'.ownBlock = vG.ownBlock ∨ vG'.ownBlock = some w1.heap.size) :
  ∃ own',MkD T0 vs w' own' b p g n ak mp M cL cG vL vG' ps R' N nm f ∧ Fr w w' (fun k => own k ≠ 0) (fun k => own' k ≠ 0) := by
 obtain ⟨own',hc,e⟩ := q7r (own := own) (F' := fun k => vG'.ownBlock = some k) (i := 6) (s := w.heap.size) (by decide) fun k hk => by
  rcases hl with e | e
  ·rw [e] at hk; exact Or.inl (h.og k hk)
  ·rw [e] at hk; injection hk with hk; right; rw [← hk]; exact hb1.size
 have hs : w.heap.size ≤ w'.heap.size := Nat.le_trans hb1.size hg.size
 have hk : ∀ k,k < w.heap.size → own k ≠ 6 → w'.heap[k]? = w.heap[k]? := fun k h1 h2 => (hg.block k (Nat.lt_of_lt_of_le h1 hb1.size) fun e => h2 (h.og k e.symm)).trans (hb1.block k h1)
 have k := h.keep hc (by decide) hs hk
 refine ⟨_,⟨k.lt fun z hz => ?_,k.prg (by decide),k.st (by decide),k.blk (by decide),k.ob (by decide),k.num (by decide),k.om (by decide),k.rl (by decide),k.ol (by decide),ho,fun z hz => (congrFun e z).mpr hz,k.ls,k.t64,k.t10,k.o64,k.o10⟩,hc.fr rfl (by decide) (hg.os.trans hb1.os) (hg.tape.trans hb1.tape) (hg.output.trans hb1.output) hs hk⟩
 have hz2 : vG'.ownBlock = some z := (congrFun e z).mp hz
 exact qR ho z hz2
theorem MkD.set3 {cL' cG' v : Value} {j : Nat} (h : MkD T0 vs w own b p g n ak mp M cL cG vL vG ps R N nm f) (hj : (mkdA n ak p g cL mp cG).setIfInBounds j v = mkdA n ak p g cL' mp cG') : MkD T0 vs (w.setCell ⟨b,j,none⟩ v) own b p g n ak mp M cL' cG' vL vG ps R N nm f ∧ Fr w (w.setCell ⟨b,j,none⟩ v) (fun k => own k ≠ 0) (fun k => own k ≠ 0) := by
 have hc : ChO own own 3 w.heap.size := ChO.refl _ _ _
 have hk : ∀ k,k < w.heap.size → own k ≠ 3 → (w.setCell ⟨b,j,none⟩ v).heap[k]? = w.heap[k]? := fun k h1 h2 => Below.heap_setCell _ _ _ _ fun e => by
  have e2 : k = b := e
  exact h2 (e2 ▸ h.ob)
 have hs : w.heap.size ≤ (w.setCell ⟨b,j,none⟩ v).heap.size := by simp
 have k := h.keep hc (by decide) hs hk
 refine ⟨⟨fun z hz => Nat.lt_of_lt_of_le (h.lt z hz) hs,k.prg (by decide),k.st (by decide),?_,h.ob,k.num (by decide),h.om,k.rl (by decide),h.ol,k.rg (by decide),h.og,k.ls,k.t64,k.t10,h.o64,h.o10⟩,hc.fr rfl (by decide) rfl rfl rfl hs hk⟩
 rw [heap_setCell_same w b j _ _ _ h.blk,hj]
theorem MkD.cn (h : MkD T0 vs w own b p g n ak mp M cL cG vL vG ps R N nm f) : w.cell? ⟨b,0,none⟩ = some (.int .i64 (n : Int)) := qb h.blk 0
theorem MkD.ca (h : MkD T0 vs w own b p g n ak mp M cL cG vL vG ps R N nm f) : w.cell? ⟨b,1,none⟩ = some (.int .i64 (ak : Int)) := qb h.blk 1
theorem MkD.cp (h : MkD T0 vs w own b p g n ak mp M cL cG vL vG ps R N nm f) : w.cell? ⟨b,2,none⟩ = some (.pointer (some ⟨p,0,none⟩)) := qb h.blk 2
theorem MkD.cs (h : MkD T0 vs w own b p g n ak mp M cL cG vL vG ps R N nm f) : w.cell? ⟨b,3,none⟩ = some (.pointer (some ⟨g,0,none⟩)) := qb h.blk 3
theorem MkD.cl (h : MkD T0 vs w own b p g n ak mp M cL cG vL vG ps R N nm f) : w.cell? ⟨b,4,none⟩ = some cL := qb h.blk 4
theorem MkD.cm (h : MkD T0 vs w own b p g n ak mp M cL cG vL vG ps R N nm f) : w.cell? ⟨b,5,none⟩ = some (.map (some mp)) := qb h.blk 5
theorem MkD.cg (h : MkD T0 vs w own b p g n ak mp M cL cG vL vG ps R N nm f) : w.cell? ⟨b,6,none⟩ = some cG := qb h.blk 6
theorem MkD.fz (h : MkD T0 vs w own b p g n ak mp M cL cG vL vG ps R N nm f) (j : Nat) : w.frozen? ⟨b,j,none⟩ = false := frozen_of_row w b j _ _ h.blk
theorem MkD.off (h : MkD T0 vs w own b p g n ak mp M cL cG vL vG ps R N nm f) {z : Nat} (hz : own z = 0) (hl : ∀ r ∈ ps,∀ k,k < r.len → (adOf r.a k).block ≠ z) (h64 : z ≠ tabG) (h10 : z ≠ ptG) (j : Nat) (v : Value) : MkD T0 vs (w.setCell ⟨z,j,none⟩ v) own b p g n ak mp M cL cG vL vG ps R N nm f := by
 have s6 : ∀ k,k ≠ z → (w.setCell ⟨z,j,none⟩ v).heap[k]? = w.heap[k]? := fun k hk => Below.heap_setCell _ _ _ _ hk
 have so : ∀ k,own k ≠ 0 → (w.setCell ⟨z,j,none⟩ v).heap[k]? = w.heap[k]? := fun k hk => s6 k fun e => hk (e ▸ hz)
 have hs : w.heap.size ≤ (w.setCell ⟨z,j,none⟩ v).heap.size := by simp
 obtain ⟨items,hp⟩ := h.prg
 refine ⟨fun k hk => Nat.lt_of_lt_of_le (h.lt k hk) hs,⟨items,hp.far fun k h1 => so k (by omega)⟩,h.st.far fun k h1 => so k (by omega),(so b (by rw [h.ob]; decide)).trans h.blk,h.ob,h.num.far (so mp (by rw [h.om]; decide)),h.om,qs h.rl fun k h1 => so k (by rw [h.ol k h1]; decide),h.ol,qs h.rg fun k h1 => so k (by rw [h.og k h1]; decide),h.og,fun r hr => (h.ls r hr).sameD hs (fun k h1 => s6 _ (hl r hr k h1)) (h.ls r hr).nf,?_,h.t10.keep (s6 ptG (Ne.symm h10)),h.o64,h.o10⟩
 intro j2 hj
 have := h.t64 j2 hj
 unfold World.cell? at this ⊢
 have e := s6 tabG (Ne.symm h64)
 unfold tabG at e
 rw [e]; exact this
end
def DkO (T0 : Tr) (vs : Value) (w : World) (own : Nat → Nat) (b n ak : Nat) (M : Mt) (S : List (List Nat)) (R : List Int) (N : List Gd) : Prop :=
 ∃ p g mp vL vG ps,MkD T0 vs w own b p g n ak mp M vL vG vL vG ps R N S.length (posT S) ∧ ps.map PcU.ts = S ∧ S.length ≤ 256
def StE (T0 : Tr) (vs : Value) (w : World) (own : Nat → Nat) (b n ak : Nat) (M : Mt) (S : List (List Nat)) (R : List Int) (N : List Gd) (L : List Nat) (e : Ending) (w' : World) : Prop :=
 ∃ own',Fr w w' (fun k => own k ≠ 0) (fun k => own' k ≠ 0) ∧ ((putD L S = none ∧ e = .returned (.tuple #[.int .i64 0,.int .i64 10]) ∧ DkO T0 vs w' own' b n ak M S R N) ∨ ∃ j S1,putD L S = some (j,S1) ∧ e = .returned (.tuple #[.int .i64 (j : Int),.int .i64 0]) ∧ DkO T0 vs w' own' b n ak M S1 R N)
section
variable {T0 : Tr} {vs : Value} {w w' : World} {own : Nat → Nat} {b n ak : Nat} {M : Mt} {S : List (List Nat)} {R : List Int} {N : List Gd}
theorem DkO.up (h : DkO T0 vs w own b n ak M S R N) (hb : Below w.heap.size w w') : DkO T0 vs w' own b n ak M S R N := by
 obtain ⟨p,g,mp,vL,vG,ps,hr,h2⟩ := h
 exact ⟨p,g,mp,vL,vG,ps,hr.up hb,h2⟩
theorem DkO.lt (h : DkO T0 vs w own b n ak M S R N) : ∀ k,own k ≠ 0 → k < w.heap.size := by
 obtain ⟨p,g,mp,vL,vG,ps,hr,h2⟩ := h
 exact hr.lt
end
theorem qgc {L : List Nat} (hs : Sm L) (hl : L.length ≤ 1024) : SOk (txS L) := by
 have := q6C L hs
 have e : (txS L).size = (txtD L).length := by simp [txS,ByteArray.size]
 unfold SOk
 omega
theorem q9z : (Tryz.prog.info? 46).map (fun i => (i.zero,i.size,i.bytes)) = some (some (.slice none 0 0),1,24) := by kernel_rfl
theorem q3D {T0 : Tr} {vs : Value} {w : World} {own : Nat → Nat} {b n ak : Nat} {M : Mt} {S : List (List Nat)} {R : List Int} {N : List Gd} (h : DkO T0 vs w own b n ak M S R N) (a : Option Addr) (m c : Nat) (L : List Nat) (hU : US w (fun k => own k ≠ 0) a m c L) (hs : Sm L) (hl : m ≤ 1024) :
  Calls Tryz.prog 68 #[.pointer (some ⟨b,0,none⟩),.slice a m c] w (StE T0 vs w own b n ak M S R N L) := by
 obtain ⟨Q,hQ⟩ : ∃ Q : Ending → World → Prop,Q = StE T0 vs w own b n ak M S R N L := ⟨_,rfl⟩
 have HQ : Hid (∀ e w',StE T0 vs w own b n ak M S R N L e w' → Q e w') := fun e w' h => by rw [hQ]; exact h
 rw [← hQ]
 clear hQ
 obtain ⟨p,g,mp,vL,vG,ps,hr,hps,hfew⟩ := h
 have jt := qa0 a m c L w hU.sl hs hl hr.t10
 have hml := hU.sl.len
 have hok : SOk (txS L) := qgc hs (by omega)
 have hpl : ps.length = S.length := by rw [← hps]; simp
 by_cases hm : L ∈ S
 ·have HN : Hid (∀ w1,Below w.heap.size w w1 → w1.cell? ⟨b,5,none⟩ = some (.map (some mp)) ∧ (Instr.lookup 76 (.map (some mp)) (.string (txS L)) true).run Tryz.prog w1 = .ok (.tuple #[.int .i64 ((S.idxOf L : Nat) : Int),.bool true]) w1 ∧ Q (.returned (.tuple #[.int .i64 ((S.idxOf L : Nat) : Int),.int .i64 0])) w1) := fun w1 hb => by
   have h1 := hr.up hb
   have hlook := h1.num.look hok
   rw [qcs hm] at hlook
   exact ⟨h1.cm,hlook,HQ.out _ _ ⟨own,Fr.ofBelow hb,Or.inr ⟨_,S,by unfold putD; rw [if_pos hm],rfl,p,g,mp,vL,vG,ps,h1,hps,hfew⟩⟩⟩
  generalize S.idxOf L = j at *
  generalize txS L = X at *
  clear hr hps hfew hU hs hl hok hml hpl HQ hm
  go_enter Tryz.func68,Tryz.ntmps68
  go_wp2_with fail
  refine jt.mono ?_
  rintro e w1 ⟨rfl,hb⟩
  obtain ⟨cm,hlook,hR⟩ := HN.out w1 hb
  have HR : Hid _ := hR
  clear HN hR hb jt
  go_wp2
  exact HR.out
 ·obtain ⟨aL,kL,rfl⟩ := q1G hr.rl
  by_cases hL : S.length = 256
  ·have HN : Hid (∀ w1,Below w.heap.size w w1 → w1.cell? ⟨b,5,none⟩ = some (.map (some mp)) ∧ w1.cell? ⟨b,4,none⟩ = some (.slice aL ps.length kL) ∧ (Instr.lookup 76 (.map (some mp)) (.string (txS L)) true).run Tryz.prog w1 = .ok (.tuple #[.int .i64 0,.bool false]) w1 ∧ Q (.returned (.tuple #[.int .i64 0,.int .i64 10])) w1) := fun w1 hb => by
    have h1 := hr.up hb
    have hlook := h1.num.look hok
    rw [q6v hm] at hlook
    exact ⟨h1.cm,h1.cl,hlook,HQ.out _ _ ⟨own,Fr.ofBelow hb,Or.inl ⟨by unfold putD; rw [if_neg hm,if_pos (by omega)],rfl,p,g,mp,_,vG,ps,h1,hps,hfew⟩⟩⟩
   have he : ((ps.length : Int) == 256) = true := by rw [hpl,hL]; rfl
   generalize ps.length = K at *
   generalize txS L = X at *
   clear hr hps hfew hU hs hl hok hml hpl HQ hm hL
   go_enter Tryz.func68,Tryz.ntmps68
   go_wp2_with fail
   refine jt.mono ?_
   rintro e w1 ⟨rfl,hb⟩
   obtain ⟨cm,cl,hlook,hR⟩ := HN.out w1 hb
   have HR : Hid _ := hR
   clear HN hR hb jt
   go_wp2
   exact HR.out
  ·have hlt : S.length < 256 := by omega
   have HN : Hid (∀ w1,Below w.heap.size w w1 → w1.cell? ⟨b,5,none⟩ = some (.map (some mp)) ∧ w1.cell? ⟨b,4,none⟩ = some (.slice aL ps.length kL) ∧ (Instr.lookup 76 (.map (some mp)) (.string (txS L)) true).run Tryz.prog w1 = .ok (.tuple #[.int .i64 0,.bool false]) w1 ∧
     ∃ w4,(Instr.mapUpdate 76 (.map (some mp)) (.string (txS L)) (.int .i64 (ps.length : Int))).run Tryz.prog w1 = .ok () w4 ∧ w4.cell? ⟨b,4,none⟩ = some (.slice aL ps.length kL) ∧ (w4.alloc (.cells #[.slice a m c] 46)).ownsRow 0 46 1 (.slice aL ps.length kL) ps.length (ps.map pcD) ∧ (w4.alloc (.cells #[.slice a m c] 46)).cell? ⟨w4.heap.size,0,none⟩ = some (.slice a m c) ∧
      ∀ w5 v',(w4.alloc (.cells #[.slice a m c] 46)).grownBy w5 (Value.slice aL ps.length kL).ownBlock → w5.ownsRow 0 46 1 v' (ps.length + 1) (ps.map pcD ++ [.slice a m c]) → (v'.ownBlock = (Value.slice aL ps.length kL).ownBlock ∨ v'.ownBlock = some (w4.alloc (.cells #[.slice a m c] 46)).heap.size) → w5.cell? ⟨b,4,none⟩ = some (.slice aL ps.length kL) ∧ w5.frozen? ⟨b,4,none⟩ = false ∧ Q (.returned (.tuple #[.int .i64 (ps.length : Int),.int .i64 0])) (w5.setCell ⟨b,4,none⟩ v')) := fun w1 hb => by
    have h1 := hr.up hb
    have hlook := h1.num.look hok
    rw [q6v hm] at hlook
    obtain ⟨w4,hrun,hn4,hg4⟩ := h1.num.put (by omega) hok (q6v hm) S.length (by omega)
    obtain ⟨h4,f4⟩ := h1.put hg4 (hn4.alike fun y _ => qe0 hm y)
    rw [← hpl] at hrun
    refine ⟨h1.cm,h1.cl,hlook,w4,hrun,h4.cl,World.ownsRow.alloc h4.rl _,qb (MapKept.heap_alloc w4 _).1 0,fun w5 v' hg ho hv => ?_⟩
    have hU4 := (hU.up hb).fr f4
    obtain ⟨own5,h5,f5⟩ := h4.growL (ps' := ps ++ [(⟨a,m,c,L⟩ : PcU)]) (qd w4 _) hg (by rw [List.length_append,List.map_append]; exact ho) hv (fun r hr => by
     rcases List.mem_append.1 hr with h | h
     ·exact Or.inl h
     ·have : r = ⟨a,m,c,L⟩ := by simpa using h
      subst this
      exact Or.inr hU4)
    obtain ⟨h6,f6⟩ := h5.set3 (cL' := v') (cG' := vG) (j := 4) (v := v') rfl
    refine ⟨h5.cl,h5.fz 4,HQ.out _ _ ⟨own5,(((Fr.ofBelow hb).trans f4).trans f5).trans f6,Or.inr ⟨ps.length,S ++ [L],by unfold putD; rw [if_neg hm,if_neg (by omega),hpl],rfl,p,g,mp,v',vG,ps ++ [(⟨a,m,c,L⟩ : PcU)],?_,by rw [List.map_append,hps]; rfl,by simp; omega⟩⟩⟩
    rw [List.length_append]
    exact h6
   have hne : ((ps.length : Int) == 256) = false := by simp; omega
   have hkl : ps.length < 256 := by omega
   generalize hK : ps.length = K at *
   generalize txS L = X at *
   clear hr hps hfew hU hs hl hok hml hpl HQ hm hL hlt hK
   go_enter Tryz.func68,Tryz.ntmps68
   go_wp2_with fail
   refine jt.mono ?_
   rintro e w1 ⟨rfl,hb⟩
   obtain ⟨cm,cl,hlook,w4,hrun,cl4,hO,hC,hfin⟩ := HN.out w1 hb
   have HF : Hid _ := hfin
   clear HN hb jt hfin
   go_wp2_with (at_builtin; refine q2f Tryz.underlying41 q9z rfl (by decide) rfl _ _ rfl 0 _ K (ps.map pcD) (.slice a m c) w4.heap.size rfl rfl hO hC rfl (by omega) (Nat.zero_le _) ?_)
   intro v5 w5 hown5 hgr5 hloc5
   obtain ⟨a5,k5,rfl⟩ := q1G hown5
   obtain ⟨c5,z5,hR⟩ := HF.out w5 _ hgr5 hown5 (by simpa using hloc5)
   have HR : Hid _ := hR
   clear hown5 hgr5 hloc5 HF hR hO hC cl4 hrun hlook cm cl
   go_wp2
   exact HR.out
def inV (z : Nat) : Value := .int .i64 (z : Int)
def IwR (w : World) (g : Nat) (zs : List Nat) : Prop := w.heap[g]? = some (.cells (zs.map inV).toArray 3 (0,0))
theorem IwR.lt {w : World} {g : Nat} {zs : List Nat} (h : IwR w g zs) : g < w.heap.size := (Array.getElem?_eq_some_iff.1 h).1
theorem IwR.cell {w : World} {g : Nat} {zs : List Nat} (h : IwR w g zs) {i z : Nat} (hi : zs[i]? = some z) : w.cell? ⟨g,i,none⟩ = some (.int .i64 (z : Int)) := by
 unfold IwR at h
 rw [qb h i]
 simp [hi,inV]
theorem IwR.fz {w : World} {g : Nat} {zs : List Nat} (h : IwR w g zs) (i : Nat) : w.frozen? ⟨g,i,none⟩ = false := frozen_of_row w g i _ _ h
theorem IwR.set {w : World} {g : Nat} {zs : List Nat} (h : IwR w g zs) (i z : Nat) : IwR (w.setCell ⟨g,i,none⟩ (.int .i64 (z : Int))) g (zs.set i z) := by
 unfold IwR at h ⊢
 rw [heap_setCell_same w g i _ _ _ h]
 congr 2
 simp [inV]
theorem q34 : (Tryz.prog.info? 3).map (·.size) = some 1 := by kernel_rfl
theorem q4J : (Tryz.prog.info? 3).map (fun i => (i.zero,i.size,i.bytes)) = some (some (.int .i64 0),1,8) := by kernel_rfl
theorem q6P (g n i : Nat) (hi : i < n) (w : World) : (Instr.indexAt 29 (.slice (some ⟨g,0,none⟩) n n) (.int .i64 (i : Int))).run Tryz.prog w = .ok (.pointer (some ⟨g,i,none⟩)) w := by
 simp [Instr.indexAt,run_underlying Tryz.underlying29,asIntOf,qY q34,hi,Result.andThen,go_sem,qi]
theorem qgA (n : Nat) : madeCells #[.int .i64 0] n = Array.replicate n (Value.int .i64 0) := by
 unfold madeCells
 apply Array.ext
 ·simp
 ·intro i h1 h2
  simp [Nat.mod_one]
theorem qbO (l : Nat) (hb : l ≤ 100000) (w : World) :
  (Instr.makeSlice 29 (.int .i64 (l : Int)) (.int .i64 (l : Int))).run Tryz.prog w = .ok (.slice (some ⟨w.heap.size,0,none⟩) l l) (w.alloc (.cells (Array.replicate l (Value.int .i64 0)) 3)) := by
 obtain ⟨i,hi,hz0,hz1,hz2⟩ := info_parts q4J
 have := run_make (P := Tryz.prog) w 29 3 i (.int .i64 0) Tryz.underlying29 hi hz0 .i64 .i64 (l : Int) (l : Int) (by omega) (by omega) (by rw [hz2]; omega) (by omega)
 rw [this,hz1]
 simp only [Int.toNat_natCast,Nat.mul_one]
 have e : (Value.int .i64 0).cells = #[.int .i64 0] := rfl
 rw [e,qgA]
theorem IwR.made (w : World) (l : Nat) : IwR (w.alloc (.cells (Array.replicate l (Value.int .i64 0)) 3)) w.heap.size (List.replicate l 0) := by
 unfold IwR
 rw [(MapKept.heap_alloc w _).1]
 simp [inV]
theorem USl.offI {w : World} {a : Option Addr} {n c : Nat} {l : List Nat} (h : USl w a n c l) {g : Nat} {zs : List Nat} (hr : IwR w g zs) : ∀ k,k < n → (adOf a k).block ≠ g := fun k hk e => by
 have hc := h.cell k hk
 unfold World.cell? at hc
 unfold IwR at hr
 rw [e,hr] at hc
 cases hq : zs[(adOf a k).off]? with
 | none => simp [hq] at hc
 | some y => simp [hq,inV] at hc
theorem DkO.offI {T0 : Tr} {vs : Value} {w : World} {own : Nat → Nat} {b n ak : Nat} {M : Mt} {S : List (List Nat)} {R : List Int} {N : List Gd} (h : DkO T0 vs w own b n ak M S R N) {g : Nat} {zs : List Nat} (hr : IwR w g zs) (hg : own g = 0) (h64 : g ≠ tabG) (h10 : g ≠ ptG) (j : Nat) (v : Value) : DkO T0 vs (w.setCell ⟨g,j,none⟩ v) own b n ak M S R N := by
 obtain ⟨p,gs,mp,vL,vG,ps,hk,h2⟩ := h
 exact ⟨p,gs,mp,vL,vG,ps,hk.off hg (fun r hm => (hk.ls r hm).sl.offI hr) h64 h10 j v,h2⟩
theorem US.offI {w : World} {F : Nat → Prop} {a : Option Addr} {n c : Nat} {l : List Nat} (h : US w F a n c l) {g : Nat} {zs : List Nat} (hr : IwR w g zs) (j : Nat) (v : Value) : US (w.setCell ⟨g,j,none⟩ v) F a n c l :=
 h.sameD (by simp) (fun k hk => Below.heap_setCell _ _ _ _ (h.sl.offI hr k hk)) h.nf
theorem US.pred {w : World} {own : Nat → Nat} {i : Nat} {a : Option Addr} {n c : Nat} {l : List Nat} (h : US w (fun k => own k ≠ 0) a n c l) (hi : i ≠ 0) : US w (fun k => own k = i) a n c l := ⟨h.sl,fun k hk e => h.nf k hk (by rw [e]; exact hi)⟩
section
variable {T0 : Tr} {vs : Value} {w : World} {own : Nat → Nat} {b n ak : Nat} {M : Mt} {S : List (List Nat)} {R : List Int} {N : List Gd}
theorem DkO.step (h : DkO T0 vs w own b n ak M S R N) {a : Option Addr} {m c : Nat} {l : List Nat} (hU : US w (fun k => own k ≠ 0) a m c l) (hm : m ≤ 1024) (hb : BdL l M.length) {x : Nat} (hx : x < 256) :
  ∃ p,w.cell? ⟨b,2,none⟩ = some (.pointer (some ⟨p,0,none⟩)) ∧ w.cell? ⟨b,1,none⟩ = some (.int .i64 (ak : Int)) ∧ Calls Tryz.prog 98 #[.pointer (some ⟨p,0,none⟩),.slice a m c,.int .u8 (x : Int)] w fun e w' => ∃ own',Fr w w' (fun k => own k ≠ 0) (fun k => own' k ≠ 0) ∧
   ((stepM fuelN x l [] M = none ∧ e = .returned (.tuple #[.slice none 0 0,.int .i64 9])) ∨ ∃ L M' q' d',stepM fuelN x l [] M = some (L,M') ∧ e = .returned (.tuple #[.slice q' L.length d',.int .i64 0]) ∧ US w' (fun k => own' k ≠ 0) q' L.length d' L ∧ DkO T0 vs w' own' b n ak M' S R N) := by
 obtain ⟨p,g,mp,vL,vG,ps,hk,h2⟩ := h
 refine ⟨p,hk.cp,hk.ca,?_⟩
 obtain ⟨items,hP⟩ := hk.prg
 obtain rfl : l.length = m := hU.sl.len.symm
 refine (q7V hx hP hk.t64 (by rw [hk.o64]; decide) a c l ⟨hU.pred (by decide),hm,hb⟩).mono ?_
 rintro e w' ⟨F',i',fr,⟨hs,rfl,hO⟩ | ⟨L,M',q',d',hs,rfl,hU',hO,hnw⟩⟩
 ·obtain ⟨own',h3,f3,_⟩ := hk.frP ⟨i',hO⟩ fr
  exact ⟨own',f3,Or.inl ⟨hs,rfl⟩⟩
 ·obtain ⟨own',h3,f3,h4⟩ := hk.frP ⟨i',hO⟩ fr
  refine ⟨own',f3,Or.inr ⟨L,M',q',d',hs,rfl,⟨hU'.sl,fun k hk2 e => ?_⟩,p,g,mp,vL,vG,ps,h3,h2⟩⟩
  rcases h4 _ e with h5 | h5
  ·have := hnw k hk2; omega
  ·exact hU'.nf k hk2 h5
end
def RoE (T0 : Tr) (vs : Value) (w : World) (own : Nat → Nat) (b n ak : Nat) (M : Mt) (S : List (List Nat)) (R : List Int) (N : List Gd) (X : Nat → Prop) (l : List Nat) (m : Nat) (e : Ending) (w' : World) : Prop :=
 ∃ own',Fr w w' (fun k => own k ≠ 0) (fun k => own' k ≠ 0) ∧ ((∃ E : Nat,E ≠ 0 ∧ rowD l (List.range m) [] S M = .error E ∧ e = .returned (.tuple #[.slice none 0 0,.int .i64 (E : Int)])) ∨ ∃ acc S1 M1,rowD l (List.range m) [] S M = .ok (acc,S1,M1) ∧ acc.length = m ∧ e = .returned (.tuple #[.slice (some ⟨w.heap.size,0,none⟩) m m,.int .i64 0]) ∧ DkO T0 vs w' own' b n ak M1 S1 R N ∧ IwR w' w.heap.size acc ∧ own' w.heap.size = 0 ∧ StD S1 M1 ∧ PrM X M1)
structure RoF (T0 : Tr) (vs : Value) (w : World) (own : Nat → Nat) (b n ak : Nat) (M : Mt) (S : List (List Nat)) (R : List Int) (N : List Gd) (X : Nat → Prop) (a : Option Addr) (la c : Nat) (l : List Nat) (m x : Nat) (wr : World) (own' : Nat → Nat) (S' : List (List Nat)) (M' : Mt) (acc : List Nat) : Prop where
 fr : Fr w wr (fun k => own k ≠ 0) (fun k => own' k ≠ 0)
 o : DkO T0 vs wr own' b n ak M' S' R N
 row : IwR wr w.heap.size (acc ++ List.replicate (m - x) 0)
 ng : own' w.heap.size = 0
 al : acc.length = x
 us : US wr (fun k => own' k ≠ 0) a la c l
 j : RowE X l acc S' M'
 rr : rowD l (List.range m) [] S M = rowD l (List.range' x (m - x)) acc S' M'
theorem q5Y {x m : Nat} (h : x < m) : List.range' x (m - x) = x :: List.range' (x + 1) (m - (x + 1)) := by
 rw [show m - x = (m - (x + 1)) + 1 by omega,List.range'_succ]
theorem Fr.newD {w w' : World} {G G' : Nat → Prop} (f1 : Fr w w' G G') {g : Nat} (hg : w.heap.size ≤ g) (i : Nat) (v : Value) : Fr w (w'.setCell ⟨g,i,none⟩ v) G G' :=
 ⟨f1.os,f1.tape,f1.output,by have := f1.size; simp; exact this,fun z hz hn => (Below.heap_setCell _ _ _ _ fun e => by have e2 : z = g := e; omega).trans (f1.keep z hz hn),f1.foot⟩
section
variable {T0 : Tr} {vs : Value} {w wr w' : World} {own own' own2 : Nat → Nat} {b n ak : Nat} {M M' M2 : Mt} {S S' S2 : List (List Nat)} {R : List Int} {N : List Gd} {X : Nat → Prop} {a : Option Addr} {la c : Nat} {l : List Nat} {m x : Nat} {acc : List Nat}
theorem RoF.put (h : RoF T0 vs w own b n ak M S R N X a la c l m x wr own' S' M' acc) (h64 : w.heap.size ≠ tabG) (h10 : w.heap.size ≠ ptG) (hx : x < m) (fr : Fr wr w' (fun k => own' k ≠ 0) (fun k => own2 k ≠ 0)) (hO : DkO T0 vs w' own2 b n ak M2 S2 R N) (r : Nat) (hj : RowE X l (acc ++ [r]) S2 M2) (hrr : rowD l (x :: List.range' (x + 1) (m - (x + 1))) acc S' M' = rowD l (List.range' (x + 1) (m - (x + 1))) (acc ++ [r]) S2 M2) :
  (∃ v,w'.cell? ⟨w.heap.size,x,none⟩ = some v) ∧ w'.frozen? ⟨w.heap.size,x,none⟩ = false ∧ RoF T0 vs w own b n ak M S R N X a la c l m (x + 1) (w'.setCell ⟨w.heap.size,x,none⟩ (.int .i64 (r : Int))) own2 S2 M2 (acc ++ [r]) := by
 have hgl := h.row.lt
 have hng0 : ¬ (own' w.heap.size ≠ 0) := not_not_intro h.ng
 have hrow : IwR w' w.heap.size (acc ++ List.replicate (m - x) 0) := (fr.keep _ hgl hng0).trans h.row
 have hng : own2 w.heap.size = 0 := Decidable.not_not.1 (fr.out hng0 hgl)
 refine ⟨⟨_,hrow.cell (i := x) (z := 0) ?_⟩,hrow.fz x,?_,hO.offI hrow hng h64 h10 x _,?_,hng,by simp [h.al],(h.us.fr fr).offI hrow x _,hj,by rw [h.rr,q5Y hx]; exact hrr⟩
 ·rw [List.getElem?_append_right (by rw [h.al]; exact Nat.le_refl _),h.al,Nat.sub_self,List.getElem?_replicate,if_pos (by omega)]
 ·exact (h.fr.trans fr).newD (Nat.le_refl _) _ _
 ·have := hrow.set x r
  have e2 : (acc ++ List.replicate (m - x) 0).set x r = acc ++ [r] ++ List.replicate (m - (x + 1)) 0 := by
   rw [List.set_append_right _ _ (by rw [h.al]; exact Nat.le_refl _),h.al,Nat.sub_self,show m - x = (m - (x + 1)) + 1 by omega,List.replicate_succ,List.set_cons_zero,List.append_assoc]
   rfl
  rw [e2] at this
  exact this
end
theorem q9s {T0 : Tr} {vs : Value} {w : World} {own : Nat → Nat} {b n ak : Nat} {M : Mt} {S : List (List Nat)} {R : List Int} {N : List Gd} {X : Nat → Prop} (h : DkO T0 vs w own b n ak M S R N) (hk : StD S M) (hp : PrM X M) (hlk : ∀ x,Like X (x &&& ak) x) (ha : ak < 256) (hn : n ≤ 8) (a : Option Addr) (la c : Nat) (l : List Nat) (hU : US w (fun k => own k ≠ 0) a la c l) (hla : la ≤ 1024) (hbd : BdL l M.length) :
  Calls Tryz.prog 70 #[.pointer (some ⟨b,0,none⟩),.slice a la c] w (RoE T0 vs w own b n ak M S R N X l (2 ^ n)) := by
 obtain ⟨Q,hQ⟩ : ∃ Q : Ending → World → Prop,Q = RoE T0 vs w own b n ak M S R N X l (2 ^ n) := ⟨_,rfl⟩
 have HQ : Hid (∀ e w',RoE T0 vs w own b n ak M S R N X l (2 ^ n) e w' → Q e w') := fun e w' h => by rw [hQ]; exact h
 rw [← hQ]
 have hm2 : 2 ^ n ≤ 256 := Nat.pow_le_pow_right (n := 2) (by decide) hn
 have HW : Hid (wrap64 ((2 : Int) ^ n) = ((2 ^ n : Nat) : Int)) := by
  show _ = _
  rw [show ((2 : Int) ^ n) = ((2 ^ n : Nat) : Int) by simp]
  generalize 2 ^ n = y at hm2 ⊢
  unfold wrap64
  omega
 have hmin : min n 64 = n := by omega
 have hmk := qbO (2 ^ n) (by omega) w
 have hz : w.cell? ⟨b,0,none⟩ = some (.int .i64 (n : Int)) ∧ w.heap.size ≠ tabG ∧ w.heap.size ≠ ptG := by
  obtain ⟨p,g,mp,vL,vG,ps,hr,_⟩ := h
  exact ⟨hr.cn,by have := hr.glt; omega,by have := hr.t10.lt; omega⟩
 have hc1 := hz.1
 have HZ : Hid _ := hz.2
 have hb1 := qd w (.cells (Array.replicate (2 ^ n) (Value.int .i64 0)) 3)
 have HI0 : Hid (RoF T0 vs w own b n ak M S R N X a la c l (2 ^ n) 0 (w.alloc (.cells (Array.replicate (2 ^ n) (Value.int .i64 0)) 3)) own S M []) := ⟨Fr.ofBelow hb1,h.up hb1,by simpa using IwR.made w (2 ^ n),Decidable.not_not.1 (fun e => Nat.lt_irrefl _ (h.lt _ e)),rfl,hU.up hb1,RowE.start hk hp hbd,by rw [List.range_eq_range']; rfl⟩
 have HLK : Hid _ := hlk
 have HLA : Hid _ := hla
 clear h hk hp hlk hQ hb1 hU hbd hz hla
 generalize hM : (2 ^ n : Nat) = m at *
 generalize hZ : Array.replicate m (Value.int .i64 0) = Z at *
 clear hM hZ
 go_enter Tryz.func70,Tryz.ntmps70
 go_wp2
 rw [HW.out,hmk]
 go_wp2
 go_loopw [19] (fun j wr => ∃ (x : Nat) (own' : Nat → Nat) (S' : List (List Nat)) (M' : Mt) (acc : List Nat),x ≤ m ∧ j = .int .i64 (x : Int) ∧ Hid (RoF T0 vs w own b n ak M S R N X a la c l m x wr own' S' M' acc)) (fun j _ => m - (intOf j).toNat)
 case atStart => exact ⟨0,own,S,M,[],Nat.zero_le _,rfl,HI0⟩
 case round =>
  clear HI0 hmk hc1 hmin HW
  obtain ⟨x,own',S',M',acc,hx,rfl,HI⟩ := hrel
  by_cases hlt : x < m
  ·have hx8 : x < 256 := by omega
   have hand := qc3 x ak (by omega) (by omega)
   have hlea : x &&& ak ≤ x := Nat.and_le_left
   have hcv : IntKind.u8.wrap (x : Int) = (x : Int) := by rw [IntKind.wrap_u8]; omega
   obtain ⟨p,cp,ca,js⟩ := HI.out.o.step HI.out.us HLA.out HI.out.j.bd hx8
   have hixx := fun w' => q6P w.heap.size m x hlt w'
   have hra := q5Y hlt
   by_cases hal : x &&& ak = x
   ·have hne : (((x &&& ak : Nat) : Int) != (x : Int)) = false := by rw [hal]; simp
    have HN : Hid (∀ (e : Ending) (w' : World),(∃ own2,Fr wr w' (fun k => own' k ≠ 0) (fun k => own2 k ≠ 0) ∧ ((stepM fuelN x l [] M' = none ∧ e = .returned (.tuple #[.slice none 0 0,.int .i64 9])) ∨ ∃ L M2 q' d',stepM fuelN x l [] M' = some (L,M2) ∧ e = .returned (.tuple #[.slice q' L.length d',.int .i64 0]) ∧ US w' (fun k => own2 k ≠ 0) q' L.length d' L ∧ DkO T0 vs w' own2 b n ak M2 S' R N)) →
      (e = .returned (.tuple #[.slice none 0 0,.int .i64 9]) ∧ Q (.returned (.tuple #[.slice none 0 0,.int .i64 9])) w') ∨ ∃ q' L' d',e = .returned (.tuple #[.slice q' L' d',.int .i64 0]) ∧ Calls Tryz.prog 68 #[.pointer (some ⟨b,0,none⟩),.slice q' L' d'] w' fun e2 w2 => ∃ v,w2.cell? ⟨w.heap.size,x,none⟩ = some v ∧ w2.frozen? ⟨w.heap.size,x,none⟩ = false ∧
       ((e2 = .returned (.tuple #[.int .i64 0,.int .i64 10]) ∧ Q (.returned (.tuple #[.slice none 0 0,.int .i64 10])) (w2.setCell ⟨w.heap.size,x,none⟩ (.int .i64 0))) ∨ ∃ r : Nat,e2 = .returned (.tuple #[.int .i64 (r : Int),.int .i64 0]) ∧ ∃ own3 S3 M3 acc3,RoF T0 vs w own b n ak M S R N X a la c l m (x + 1) (w2.setCell ⟨w.heap.size,x,none⟩ (.int .i64 (r : Int))) own3 S3 M3 acc3)) := fun e w' hq => by
     obtain ⟨own2,fr,⟨h1,he⟩ | ⟨L,M2,q',d',h1,he,hU,hO⟩⟩ := hq
     ·refine Or.inl ⟨he,HQ.out _ _ ⟨own2,HI.out.fr.trans fr,Or.inl ⟨9,by decide,?_,rfl⟩⟩⟩
      rw [HI.out.rr,hra]
      unfold rowD
      simp only [h1]
     ·refine Or.inr ⟨q',L.length,d',he,?_⟩
      obtain ⟨e1,_⟩ := q5E HI.out.j.st.good HI.out.j.bd h1
      have hsm : Sm L := qM e1.bd e1.good.few
      have hln := q4D fuelN x l [] (by simp) h1
      refine (q3D hO q' L.length d' L hU hsm hln).mono ?_
      rintro e2 w2 ⟨own3,f3,h5⟩
      have hgl := HI.out.row.lt
      have hrow : IwR w2 w.heap.size (acc ++ List.replicate (m - x) 0) := ((fr.trans f3).keep _ hgl (not_not_intro HI.out.ng)).trans HI.out.row
      have hcell := hrow.cell (i := x) (z := 0) (by rw [List.getElem?_append_right (by rw [HI.out.al]; exact Nat.le_refl _),HI.out.al,Nat.sub_self,List.getElem?_replicate,if_pos (by omega)])
      refine ⟨_,hcell,hrow.fz x,?_⟩
      rcases h5 with ⟨h6,rfl,-⟩ | ⟨r,S3,h6,rfl,hO3⟩
      ·refine Or.inl ⟨rfl,HQ.out _ _ ⟨own3,((HI.out.fr.trans fr).trans f3).newD (Nat.le_refl _) _ _,Or.inl ⟨10,by decide,?_,rfl⟩⟩⟩
       rw [HI.out.rr,hra]
       unfold rowD
       simp only [h1,h6]
      ·have hma := HI.out.al
       have hjs := HI.out.j.step (L := L) (r := r) (S1 := S3) (M1 := M2) (by rw [hma]; exact h1) h6
       obtain ⟨_,_,h9⟩ := HI.out.put HZ.out.1 HZ.out.2 hlt (fr.trans f3) hO3 r hjs (by
        conv => lhs; unfold rowD
        simp only [h1,h6])
       exact Or.inr ⟨_,rfl,own3,S3,M2,_,h9⟩
    clear HI hra hal HLK hlea HZ HLA
    go_wp2_with fail
    refine js.mono ?_
    intro e w3 hq
    rcases HN.out e w3 hq with ⟨rfl,hr⟩ | ⟨q3,L3,d3,rfl,jt⟩
    ·have HR : Hid _ := hr
     clear js hq hr HN
     go_wp2
     exact HR.out
    ·clear js hq HN cp ca hand hne
     go_wp2_with fail
     refine jt.mono ?_
     rintro e w4 ⟨v4,cv,zv,⟨rfl,hr⟩ | ⟨r4,rfl,own4,S4,M4,acc4,hI4⟩⟩
     ·have HR : Hid _ := hr
      clear jt hr
      go_wp2
      exact HR.out
     ·have HI4 : Hid _ := hI4
      clear jt hI4
      go_wp2
      go_roundw
      case rel => exact ⟨x + 1,own4,S4,M4,acc4,by omega,by go_num,HI4⟩
      case measure => simp [intOf] <;> omega
   ·have hne : (((x &&& ak : Nat) : Int) != (x : Int)) = true := by simp; omega
    have hal2 : x &&& ak < acc.length := by rw [HI.out.al]; omega
    obtain ⟨r0,hr0⟩ : ∃ r0,acc[x &&& ak]? = some r0 := ⟨_,List.getElem?_eq_getElem hal2⟩
    have hga : (acc ++ List.replicate (m - x) 0)[x &&& ak]? = some r0 := by rw [List.getElem?_append_left hal2]; exact hr0
    have hcr := HI.out.row.cell hga
    have hixa := fun w' => q6P w.heap.size m (x &&& ak) (by omega) w'
    have hma := HI.out.al
    have hjj := HI.out.j.alike (y := x &&& ak) (r := r0) (by rw [hma]; exact HLK.out x) hr0 (List.range' (x + 1) (m - (x + 1)))
    rw [hma] at hjj
    obtain ⟨⟨v,h1⟩,h2,h3⟩ := HI.out.put HZ.out.1 HZ.out.2 hlt (Fr.ofBelow (Below.refl _ _)) HI.out.o r0 hjj.2 hjj.1
    have HI2 : Hid _ := h3
    clear js hga hal2 HI hra hal hr0 HLK hlea hjj h3 hma HZ HLA cp
    generalize x &&& ak = y at *
    go_wp2
    go_roundw
    case rel => exact ⟨x + 1,own',S',M',_,by omega,by go_num,HI2⟩
    case measure => simp [intOf] <;> omega
  ·obtain rfl : x = m := by omega
   have HR : Hid (Q (.returned (.tuple #[.slice (some ⟨w.heap.size,0,none⟩) x x,.int .i64 0])) wr) := HQ.out _ _ ⟨own',HI.out.fr,Or.inr ⟨acc,S',M',by rw [HI.out.rr,Nat.sub_self]; rfl,HI.out.al,rfl,HI.out.o,by
    have := HI.out.row
    rw [Nat.sub_self] at this
    simpa using this,HI.out.ng,HI.out.j.st,HI.out.j.pr⟩⟩
   clear HI
   go_wp2
   exact HR.out
theorem IwR.zsl {w : World} {g : Nat} {zs : List Nat} (h : IwR w g zs) (hm : zs.length ≤ 1024) : ZSl w (some ⟨g,0,none⟩) zs.length zs.length (zs.map Int.ofNat) := by
 refine ⟨by simp,Nat.le_refl _,by unfold maxLen; omega,fun m k w hk hm => q1j Tryz.underlying29 q34 (by simp) k w hk,fun k hk => ?_,fun k hk => ?_,by simp⟩
 ·simp only [adOf,qi,Nat.zero_add]
  have e : zs[k]? = some zs[k] := List.getElem?_eq_getElem hk
  rw [h.cell e]
  simp [List.getD_eq_getElem?_getD,hk]
 ·simp only [adOf,qi]
  exact h.lt
theorem q1a (g n c i : Nat) (hi : i < n) (w : World) : (Instr.indexAt 41 (.slice (some ⟨g,0,none⟩) n c) (.int .i64 (i : Int))).run Tryz.prog w = .ok (.pointer (some ⟨g,i,none⟩)) w := by
 simp [Instr.indexAt,run_underlying Tryz.underlying41,asIntOf,qY (show (Tryz.prog.info? 46).map (·.size) = some 1 by kernel_rfl),hi,Result.andThen,go_sem,qi]
theorem qc7 (l : List Nat) : (l.map Int.ofNat).map Int.toNat = l := by
 rw [List.map_map]
 conv => rhs; rw [← List.map_id l]
 exact List.map_congr_left fun x _ => rfl
def GoE (T0 : Tr) (vs : Value) (w : World) (own : Nat → Nat) (b n ak : Nat) (M0 : Mt) (S0 : List (List Nat)) (e : Ending) (w' : World) : Prop :=
 ∃ own',Fr w w' (fun k => own k ≠ 0) (fun k => own' k ≠ 0) ∧ ((∃ E : Nat,E ≠ 0 ∧ allD n 256 [] [] S0 M0 = .error E ∧ e = .returned (.int .i64 (E : Int))) ∨ ∃ R N S M,allD n 256 [] [] S0 M0 = .ok (R,N,S,M) ∧ e = .returned (.int .i64 0) ∧ DkO T0 vs w' own' b n ak M S R N)
structure GoI (T0 : Tr) (vs : Value) (w : World) (own : Nat → Nat) (b n ak : Nat) (M0 : Mt) (S0 : List (List Nat)) (X : Nat → Prop) (s : Nat) (wr : World) (own' : Nat → Nat) (S : List (List Nat)) (M : Mt) (R : List Int) (N : List Gd) : Prop where
 fr : Fr w wr (fun k => own k ≠ 0) (fun k => own' k ≠ 0)
 o : DkO T0 vs wr own' b n ak M S R N
 al : ∃ K,AllD n K R N S M
 pr : PrM X M
 sl : R.length = s
 tot : allD n 256 [] [] S0 M0 = allD n (256 - s) R N S M
def AdQ (T0 : Tr) (vs : Value) (w : World) (own : Nat → Nat) (b n ak : Nat) (M0 : Mt) (S0 : List (List Nat)) (X : Nat → Prop) (s : Nat) (Q : Ending → World → Prop) (e : Ending) (w2 : World) : Prop :=
 (e = .returned (.tuple #[.int .i64 0,.int .i64 11]) ∧ Q (.returned (.int .i64 11)) w2) ∨ ∃ (r : Int) (aG : Option Addr) (J kG : Nat) (xs : List Value),e = .returned (.tuple #[.int .i64 r,.int .i64 0]) ∧ w2.cell? ⟨b,6,none⟩ = some (.slice aG J kG) ∧ J ≤ 1000 ∧ (w2.alloc (.cells #[.int .i64 r] 3)).ownsRow 0 3 1 (.slice aG J kG) J xs ∧ (w2.alloc (.cells #[.int .i64 r] 3)).cell? ⟨w2.heap.size,0,none⟩ = some (.int .i64 r) ∧
  Hid (∀ w5 v',(w2.alloc (.cells #[.int .i64 r] 3)).grownBy w5 (Value.slice aG J kG).ownBlock → w5.ownsRow 0 3 1 v' (J + 1) (xs ++ [.int .i64 r]) → (v'.ownBlock = (Value.slice aG J kG).ownBlock ∨ v'.ownBlock = some (w2.alloc (.cells #[.int .i64 r] 3)).heap.size) → w5.cell? ⟨b,6,none⟩ = some (.slice aG J kG) ∧ w5.frozen? ⟨b,6,none⟩ = false ∧ ∃ own' S M R N,GoI T0 vs w own b n ak M0 S0 X (s + 1) (w5.setCell ⟨b,6,none⟩ v') own' S M R N)
section
variable {T0 : Tr} {vs : Value} {w wr w1 : World} {own own' own1 : Nat → Nat} {b n ak : Nat} {M0 M M1 : Mt} {S0 S S1 : List (List Nat)} {X : Nat → Prop} {s : Nat} {R : List Int} {N : List Gd} {acc : List Nat} {z m : Nat}
theorem GoI.add (h : GoI T0 vs w own b n ak M0 S0 X s wr own' S M R N) (hn : n ≤ 8) (hs : s < S.length) (f1 : Fr wr w1 (fun k => own' k ≠ 0) (fun k => own1 k ≠ 0)) (hr : rowD (atD S R.length) (List.range (2 ^ n)) [] S M = .ok (acc,S1,M1)) (hm : acc.length = 2 ^ n) (hO : DkO T0 vs w1 own1 b n ak M1 S1 R N) (hrow : IwR w1 z acc) (hz : own1 z = 0) (hp : PrM X M1) {Q : Ending → World → Prop} (HQ : ∀ e w',GoE T0 vs w own b n ak M0 S0 e w' → Q e w') :
  ∃ g,w1.cell? ⟨b,3,none⟩ = some (.pointer (some ⟨g,0,none⟩)) ∧ Calls Tryz.prog 71 #[.pointer (some ⟨g,0,none⟩),.slice (some ⟨z,0,none⟩) acc.length acc.length] w1 (AdQ T0 vs w own b n ak M0 S0 X s Q) := by
 obtain ⟨K,hA⟩ := h.al
 have h256 : 2 ^ n ≤ 256 := Nat.pow_le_pow_right (n := 2) (by decide) hn
 have hlt : R.length < S.length := by rw [h.sl]; exact hs
 have hrd := q8G hA.ok (hA.ok.bd _ (q2I hlt)) hr
 have hS1 : S1.length ≤ 256 := hrd.ok.few
 obtain ⟨p,g,mp,vL,vG,ps,hk,h2⟩ := hO
 refine ⟨g,hk.cs,?_⟩
 have hv : ∀ v ∈ acc.map Int.ofNat,0 ≤ v ∧ v ≤ 1048575 := fun v hv => by
  obtain ⟨u,hu,rfl⟩ := List.mem_map.1 hv
  obtain ⟨rs,ha,hl,_,hx⟩ := hrd.ex
  rw [List.nil_append] at ha
  subst ha
  obtain ⟨i,hi⟩ := List.mem_iff_getElem?.1 hu
  have hil := (List.getElem?_eq_some_iff.1 hi).1
  obtain ⟨q1,hq1,hq2,_⟩ := hx i i (List.getElem?_range (by omega))
  rw [hi] at hq1
  injection hq1 with hq1
  have : u < S1.length := by omega
  constructor
  ·exact Int.natCast_nonneg _
  ·show (u : Int) ≤ 1048575
   omega
 have hN : N.length ≤ 4096 := hA.fn
 have hRl : R.length ≤ 256 := Nat.le_trans hA.le hA.ok.few
 refine (q9U g n hn (acc.map Int.ofNat) (some ⟨z,0,none⟩) acc.length acc.length N (fun k => own1 k = 2) w1 (hrow.zsl (by omega)) (fun j hj e => by
  simp only [adOf,qi] at e
  rw [hz] at e; cases e) hk.st hN).mono ?_
 rintro e w2 ⟨he,F2,hS2,f2⟩
 rw [addG,if_neg (by rw [List.length_map,hm]; intro hc; rcases hc with hc | hc; exact hc rfl; exact hc hv),qc7] at he hS2
 obtain ⟨own2,k2,fr2⟩ := hk.frS hS2 f2
 have hf1 : 256 - s = (256 - (s + 1)) + 1 := by have := h.sl; have := hA.ok.few; omega
 have htot := h.tot
 rw [hf1] at htot
 unfold allD at htot
 rw [if_pos hlt,hr] at htot
 dsimp only at htot
 by_cases h4 : 4096 < (adM n 0 (fnL acc) N).2.length
 ·rw [if_pos h4] at he htot
  exact Or.inl ⟨he,HQ _ _ ⟨own2,(h.fr.trans f1).trans fr2,Or.inl ⟨11,by decide,htot,rfl⟩⟩⟩
 ·rw [if_neg h4] at he htot
  rw [if_neg h4] at k2
  dsimp only at k2 he
  obtain ⟨aG,kG,rfl⟩ := q1G k2.rg
  refine Or.inr ⟨_,aG,R.length,kG,_,he,k2.cg,by omega,World.ownsRow.alloc k2.rg _,qb (MapKept.heap_alloc w2 _).1 0,fun w5 v' hg ho hl => ?_⟩
  obtain ⟨own5,k5,f5⟩ := k2.growG (R' := R ++ [(adM n 0 (fnL acc) N).1]) (qd w2 _) hg (by rw [List.length_append,List.map_append]; exact ho) hl
  obtain ⟨k6,f6⟩ := k5.set3 (cL' := vL) (cG' := v') (j := 6) (v := v') rfl
  obtain ⟨a1,_,_⟩ := hA.next hn hlt hr (by omega)
  exact ⟨k5.cg,k5.fz 6,own5,S1,M1,_,_,⟨(((h.fr.trans f1).trans fr2).trans f5).trans f6,⟨p,g,mp,vL,v',ps,k6,h2⟩,⟨_,a1⟩,hp,by simp [h.sl],htot⟩⟩
end
theorem qab {T0 : Tr} {vs : Value} {w : World} {own : Nat → Nat} {b n ak : Nat} {M0 : Mt} {S0 : List (List Nat)} {X : Nat → Prop} (h : DkO T0 vs w own b n ak M0 S0 [] []) (hal : AllD n [] [] [] S0 M0) (hp : PrM X M0) (hlk : ∀ x,Like X (x &&& ak) x) (ha : ak < 256) (hn : n ≤ 8) :
  Calls Tryz.prog 50 #[.pointer (some ⟨b,0,none⟩)] w (GoE T0 vs w own b n ak M0 S0) := by
 obtain ⟨Q,hQ⟩ : ∃ Q : Ending → World → Prop,Q = GoE T0 vs w own b n ak M0 S0 := ⟨_,rfl⟩
 have HQ : Hid (∀ e w',GoE T0 vs w own b n ak M0 S0 e w' → Q e w') := fun e w' h => by rw [hQ]; exact h
 rw [← hQ]
 have HI0 : Hid (GoI T0 vs w own b n ak M0 S0 X 0 w own S0 M0 [] []) := ⟨Fr.ofBelow (Below.refl _ _),h,⟨[],hal⟩,hp,rfl,rfl⟩
 have HLK : Hid _ := hlk
 have HC : Hid (ak < 256 ∧ n ≤ 8) := ⟨ha,hn⟩
 clear h hal hp hlk hQ ha hn
 go_enter Tryz.func50,Tryz.ntmps50
 go_wp2
 go_loopw [3] (fun j wr => ∃ (s : Nat) (own' : Nat → Nat) (S : List (List Nat)) (M : Mt) (R : List Int) (N : List Gd),s ≤ 256 ∧ j = .int .i64 (s : Int) ∧ Hid (GoI T0 vs w own b n ak M0 S0 X s wr own' S M R N)) (fun j _ => 256 - (intOf j).toNat)
 case atStart => exact ⟨0,own,S0,M0,[],[],by omega,rfl,HI0⟩
 case round =>
  clear HI0
  obtain ⟨s,own',S,M,R,N,hs2,rfl,HI⟩ := hrel
  obtain ⟨p,g,mp,vL,vG,ps,hk,hps,hfew⟩ := HI.out.o
  have hpl : ps.length = S.length := by rw [← hps]; simp
  by_cases hlt : s < S.length
  ·have hsp : s < ps.length := by omega
   obtain ⟨gL,kL,rfl,_,hnc,hc,_,_⟩ := q20 hk.rl hsp (.bool true)
   have cl := hk.cl
   rw [List.getElem?_map,List.getElem?_eq_getElem hsp] at hc
   have hidx := fun w' => q1a gL ps.length kL s hsp w'
   have hus := hk.ls ps[s] (List.getElem_mem hsp)
   have hts : ps[s].ts = atD S R.length := by
    rw [HI.out.sl]
    unfold atD
    rw [← hps,List.getD_eq_getElem?_getD,List.getElem?_map,List.getElem?_eq_getElem hsp]
    rfl
   obtain ⟨K,hA⟩ := HI.out.al
   have hlR : R.length < S.length := by rw [HI.out.sl]; exact hlt
   have hmem := q2I hlR
   have hll : ps[s].len ≤ 1024 := by
    have := hus.sl.len
    have := hA.ok.short _ hmem
    rw [← hts] at this
    omega
   have jr := q9s HI.out.o hA.ok HI.out.pr HLK.out HC.out.1 HC.out.2 ps[s].a ps[s].len ps[s].cap ps[s].ts hus hll (by rw [hts]; exact hA.ok.bd _ hmem)
   have HN : Hid (∀ e w1,RoE T0 vs wr own' b n ak M S R N X ps[s].ts (2 ^ n) e w1 → (∃ E : Nat,((E : Int) != 0) = true ∧ e = .returned (.tuple #[.slice none 0 0,.int .i64 (E : Int)]) ∧ Q (.returned (.int .i64 (E : Int))) w1) ∨ ∃ z m g,e = .returned (.tuple #[.slice (some ⟨z,0,none⟩) m m,.int .i64 0]) ∧ w1.cell? ⟨b,3,none⟩ = some (.pointer (some ⟨g,0,none⟩)) ∧ Calls Tryz.prog 71 #[.pointer (some ⟨g,0,none⟩),.slice (some ⟨z,0,none⟩) m m] w1 (AdQ T0 vs w own b n ak M0 S0 X s Q)) := fun e w1 hq => by
    obtain ⟨own1,f1,⟨E,hE,h1,he⟩ | ⟨acc,S1,M1,h1,hal,he,hO,hrow,hz,_,hp1⟩⟩ := hq
    ·refine Or.inl ⟨E,by simp; omega,he,HQ.out _ _ ⟨own1,HI.out.fr.trans f1,Or.inl ⟨E,hE,?_,rfl⟩⟩⟩
     have hf1 : 256 - s = (256 - (s + 1)) + 1 := by omega
     rw [HI.out.tot,hf1]
     unfold allD
     rw [if_pos hlR,← hts,h1]
    ·rw [hts] at h1
     obtain ⟨g,hg,hC⟩ := HI.out.add HC.out.2 hlt f1 h1 hal hO hrow hz hp1 HQ.out
     rw [← hal] at he
     exact Or.inr ⟨_,acc.length,g,he,hg,hC⟩
   clear hk hps hus hts hA hmem hll HI HLK HC hlR
   generalize ps[s] = r at *
   obtain ⟨ra,rl,rc,rt⟩ := r
   simp only [Option.map_some,pcD] at hc
   dsimp only at jr HN
   generalize ps.length = Kn at *
   generalize S.length = Sn at *
   subst hpl
   clear HQ
   go_wp2_with fail
   refine jr.mono ?_
   intro e w1 hq
   rcases HN.out e w1 hq with ⟨E,hE,rfl,hR⟩ | ⟨z1,m1,g1,rfl,cs,jA⟩
   ·have HR : Hid _ := hR
    clear jr hq HN hR cl hc hidx
    go_wp2
    exact HR.out
   ·clear jr hq HN cl hc hidx
    go_wp2_with fail
    refine jA.mono ?_
    rintro e w2 (⟨rfl,hR⟩ | ⟨r2,aG,J,kG,xs,rfl,cg,hJ,hO2,hC2,HF⟩)
    ·have HR : Hid _ := hR
     clear jA hR cs
     go_wp2
     exact HR.out
    ·clear jA cs
     go_wp2_with (at_builtin; refine q2f Tryz.underlying29 q4J rfl (by decide) rfl _ _ rfl 0 _ J xs (.int .i64 r2) w2.heap.size rfl rfl hO2 hC2 rfl (by omega) (Nat.zero_le _) ?_)
     intro v5 w5 hown5 hgr5 hloc5
     obtain ⟨a5,k5,rfl⟩ := q1G hown5
     obtain ⟨c5,z5,own5,S5,M5,R5,N5,hI5⟩ := HF.out w5 _ hgr5 hown5 (by simpa using hloc5)
     have HI5 : Hid _ := hI5
     clear hown5 hgr5 hloc5 HF hI5 hO2 hC2 cg
     go_wp2
     go_roundw
     case rel => exact ⟨s + 1,own5,S5,M5,R5,N5,by omega,by go_num,HI5⟩
     case measure => simp [intOf] <;> omega
  ·obtain ⟨aL,kL,rfl⟩ := q1G hk.rl
   have cl := hk.cl
   have HR : Hid (Q (.returned (.int .i64 0)) wr) := HQ.out _ _ ⟨own',HI.out.fr,Or.inr ⟨R,N,S,M,?_,rfl,HI.out.o⟩⟩
   ·clear hk hps HI HQ
    generalize ps.length = Kn at *
    generalize S.length = Sn at *
    subst hpl
    go_wp2
    exact HR.out
   ·rw [HI.out.tot]
    have : ¬ R.length < S.length := by rw [HI.out.sl]; exact hlt
    cases h0 : 256 - s with
    | zero => rfl
    | succ f => unfold allD; rw [if_neg this]
end Go.Proofs.YtailhklbmenaoaaGreatDoor
