/- Package mean: what lies on the stack, and what it means. -/
import Derived.Test.YtfgaieefejdkbaaWMmA
import Derived.Test.YtfgaieefejdkbaaWMm7
namespace Go.Proofs.Ytfgaieefejdkbaa
open Go.RowKit Go.Maps

/-- Rows of bools, and rows of words below G, are as they were. -/
def KeepT (G : Nat) (w w' : World) : Prop := ∀ k c t z, w.heap[k]? = some (.cells c t z) → (t = 4 ∨ ((t = 133 ∨ t = 136) ∧ k < G)) → w'.heap[k]? = w.heap[k]?
theorem KeepT.trans {G : Nat} {a b c : World} (h : KeepT G a b) (k : KeepT G b c) : KeepT G a c := fun i x t z hc ht => by
  have e := h i x t z hc ht
  exact (k i x t z (e.trans hc) ht).trans e
theorem KeepT.of_below {G : Nat} {w w' : World} (h : Below w.heap.size w w') : KeepT G w w' := fun k _ _ _ hc _ => h.block k (Array.getElem?_eq_some_iff.1 hc).1
theorem KeepT.of_grown {G j : Nat} {w w' : World} (h : w.grownBy w' (some j)) {c0 : Array Value} {t0 : TypeId} {z0 : Nat × Nat} (hj : w.heap[j]? = some (.cells c0 t0 z0)) (h1 : t0 ≠ 4) (h2 : t0 ≠ 133) (h3 : t0 ≠ 136) : KeepT G w w' := fun k c t z hc ht =>
  h.block k (Array.getElem?_eq_some_iff.1 hc).1 fun e => by
    injection e with e
    subst e
    rw [hj] at hc
    injection hc with hc
    injection hc with _ hc _
    subst hc
    rcases ht with ht | ⟨ht | ht, _⟩
    · exact h1 ht
    · exact h2 ht
    · exact h3 ht
theorem KeepT.of_only {G : Nat} {w w' : World} (h : Only G w w') : KeepT G w w' := fun k c t z hc ht => by
  refine h.block k (Array.getElem?_eq_some_iff.1 hc).1 ?_
  rcases ht with ht | ⟨_, ht⟩
  · refine Or.inr fun c' z' e => ?_
    rw [hc] at e
    injection e with e
    injection e with _ e _
    subst ht
    exact absurd e (by decide)
  · exact Or.inl ht
theorem KeepT.mono {G G' : Nat} {w w' : World} (h : KeepT G w w') (hg : G' ≤ G) : KeepT G' w w' := fun k c t z hc ht => h k c t z hc (ht.imp id fun ⟨a, b⟩ => ⟨a, by omega⟩)
/-- A part, and what it means; its words lie from lo on, below hi. -/
def PartOk (w : World) (n b : Nat) (x : Sk) (p : Mp) (lo hi : Nat) : Prop :=
  (x.1 = true → ∃ g rs, p.2 = (some ⟨g, 0, none⟩, n + 1, n + 1) ∧ EndAt w g (n + 1) rs ∧ (∀ i, i ≤ n → ∀ k, hasW (rs i) k = true ↔ x.2.2 i k) ∧ lo ≤ g ∧ g + n + 1 < hi) ∧
  (x.1 = false → ∃ g bs, p.1 = (some ⟨g, 0, none⟩, n + 1, n + 1) ∧ ValAt w g bs ∧ bs.length = n + 1 ∧ (∀ i, i ≤ n → (bs.getD i false = true ↔ x.2.1 i)) ∧ b ≤ g)
/-- The parts on a stack, the top first. -/
def Parts (w : World) (n b : Nat) : Nat → List (Sk × Mp) → Prop
  | hi, [] => b < hi
  | hi, (x, p) :: r => ∃ lo, PartOk w n b x p lo hi ∧ lo ≤ hi ∧ Parts w n b lo r
theorem Parts.low {w : World} {n b : Nat} : ∀ {l : List (Sk × Mp)} {hi : Nat}, Parts w n b hi l → b < hi
  | [], _, h => h
  | (_, _) :: _, _, ⟨_, _, h1, h2⟩ => Nat.lt_of_lt_of_le (Parts.low h2) h1
theorem Parts.mono {w : World} {n b hi hi' : Nat} : ∀ {l : List (Sk × Mp)}, Parts w n b hi l → hi ≤ hi' → Parts w n b hi' l
  | [], h, hh => Nat.lt_of_lt_of_le h hh
  | (_, _) :: _, ⟨lo, h0, h1, h2⟩, hh => ⟨lo, ⟨fun hx => by
      obtain ⟨g, rs, a, b, c, d, e⟩ := h0.1 hx
      exact ⟨g, rs, a, b, c, d, by omega⟩, h0.2⟩, by omega, h2⟩
theorem PartOk.keep {w w' : World} {n b lo hi : Nat} {x : Sk} {p : Mp} (h : PartOk w n b x p lo hi) (hk : KeepT hi w w') : PartOk w' n b x p lo hi := by
  refine ⟨fun hx => ?_, fun hx => ?_⟩
  · obtain ⟨g, rs, a, b, c, d, e⟩ := h.1 hx
    exact ⟨g, rs, a, b.keep fun k c t z hc ht h1 h2 => hk k c t z hc (Or.inr ⟨ht, by omega⟩), c, d, e⟩
  · obtain ⟨g, bs, a, b, c⟩ := h.2 hx
    exact ⟨g, bs, a, (hk g _ _ _ b (Or.inl rfl)).trans b, c⟩
theorem Parts.keep {w w' : World} {n b : Nat} : ∀ {l : List (Sk × Mp)} {hi : Nat}, Parts w n b hi l → KeepT hi w w' → Parts w' n b hi l
  | [], _, h, _ => h
  | (_, _) :: _, _, ⟨lo, h0, h1, h2⟩, hk => ⟨lo, h0.keep hk, h1, Parts.keep h2 (hk.mono h1)⟩
/-- What work answers. -/
def WorkR (n b : Nat) (w : World) (x : Sk) (rest : List (Sk × Mp)) (e : Ending) (w' : World) : Prop :=
  ∃ p : Mp, e = .returned (.agg #[slV p.1, slV p.2]) ∧ StkAt w' b w.heap.size ((rest.map (·.2)).reverse) ∧ Parts w' n b w'.heap.size ((x, p) :: rest) ∧ Below b w w'
/-- The stack behind a call and the result's store. -/
theorem StkAt.fin {w1 w2 wf : World} {b B r : Nat} {st : List Mp} (h : StkAt w1 b B st) (hb : Below w1.heap.size w1 w2) (hg : w2.grownBy wf (some r)) (hr : B ≤ r) : StkAt wf b B st :=
  (h.up hb).keep fun k _ _ _ hc _ _ hk => hg.block k (Array.getElem?_eq_some_iff.1 hc).1 (fun e => by injection e with e; omega)
theorem keep_fin {G : Nat} {w1 w2 wf : World} {r : Nat} (hb : Below w1.heap.size w1 w2) (hg : w2.grownBy wf (some r)) {c : Array Value} {z : Nat × Nat} (hr : w1.heap[r]? = some (.cells c 75 z)) : KeepT G w1 wf :=
  (KeepT.of_below hb).trans (KeepT.of_grown hg ((hb.block r (Array.getElem?_eq_some_iff.1 hr).1).trans hr) (by decide) (by decide) (by decide))
theorem part_val {w1 w2 wf : World} {n b g lo hi r : Nat} {bs : List Bool} {x : Sk} {q : Sl} (hx : x.1 = false) (hV : ValAt w2 g bs) (hl : bs.length = n + 1) (hv : ∀ i, i ≤ n → (bs.getD i false = true ↔ x.2.1 i)) (hb : Below w1.heap.size w1 w2) (hg : w2.grownBy wf (some r)) {c : Array Value} {z : Nat × Nat} (hr : w1.heap[r]? = some (.cells c 75 z)) (hgb : b ≤ g) : PartOk wf n b x ((some ⟨g, 0, none⟩, n + 1, n + 1), q) lo hi := by
  refine ⟨fun h => (by rw [hx] at h; cases h), fun _ => ⟨g, bs, rfl, ?_, hl, hv, hgb⟩⟩
  exact (KeepT.of_grown (G := 0) hg ((hb.block r (Array.getElem?_eq_some_iff.1 hr).1).trans hr) (by decide) (by decide) (by decide) g _ _ _ hV (Or.inl rfl)).trans hV
theorem part_end {w1 w2 wf : World} {n b g lo r : Nat} {rs : Nat → List Nat} {x : Sk} {q : Sl} (hx : x.1 = true) (hE : EndAt w2 g (n + 1) rs) (hv : ∀ i, i ≤ n → ∀ k, hasW (rs i) k = true ↔ x.2.2 i k) (hlo : lo ≤ g) (hb : Below w1.heap.size w1 w2) (hg : w2.grownBy wf (some r)) {c : Array Value} {z : Nat × Nat} (hr : w1.heap[r]? = some (.cells c 75 z)) : PartOk wf n b x (q, (some ⟨g, 0, none⟩, n + 1, n + 1)) lo wf.heap.size := by
  refine ⟨fun _ => ⟨g, rs, rfl, ?_, hv, hlo, ?_⟩, fun h => (by rw [hx] at h; cases h)⟩
  · have hK := KeepT.of_grown (G := wf.heap.size) hg ((hb.block r (Array.getElem?_eq_some_iff.1 hr).1).trans hr) (by decide) (by decide) (by decide)
    exact hE.keep fun k c t z hc ht _ _ => hK k c t z hc (Or.inr ⟨ht, Nat.lt_of_lt_of_le (Array.getElem?_eq_some_iff.1 hc).1 hg.size⟩)
  · have := hE.lt
    have := hg.size
    omega
theorem grown_set2 (w : World) (r : Nat) (u v : Value) : w.grownBy ((w.setCell ⟨r, 0, none⟩ u).setCell ⟨r, 1, none⟩ v) (some r) :=
  ⟨rfl, rfl, rfl, by simp [World.setCell], fun k hk hne => (Below.heap_setCell _ _ _ _ (fun e => hne (congrArg some e))).trans (Below.heap_setCell _ _ _ _ (fun e => hne (congrArg some e)))⟩
theorem set2_cells {w : World} {r : Nat} {a0 a1 : Value} {T : TypeId} (hr : w.heap[r]? = some (.cells #[a0, a1] T (0, 0))) (u v : Value) : (w.setCell ⟨r, 0, none⟩ u).cell? ⟨r, 0, none⟩ = some u ∧ ((w.setCell ⟨r, 0, none⟩ u).setCell ⟨r, 1, none⟩ v).cell? ⟨r, 1, none⟩ = some v ∧ ((w.setCell ⟨r, 0, none⟩ u).setCell ⟨r, 1, none⟩ v).cell? ⟨r, 0, none⟩ = some u := by
  have h1 := heap_setCell_same w r 0 _ T u hr
  have h2 := heap_setCell_same _ r 1 _ T v h1
  simp [World.cell?, h1, h2]
theorem Try.fld0 (u v : Value) (w : World) : (Instr.field 75 (.agg #[u, v]) 0).run Try.prog w = .ok u w := by
  simp [Instr.field, asAgg, run_underlying Try.underlying75, go_sem, Result.andThen]
theorem Try.fld1 (u v : Value) (w : World) : (Instr.field 75 (.agg #[u, v]) 1).run Try.prog w = .ok v w := by
  simp [Instr.field, asAgg, run_underlying Try.underlying75, go_sem, Result.andThen]
/-- What work leaves behind it. -/
theorem work_below {w w3 : World} {b r : Nat} (h : Below b w w3) (hr : b ≤ r) (u v : Value) : Below b w ((w3.setCell ⟨r, 0, none⟩ u).setCell ⟨r, 1, none⟩ v) := (h.setCell hr _).setCell hr _
end Go.Proofs.Ytfgaieefejdkbaa
