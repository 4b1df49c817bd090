/- A table's map: from items to numbers. -/
import Derived.Test.YtbfhbpibpmgblaaWTb1
import Derived.Maps.OwnSet
import Derived.DeepKeys4
import Derived.LaidEqlPtr
import Derived.Deep.RegionLaw
import Derived.Deep.DeepCutAuto
namespace Go.Proofs.Ytbfhbpibpmgblaa
open Go.RowKit Go.Maps

/-- An item whose numbers fit. -/
def ItOk (x : It) : Prop := x.op < 256 ∧ x.p < 256 ∧ -1 ≤ x.a ∧ x.a < 4096 ∧ -1 ≤ x.b ∧ x.b < 4096
def klI (x : It) : Lit := .string (keyBytes [.int .u8 (x.op : Int), .int .u8 (x.p : Int), .int .i64 x.a, .int .i64 x.b])
theorem Try.laidOutT : laidOutB Try.prog = true := by kernel_rfl
theorem Try.keyTypeItem : Try.prog.keyType 49 = true := by kernel_rfl
theorem Try.lawItem : Keyed Try.prog 49 := Keyed.of_law (deep_law_laid Try.laidOutT (m := 3) (by omega) (of_decide_eq_true (by kernel_rfl)) (by kernel_rfl) (by kernel_rfl))
theorem Try.sizeTypes : ∃ n, Try.prog.types.size + 1 = n + 2 := ⟨Try.prog.types.size - 1, by have : 0 < Try.prog.types.size := of_decide_eq_true (by kernel_rfl); omega⟩
theorem Try.cellsItem : Try.prog.cellsOf 49 = 4 := by kernel_rfl
theorem Try.cellsOpI : Try.prog.cellsOf 47 = 1 := by kernel_rfl
theorem Try.cellsU8I : Try.prog.cellsOf 5 = 1 := by kernel_rfl
theorem Try.cellsIntI : Try.prog.cellsOf 3 = 1 := by kernel_rfl
theorem Try.itKey (x : It) (h : ItOk x) : keyOf Try.prog 49 (itV x) = some (klI x) := by
  obtain ⟨h1, h2, h3, h4, h5, h6⟩ := h
  obtain ⟨n, hn⟩ := Try.sizeTypes
  have w1 : (Lit.int .u8 (x.op : Int)).wf = true := WalkArith.wf_u8 (by omega)
  have w2 : (Lit.int .u8 (x.p : Int)).wf = true := WalkArith.wf_u8 (by omega)
  have w3 : (Lit.int .i64 x.a).wf = true := WalkArith.wf_i64 (by omega)
  have w4 : (Lit.int .i64 x.b).wf = true := WalkArith.wf_i64 (by omega)
  unfold keyOf itV klI
  rw [Try.underlying49, hn]
  simp [Try.keyTypeItem, Value.formed, Try.underlying49, Try.cellsItem, Value.cells, Program.keyLits, Try.cellsOpI, Try.cellsU8I, Try.cellsIntI, Try.underlying47, Try.underlying5, Try.underlying3, w1, w2, w3, w4]
theorem itV_inj {x y : It} (h : itV x = itV y) : x = y := by
  unfold itV at h
  obtain ⟨a, b, c, d⟩ := x
  obtain ⟨a', b', c', d'⟩ := y
  simp at h
  obtain ⟨h1, h2, h3, h4⟩ := h
  simp only [It.mk.injEq]
  omega
theorem Try.klI_inj {x y : It} (hx : ItOk x) (hy : ItOk y) (h : klI x = klI y) : x = y :=
  itV_inj (Try.lawItem.inj (Try.itKey x hx) (by rw [h]; exact Try.itKey y hy))
theorem klI_key (x : It) : WideAt.IsKeyLit (klI x) := trivial
/-- A block that is a map of n entries, from items to numbers. -/
def NumOf (w : World) (b n : Nat) (f : It → Option Nat) : Prop :=
  ∃ D : DataW Unit, w.ownsMap Try.prog 49 (plainElem Try.prog 3) b n D ∧ Tidy D ∧ Maps.size D = n ∧ ∀ x, ItOk x → has D (klI x) = (f x).isSome ∧ ∀ j, f x = some j → D.atKey (klI x) (.lit (.int .i64 0)) = .lit (.int .i64 (j : Int))
theorem NumOf.lt {w : World} {b n : Nat} {f : It → Option Nat} (h : NumOf w b n f) : b < w.heap.size := by
  obtain ⟨D, h, _⟩ := h; exact h.lt
theorem NumOf.far {w w' : World} {b n : Nat} {f : It → Option Nat} (h : NumOf w b n f) (hb : w'.heap[b]? = w.heap[b]?) : NumOf w' b n f := by
  obtain ⟨D, ⟨es, clock, h1, h2⟩, r⟩ := h
  exact ⟨D, ⟨es, clock, hb.trans h1, h2⟩, r⟩
theorem NumOf.isMap {w : World} {b n : Nat} {f : It → Option Nat} (h : NumOf w b n f) : ∃ es c, w.heap[b]? = some (.map es c) := by
  obtain ⟨D, ⟨es, clock, h1, h2⟩, r⟩ := h
  exact ⟨es, clock, h1⟩
theorem NumOf.alike {w : World} {b n : Nat} {f g : It → Option Nat} (h : NumOf w b n f) (hg : ∀ x, ItOk x → f x = g x) : NumOf w b n g := by
  obtain ⟨D, h1, h2, h3, h4⟩ := h
  exact ⟨D, h1, h2, h3, fun x hx => by rw [← hg x hx]; exact h4 x hx⟩
theorem num_made (w : World) : NumOf (w.alloc (.map #[] 0)) w.heap.size 0 (fun _ => none) :=
  ⟨.map [], World.ownsMap_made _ _ _ _, tidy_empty, rfl, fun x _ => ⟨rfl, fun j hj => by cases hj⟩⟩
theorem Try.zeroInt (w : World) : (zeroValue 3).run Try.prog w = .ok (.int .i64 0) w := by kernel_rfl
/-- What is found at an item. -/
theorem NumOf.look {w : World} {b n : Nat} {f : It → Option Nat} (h : NumOf w b n f) {x : It} (hx : ItOk x) :
    (Instr.lookup 53 (.map (some b)) (itV x) true).run Try.prog w = .ok (.tuple #[.int .i64 (((f x).getD 0 : Nat) : Int), .bool (f x).isSome]) w := by
  obtain ⟨D, h1, h2, h3, h4⟩ := h
  obtain ⟨hh, ha⟩ := h4 x hx
  obtain ⟨v, ps, hrun, hv⟩ := h1.look_ok Try.lawItem Try.underlying53 (Try.zeroInt w) (plainElem_int Try.underlying3 (by decide)) (Try.itKey x hx)
  obtain ⟨c, rfl, hc, hwc⟩ := plainElem_int_inv Try.underlying3 hv
  have hc' : D.atKey (klI x) (.lit (.int .i64 0)) = .lit (.int .i64 c) := congrArg Prod.fst hc
  rw [hrun, hh]
  cases hf : f x with
  | none =>
    rw [hf] at hh
    rw [atKey_of_not_has hh] at hc'
    injection hc' with hc'
    injection hc' with _ hc'
    subst hc'
    rfl
  | some j =>
    rw [ha j hf] at hc'
    injection hc' with hc'
    injection hc' with _ hc'
    subst hc'
    rfl
/-- An item that was not there gets a number. -/
theorem NumOf.put {w : World} {b n : Nat} {f : It → Option Nat} (h : NumOf w b n f) (hn : n ≤ 4096) {x : It} (hx : ItOk x) (hf : f x = none) (j : Nat) (hj : j ≤ 4096) :
    ∃ w', (Instr.mapUpdate 53 (.map (some b)) (itV x) (.int .i64 (j : Int))).run Try.prog w = .ok () w' ∧ NumOf w' b (n + 1) (fun y => if y = x then some j else f y) ∧ w.grownBy w' (some b) := by
  obtain ⟨D, h1, h2, h3, h4⟩ := h
  obtain ⟨hh, _⟩ := h4 x hx
  rw [hf] at hh
  obtain ⟨w', hrun, hown, hg⟩ := h1.update Try.lawItem Try.underlying53 (by unfold maxLen; omega) (Try.itKey x hx) (plainElem_int (a := (j : Int)) Try.underlying3 (WalkArith.wf_i64 (by omega)))
  refine ⟨w', hrun, ⟨_, hown, h2.put (klI_key x) _, ?_, fun y hy => ?_⟩, hg⟩
  · rw [size_put h2, hh, h3]; rfl
  · dsimp only
    by_cases e : y = x
    · subst e
      rw [if_pos rfl]
      refine ⟨has_put_same h2.isMap (klI_key y) _, fun i hi => ?_⟩
      injection hi with hi
      subst hi
      exact atKey_put_same h2.isMap (klI_key y) _ _
    · have ne : klI y ≠ klI x := fun he => e (Try.klI_inj hy hx he)
      rw [if_neg e, has_put_other ne]
      refine ⟨(h4 y hy).1, fun i hi => ?_⟩
      rw [atKey_put_other ne]
      exact (h4 y hy).2 i hi
/-- An item that was there is taken out. -/
theorem NumOf.drop {w : World} {b n : Nat} {f : It → Option Nat} (h : NumOf w b n f) {x : It} (hx : ItOk x) (hf : (f x).isSome = true) (ty : TypeId) :
    ∃ w', (Builtin.delete_ #[53, 49] ty #[.map (some b), itV x]).run Try.prog w = .ok (.tuple #[]) w' ∧ NumOf w' b (n - 1) (fun y => if y = x then none else f y) ∧ w.grownBy w' (some b) := by
  obtain ⟨D, h1, h2, h3, h4⟩ := h
  obtain ⟨hh, _⟩ := h4 x hx
  rw [hf] at hh
  obtain ⟨w', hrun, hown, ht⟩ := h1.drop Try.lawItem Try.underlying53 (Try.itKey x hx) ty
  have hsz : Maps.size (D.del (klI x)) = n - 1 := by
    have := size_del (k := klI x) h2
    rw [hh] at this
    simp at this
    omega
  have hown' : w'.ownsMap Try.prog 49 (plainElem Try.prog 3) b (n - 1) (D.del (klI x)) := by
    obtain ⟨es, clock, g1, g2, g3, g4⟩ := hown
    refine ⟨es, clock, g1, g2, ?_, g4⟩
    rw [← hsz, g4]
    simp [Maps.size, length_sorted]
  refine ⟨w', hrun, ⟨_, hown', h2.del _, hsz, fun y hy => ?_⟩, ht.grown⟩
  dsimp only
  by_cases e : y = x
  · subst e
    rw [if_pos rfl]
    exact ⟨has_del_same, fun i hi => by cases hi⟩
  · have ne : klI y ≠ klI x := fun he => e (Try.klI_inj hy hx he)
    rw [if_neg e, has_del_other ne]
    refine ⟨(h4 y hy).1, fun i hi => ?_⟩
    rw [atKey_del_other ne]
    exact (h4 y hy).2 i hi
end Go.Proofs.Ytbfhbpibpmgblaa
namespace Go.Proofs.Ytbfhbpibpmgblaa
open Go.RowKit Go.Maps

def encI (l : List It) : List Value := l.flatMap fun x => [.int .u8 (x.op : Int), .int .u8 (x.p : Int), .int .i64 x.a, .int .i64 x.b]
theorem encI_cons (x : It) (l : List It) : encI (x :: l) = .int .u8 (x.op : Int) :: .int .u8 (x.p : Int) :: .int .i64 x.a :: .int .i64 x.b :: encI l := rfl
theorem encI_append (xs ys : List It) : encI (xs ++ ys) = encI xs ++ encI ys := by simp [encI]
theorem encI_len : ∀ l : List It, (encI l).length = l.length * 4
  | [] => rfl
  | t :: ts => by rw [encI_cons]; simp [encI_len ts]; omega
theorem encI_get : ∀ (l : List It) (k : Nat) (h : k < l.length), (encI l)[4 * k]? = some (.int .u8 (l[k].op : Int)) ∧ (encI l)[4 * k + 1]? = some (.int .u8 (l[k].p : Int)) ∧ (encI l)[4 * k + 2]? = some (.int .i64 l[k].a) ∧ (encI l)[4 * k + 3]? = some (.int .i64 l[k].b)
  | [], k, h => absurd h (by simp)
  | t :: ts, 0, _ => ⟨rfl, rfl, rfl, rfl⟩
  | t :: ts, k + 1, h => by
    have := encI_get ts k (by simpa using h)
    rw [encI_cons, show 4 * (k + 1) = 4 * k + 1 + 1 + 1 + 1 by omega, show 4 * k + 1 + 1 + 1 + 1 + 1 = (4 * k + 1) + 1 + 1 + 1 + 1 by omega, show 4 * k + 1 + 1 + 1 + 1 + 2 = (4 * k + 2) + 1 + 1 + 1 + 1 by omega, show 4 * k + 1 + 1 + 1 + 1 + 3 = (4 * k + 3) + 1 + 1 + 1 + 1 by omega]
    simpa using this
theorem encI_take (l : List It) (n : Nat) : (encI l).take (n * 4) = encI (l.take n) := by
  by_cases h : n ≤ l.length
  · have e : encI l = encI (l.take n) ++ encI (l.drop n) := by rw [← encI_append, List.take_append_drop]
    have hl : (encI (l.take n)).length = n * 4 := by rw [encI_len, List.length_take, Nat.min_eq_left h]
    rw [e, ← hl, List.take_left]
  · rw [List.take_of_length_le (by rw [encI_len]; omega), List.take_of_length_le (by omega)]
theorem four_oneCell (x : It) : ∀ u ∈ encI [x], u.oneCell' = true := by
  intro u hu
  simp [encI] at hu
  rcases hu with rfl | rfl | rfl | rfl <;> rfl
theorem Try.sizeItem : (Try.prog.info? 49).map (·.size) = some 4 := by kernel_rfl
theorem Try.infoItem : (Try.prog.info? 49).map (fun i => (i.zero, i.size, i.bytes)) = some (some (.agg #[.int .u8 0, .int .u8 0, .int .i64 0, .int .i64 0]), 4, 24) := by kernel_rfl
def posI (items : List It) (x : It) : Option Nat := items.findIdx? (· = x)
theorem posI_some {items : List It} (hn : items.Nodup) {x : It} {j : Nat} : posI items x = some j ↔ items[j]? = some x := by
  unfold posI
  rw [List.findIdx?_eq_some_iff_getElem, List.getElem?_eq_some_iff]
  constructor
  · rintro ⟨hj, h, _⟩
    exact ⟨hj, by simpa using h⟩
  · rintro ⟨hj, h⟩
    refine ⟨hj, by simpa using h, fun i hi => ?_⟩
    intro he
    have he' : items[i] = x := by simpa using he
    have := (List.getElem_inj hn).1 (he'.trans h.symm)
    omega
theorem posI_none {items : List It} {x : It} : posI items x = none ↔ x ∉ items := by
  unfold posI
  rw [List.findIdx?_eq_none_iff]
  constructor
  · intro h hx
    simpa using h x hx
  · intro h y hy
    simp
    rintro rfl
    exact h hy
theorem posI_lt {items : List It} {x : It} {j : Nat} (h : posI items x = some j) : j < items.length := by
  unfold posI at h
  exact (List.findIdx?_eq_some_iff_getElem.1 h).1
/-- A table in memory: its variable, its items, its map. -/
structure TabI (w : World) (F : Nat → Prop) (t : Nat) (items : List It) : Prop where
  nd : items.Nodup
  few : items.length ≤ 4096
  ok : ∀ x ∈ items, ItOk x
  ex : ∃ v mb, w.heap[t]? = some (.cells #[tbV t, v, .map (some mb)] 55 (0, 0)) ∧ w.ownsRow 0 49 4 v items.length (encI items) ∧ NumOf w mb items.length (posI items) ∧ ∀ k, F k ↔ (k = t ∨ k = mb ∨ v.ownBlock = some k)
theorem TabI.lt {w : World} {F : Nat → Prop} {t : Nat} {items : List It} (h : TabI w F t items) : ∀ k, F k → k < w.heap.size := by
  obtain ⟨v, mb, h1, h2, h3, h4⟩ := h.ex
  intro k hk
  rcases (h4 k).1 hk with rfl | rfl | hk
  · exact (Array.getElem?_eq_some_iff.1 h1).1
  · exact h3.lt
  · exact own_lt h2 k hk
theorem owns_off {w w' : World} {base e size n : Nat} {v : Value} {xs : List Value} (h : w.ownsRow base e size v n xs) (hb : ∀ k, v.ownBlock = some k → w'.heap[k]? = w.heap[k]?) : w'.ownsRow base e size v n xs := by
  obtain ⟨hl, h⟩ := h
  refine ⟨hl, h.imp id ?_⟩
  rintro ⟨g, cap, cur, rfl, hg, hcell, r⟩
  exact ⟨g, cap, cur, rfl, hg, (hb g rfl).trans hcell, r⟩
theorem TabI.far {w w' : World} {F : Nat → Prop} {t : Nat} {items : List It} (h : TabI w F t items) (hb : ∀ k, F k → w'.heap[k]? = w.heap[k]?) : TabI w' F t items := by
  obtain ⟨v, mb, h1, h2, h3, h4⟩ := h.ex
  exact ⟨h.nd, h.few, h.ok, v, mb, (hb t ((h4 t).2 (Or.inl rfl))).trans h1, owns_off h2 (fun k hk => hb k ((h4 k).2 (Or.inr (Or.inr hk)))), h3.far (hb mb ((h4 mb).2 (Or.inr (Or.inl rfl)))), h4⟩
theorem TabI.up {w w' : World} {F : Nat → Prop} {t : Nat} {items : List It} (h : TabI w F t items) (hb : Below w.heap.size w w') : TabI w' F t items := h.far fun k hk => hb.block k (h.lt k hk)
theorem Fr.same {w w' : World} {F : Nat → Prop} (hb : Below w.heap.size w w') : Fr w w' F F := ⟨hb.os, hb.tape, hb.output, hb.size, fun k hk _ => hb.block k hk, fun _ hk => Or.inl hk⟩
/-- What the walk reads of a table's variable and of its items. -/
structure TabR (w : World) (t : Nat) (a : Option Addr) (n cap mb : Nat) (items : List It) : Prop where
  hn : items.length = n
  hc : n ≤ cap
  bd : cap ≤ maxLen
  nn : a = none → cap = 0
  blk : w.heap[t]? = some (.cells #[tbV t, .slice a n cap, .map (some mb)] 55 (0, 0))
  row : w.ownsRow 0 49 4 (.slice a n cap) n (encI items)
  num : NumOf w mb n (posI items)
theorem TabI.read {w : World} {F : Nat → Prop} {t : Nat} {items : List It} (h : TabI w F t items) : ∃ a cap mb, TabR w t a items.length cap mb items ∧ ∀ k, F k ↔ (k = t ∨ k = mb ∨ (Value.slice a items.length cap).ownBlock = some k) := by
  obtain ⟨v, mb, h1, h2, h3, h4⟩ := h.ex
  rcases h2.2 with ⟨rfl, e0⟩ | ⟨g, cap, cur, rfl, _, _, hnc, hcm, _⟩
  · obtain rfl : items = [] := List.eq_nil_of_length_eq_zero e0
    exact ⟨none, 0, mb, ⟨rfl, Nat.le_refl _, Nat.zero_le _, fun _ => rfl, h1, h2, h3⟩, h4⟩
  · exact ⟨some ⟨g, 0, none⟩, cap, mb, ⟨rfl, hnc, hcm, fun e => (by cases e), h1, h2, h3⟩, h4⟩
theorem TabR.c0 {w : World} {t n cap mb : Nat} {a : Option Addr} {items : List It} (h : TabR w t a n cap mb items) : w.cell? ⟨t, 0, none⟩ = some (.pointer (some ⟨t, 0, none⟩)) := cell_row h.blk 0
theorem TabR.c1 {w : World} {t n cap mb : Nat} {a : Option Addr} {items : List It} (h : TabR w t a n cap mb items) : w.cell? ⟨t, 1, none⟩ = some (.slice a n cap) := cell_row h.blk 1
theorem TabR.c2 {w : World} {t n cap mb : Nat} {a : Option Addr} {items : List It} (h : TabR w t a n cap mb items) : w.cell? ⟨t, 2, none⟩ = some (.map (some mb)) := cell_row h.blk 2
theorem sizeOf_runI {P : Program} {e : TypeId} {s : Nat} (h : (P.info? e).map (·.size) = some s) (w : World) : (sizeOf e).run P w = .ok s w := by
  cases hq : P.info? e with
  | none => simp [hq] at h
  | some i => simp [hq] at h; simp [sizeOf, typeInfo, hq, h]
/-- An item, where it lies. -/
theorem TabR.at {w : World} {t n cap mb : Nat} {a : Option Addr} {items : List It} (h : TabR w t a n cap mb items) (k : Nat) (hk : k < items.length) :
    ∃ g o, (∀ w', (Instr.indexAt 26 (.slice a n cap) (.int .i64 (k : Int))).run Try.prog w' = .ok (.pointer (some ⟨g, o, none⟩)) w') ∧ w.cell? ⟨g, o, none⟩ = some (.int .u8 (items[k].op : Int)) ∧ w.cell? ⟨g, o + 1, none⟩ = some (.int .u8 (items[k].p : Int)) ∧ w.cell? ⟨g, o + 2, none⟩ = some (.int .i64 items[k].a) ∧ w.cell? ⟨g, o + 3, none⟩ = some (.int .i64 items[k].b) := by
  have hn := h.hn
  rcases h.row.2 with ⟨e, e0⟩ | ⟨g, cap', cur, e, _, hcell, hnc, _, hsz, htk⟩
  · omega
  · injection e with e1 _ e3
    subst e1 e3
    have key : ∀ j, j < n * 4 → w.cell? ⟨g, j, none⟩ = (encI items)[j]? := fun j hj => by
      rw [← htk, List.getElem?_take, if_pos hj]
      simp [World.cell?, hcell]
    have hkn : k < n := by omega
    obtain ⟨q0, q1, q2, q3⟩ := encI_get items k hk
    refine ⟨g, 4 * k, fun w' => ?_, ?_, ?_, ?_, ?_⟩
    · simp [Instr.indexAt, run_underlying Try.underlying26, asIntOf, sizeOf_runI Try.sizeItem, hkn, Result.andThen, go_sem, add_plain, Nat.mul_comm]
    · rw [key _ (by omega)]; exact q0
    · rw [key _ (by omega)]; exact q1
    · rw [key _ (by omega)]; exact q2
    · rw [key _ (by omega)]; exact q3
/-! ### takes, made, New, Len, refusal, Item -/
set_option maxHeartbeats 4000000 in
theorem Try.ttakes_any (op : Nat) (w : World) (hop : op ≤ 23) (h3 : op ≠ 3) (h9 : op ≠ 9) (h10 : op ≠ 10) : Calls Try.prog 40 #[.int .u8 (op : Int)] w fun e w' => e = .returned (.int .i64 (takO op : Int)) ∧ w' = w := by
  rcases op_cases hop with rfl | rfl | rfl | rfl | rfl | rfl | rfl | rfl | rfl | rfl | rfl | rfl | rfl | rfl | rfl | rfl | rfl | rfl | rfl | rfl | rfl | rfl | rfl | rfl <;> first | exact absurd rfl h3 | exact absurd rfl h9 | exact absurd rfl h10 |
  · go_enter Try.func40, Try.ntmps40
    go_wp2
    go_ret
    exact ⟨rfl, rfl⟩
theorem Try.tabInfo : ∃ j, Try.prog.info? 55 = some j := by
  cases h : Try.prog.info? 55 with
  | some j => exact ⟨j, rfl⟩
  | none => exact absurd h (by have : (Try.prog.info? 55).isSome = true := by kernel_rfl
                               intro e; rw [e] at this; cases this)
theorem Try.ptr_same (a : Addr) (w : World) : (binOp .eql 23 (.pointer (some a)) (.pointer (some a))).run Try.prog w = .ok (.bool true) w := by
  obtain ⟨j, hj⟩ := Try.tabInfo
  exact run_eql_ptr_same w a Try.underlying23 hj
theorem Try.ptr_none (a : Addr) (w : World) : (binOp .eql 23 (.pointer none) (.pointer (some a))).run Try.prog w = .ok (.bool false) w := by
  have h : ∀ d : Nat, (Op.equalIn (d + 1) 23 (.pointer none) (.pointer (some a))).run Try.prog w = .ok false w := fun d => by
    simp [Op.equalIn, run_underlying Try.underlying23]
  simp only [binOp]
  simp [Op.equal, Op.maxDepth, h 9999]
theorem Try.made_tab {w : World} {t n cap mb : Nat} {a : Option Addr} {items : List It} (h : TabR w t a n cap mb items) : Calls Try.prog 23 #[.pointer (some ⟨t, 0, none⟩)] w fun e w' => e = .returned (.bool true) ∧ w' = w := by
  have c0 := h.c0
  have hp := fun w => Try.ptr_same ⟨t, 0, none⟩ w
  clear h
  go_enter Try.func23, Try.ntmps23
  go_wp2
  go_ret
  exact ⟨rfl, rfl⟩
theorem Try.made_none (w : World) : Calls Try.prog 23 #[.pointer none] w fun e w' => e = .returned (.bool false) ∧ w' = w := by
  go_enter Try.func23, Try.ntmps23
  go_wp2
  go_ret
  exact ⟨rfl, rfl⟩
theorem Try.made_zero (w : World) (t : Nat) (c0 : w.cell? ⟨t, 0, none⟩ = some (.pointer none)) : Calls Try.prog 23 #[.pointer (some ⟨t, 0, none⟩)] w fun e w' => e = .returned (.bool false) ∧ w' = w := by
  have hp := fun w => Try.ptr_none ⟨t, 0, none⟩ w
  go_enter Try.func23, Try.ntmps23
  go_wp2
  go_ret
  exact ⟨rfl, rfl⟩
end Go.Proofs.Ytbfhbpibpmgblaa
namespace Go.Proofs.Ytbfhbpibpmgblaa
open Go.RowKit Go.Maps

theorem tabI_new (w : World) (t : Nat) (ht : t = w.heap.size + 1) : TabI ((w.alloc (.map #[] 0)).alloc (.cells #[.pointer (some ⟨t, 0, none⟩), .slice none 0 0, .map (some w.heap.size)] 55)) (fun k => k = t ∨ k = w.heap.size) t [] := by
  have h1 : ((w.alloc (.map #[] 0)).alloc (.cells #[.pointer (some ⟨t, 0, none⟩), .slice none 0 0, .map (some w.heap.size)] 55)).heap[t]? = some (.cells #[.pointer (some ⟨t, 0, none⟩), .slice none 0 0, .map (some w.heap.size)] 55 (0, 0)) := by
    have := (MapKept.heap_alloc (w.alloc (.map #[] 0)) (.cells #[.pointer (some ⟨t, 0, none⟩), .slice none 0 0, .map (some w.heap.size)] 55)).1
    rw [show (w.alloc (.map #[] 0)).heap.size = t by simp; omega] at this
    exact this
  have h2 : NumOf ((w.alloc (.map #[] 0)).alloc (.cells #[.pointer (some ⟨t, 0, none⟩), .slice none 0 0, .map (some w.heap.size)] 55)) w.heap.size 0 (posI []) := ((num_made w).far ((below_new (w.alloc (.map #[] 0)) _).block w.heap.size (by simp))).alike fun x _ => rfl
  refine ⟨by simp, by simp, fun x hx => (by simp at hx), .slice none 0 0, w.heap.size, h1, ⟨rfl, Or.inl ⟨rfl, rfl⟩⟩, h2, fun k => ?_⟩
  constructor
  · rintro (h | h)
    · exact Or.inl h
    · exact Or.inr (Or.inl h)
  · rintro (h | h | h)
    · exact Or.inl h
    · exact Or.inr h
    · cases h
theorem Try.tnew_any (w : World) : Calls Try.prog 7 #[] w fun e w' => ∃ t F, e = .returned (tbV t) ∧ TabI w' F t [] ∧ (∀ k, F k → w.heap.size ≤ k) ∧ Below w.heap.size w w' := by
  have hmm := @run_makeMap Try.prog
  go_enter Try.func7, Try.ntmps7
  go_wp2
  go_ret
  refine ⟨w.heap.size + 1, _, rfl, tabI_new w _ rfl, fun k hk => ?_, ?_⟩
  · rcases hk with rfl | rfl
    · omega
    · exact Nat.le_refl _
  · exact below_step (below_new w _) (below_new _ _)
theorem Try.tlen_any {w : World} {F : Nat → Prop} {t : Nat} {items : List It} (h : TabI w F t items) : Calls Try.prog 13 #[.pointer (some ⟨t, 0, none⟩)] w fun e w' => e = .returned (.int .i64 (items.length : Int)) ∧ w' = w := by
  obtain ⟨a, cap, mb, hr, _⟩ := h.read
  have c1 := hr.c1
  have hm := Try.made_tab hr
  clear h hr
  go_enter Try.func13, Try.ntmps13
  go_wp2_with (go_at_call 23; refine hm.mono ?_; rintro e w' ⟨rfl, rfl⟩)
  go_ret
  exact ⟨rfl, rfl⟩
theorem Try.tref_ok {w : World} {t n cap mb : Nat} {a : Option Addr} {items : List It} (h : TabR w t a n cap mb items) (i : Nat) (hi : i < n) : Calls Try.prog 36 #[.pointer (some ⟨t, 0, none⟩), .int .i64 (i : Int)] w fun e w' => e = .returned (.int .i64 0) ∧ w' = w := by
  have c1 := h.c1
  have hm := Try.made_tab h
  have h1 : ¬ (n : Int) ≤ (i : Int) := by omega
  have h2 : ¬ (i : Int) < 0 := by omega
  clear h
  go_enter Try.func36, Try.ntmps36
  go_wp2_with (go_at_call 23; refine hm.mono ?_; rintro e w' ⟨rfl, rfl⟩)
  go_ret
  exact ⟨rfl, rfl⟩
theorem Try.tref_miss {w : World} {t n cap mb : Nat} {a : Option Addr} {items : List It} (h : TabR w t a n cap mb items) (i : Int) (hi : i < 0 ∨ (n : Int) ≤ i) : Calls Try.prog 36 #[.pointer (some ⟨t, 0, none⟩), .int .i64 i] w fun e w' => e = .returned (.int .i64 6) ∧ w' = w := by
  have c1 := h.c1
  have hm := Try.made_tab h
  clear h
  rcases (show i < 0 ∨ (¬ i < 0 ∧ (n : Int) ≤ i) by omega) with h1 | ⟨h1, h2⟩
  · go_enter Try.func36, Try.ntmps36
    go_wp2_with (go_at_call 23; refine hm.mono ?_; rintro e w' ⟨rfl, rfl⟩)
    go_ret
    exact ⟨rfl, rfl⟩
  · go_enter Try.func36, Try.ntmps36
    go_wp2_with (go_at_call 23; refine hm.mono ?_; rintro e w' ⟨rfl, rfl⟩)
    go_ret
    exact ⟨rfl, rfl⟩
end Go.Proofs.Ytbfhbpibpmgblaa
namespace Go.Proofs.Ytbfhbpibpmgblaa
open Go.RowKit Go.Maps

theorem TabR.up {w w' : World} {t n cap mb : Nat} {a : Option Addr} {items : List It} (h : TabR w t a n cap mb items) (hb : Below w.heap.size w w') : TabR w' t a n cap mb items :=
  ⟨h.hn, h.hc, h.bd, h.nn, (hb.block t (Array.getElem?_eq_some_iff.1 h.blk).1).trans h.blk, owns_up h.row hb, h.num.far (hb.block mb h.num.lt)⟩
set_option maxRecDepth 100000 in
set_option maxHeartbeats 1000000 in
theorem Try.titem_any {w : World} {F : Nat → Prop} {t : Nat} {items : List It} (h : TabI w F t items) (i : Nat) (x : It) (hx : items[i]? = some x) : Calls Try.prog 19 #[.pointer (some ⟨t, 0, none⟩), .int .i64 (i : Int)] w fun e w' => e = .returned (.tuple #[itV x, .int .i64 0]) ∧ Below w.heap.size w w' := by
  obtain ⟨a, cap, mb, hr, _⟩ := h.read
  obtain ⟨hi, rfl⟩ := List.getElem?_eq_some_iff.1 hx
  have hb := below_new w (.cells #[.int .u8 0, .int .u8 0, .int .i64 0, .int .i64 0] 49)
  have hr1 := hr.up hb
  have c1 := hr1.c1
  have hf := Try.tref_ok hr1 i hi
  obtain ⟨g, o, hio, q0, q1, q2, q3⟩ := hr1.at i hi
  generalize items[i] = x at *
  obtain ⟨op, p, xa, xb⟩ := x
  dsimp only at q0 q1 q2 q3
  clear h hr hr1
  go_enter Try.func19, Try.ntmps19
  go_wp2_with (go_at_call 36; refine hf.mono ?_; rintro e w' ⟨rfl, rfl⟩)
  refine bodyPost_ret (v := .tuple #[.agg #[.int .u8 (op : Int), .int .u8 (p : Int), .int .i64 xa, .int .i64 xb], .int .i64 0]) (by simp [results, Try.results19, go_sem]) rfl ⟨rfl, below_new _ _⟩
/-- A list of numbers, as the walk reads it. -/
def NsSl (w : World) (a : Option Addr) (len cap : Nat) (ns : List Nat) : Prop := IntSl Try.prog 41 .i64 w a len cap (ns.map fun n : Nat => (n : Int))
theorem NsSl.at {w : World} {a : Option Addr} {len cap : Nat} {ns : List Nat} (h : NsSl w a len cap ns) (k : Nat) (hk : k < ns.length) : ∃ g o s, (∀ w', (Instr.indexAt 41 (.slice a len cap) (.int .i64 (k : Int))).run Try.prog w' = .ok (.pointer (some ⟨g, o, s⟩)) w') ∧ w.cell? ⟨g, o, s⟩ = some (.int .i64 (ns[k] : Int)) := by
  have hl := h.hlen
  rw [List.length_map] at hl
  have h1 := fun w' => h.idx len k w' (by omega) (Nat.le_refl _)
  have h2 := h.cell k (by omega)
  rw [show (ns.map fun n : Nat => (n : Int)).getD k 0 = (ns[k] : Int) by simp [List.getD, hk]] at h2
  generalize adOf a k = y at *
  obtain ⟨g, o, s⟩ := y
  exact ⟨g, o, s, h1, h2⟩
theorem NsSl.up {w w' : World} {a : Option Addr} {len cap : Nat} {ns : List Nat} (h : NsSl w a len cap ns) (hb : Below w.heap.size w w') : NsSl w' a len cap ns := IntSl.up h hb
set_option maxRecDepth 100000 in
set_option maxHeartbeats 2000000 in
theorem Try.titemOf_any (op p : Nat) (a : Option Addr) (len cap : Nat) (ns : List Nat) (w : World) (hN : NsSl w a len cap ns) (hl : len ≤ 2) : Calls Try.prog 41 #[.agg #[.int .u8 (op : Int), .int .u8 (p : Int)], .slice a len cap] w fun e w' => e = .returned (itV (itemOf (op, p) ns)) ∧ Below w.heap.size w w' := by
  have hlen : ns.length = len := by have := hN.hlen; rwa [List.length_map] at this
  subst hlen
  have hb : ∀ u v : Int, Below w.heap.size w (((w.alloc (.cells #[.int .u8 (op : Int), .int .u8 (p : Int)] 61)).alloc (.cells #[.int .u8 0, .int .u8 0, .int .i64 0, .int .i64 0] 49)).alloc (.cells #[.int .u8 (op : Int), .int .u8 (p : Int), .int .i64 u, .int .i64 v] 49)) := fun u v => below_step (below_step (below_new w _) (below_new _ _)) (below_new _ _)
  have fin : ∀ u v : Int, Below w.heap.size w (((w.alloc (.cells #[.int .u8 (op : Int), .int .u8 (p : Int)] 61)).alloc (.cells #[.int .u8 (op : Int), .int .u8 (p : Int), .int .i64 u, .int .i64 v] 49)).alloc (.cells #[.int .u8 (op : Int), .int .u8 (p : Int), .int .i64 u, .int .i64 v] 49)) := fun u v => below_step (below_step (below_new w _) (below_new _ _)) (below_new _ _)
  match ns, hl, hN with
  | [], _, hN =>
    clear hN hb
    go_enter Try.func41, Try.ntmps41
    go_wp2
    refine bodyPost_ret (v := .agg #[.int .u8 (op : Int), .int .u8 (p : Int), .int .i64 (-1), .int .i64 (-1)]) (by simp [results, Try.results41, go_sem]) rfl ⟨rfl, fin _ _⟩
  | [x], _, hN =>
    obtain ⟨g, o, s, hi, hc⟩ := (hN.up (hb (-1) (-1))).at 0 (by simp)
    have hi' : ∀ w', (Instr.indexAt 41 (.slice a 1 cap) (.int .i64 0)).run Try.prog w' = .ok (.pointer (some ⟨g, o, s⟩)) w' := hi
    dsimp only [List.getElem_cons_zero] at hc
    clear hN hb hi
    go_enter Try.func41, Try.ntmps41
    go_wp2
    refine bodyPost_ret (v := .agg #[.int .u8 (op : Int), .int .u8 (p : Int), .int .i64 (x : Int), .int .i64 (-1)]) (by simp [results, Try.results41, go_sem]) rfl ⟨rfl, fin _ _⟩
  | [x, y], _, hN =>
    obtain ⟨g, o, s, hi, hc⟩ := (hN.up (hb (-1) (-1))).at 0 (by simp)
    obtain ⟨g2, o2, s2, hi2, hc2⟩ := (hN.up (hb x (-1))).at 1 (by simp)
    have hi' : ∀ w', (Instr.indexAt 41 (.slice a 2 cap) (.int .i64 0)).run Try.prog w' = .ok (.pointer (some ⟨g, o, s⟩)) w' := hi
    have hi2' : ∀ w', (Instr.indexAt 41 (.slice a 2 cap) (.int .i64 1)).run Try.prog w' = .ok (.pointer (some ⟨g2, o2, s2⟩)) w' := hi2
    dsimp only [List.getElem_cons_zero, List.getElem_cons_succ] at hc hc2
    clear hN hb hi hi2
    go_enter Try.func41, Try.ntmps41
    go_wp2
    refine bodyPost_ret (v := .agg #[.int .u8 (op : Int), .int .u8 (p : Int), .int .i64 (x : Int), .int .i64 (y : Int)]) (by simp [results, Try.results41, go_sem]) rfl ⟨rfl, fin _ _⟩
  | _ :: _ :: _ :: _, h, _ => simp at h
end Go.Proofs.Ytbfhbpibpmgblaa
namespace Go.Proofs.Ytbfhbpibpmgblaa
open Go.RowKit Go.Maps

def itO (x : It) : Obj := .cells #[.int .u8 (x.op : Int), .int .u8 (x.p : Int), .int .i64 x.a, .int .i64 x.b] 49 (0, 0)
/-- One item more behind a row of items. -/
theorem Try.wp_it {w : World} {o : Oper} {a : Act} {K : Act → World → Prop} {Q : Exit → Act → World → Prop} (s x : Operand)
    (ho : o.op = .call { callee := .builtin .append, args := #[s, x], argTypes := #[26, 26] })
    (v : Value) (n : Nat) (items : List It) (y : It) (g : Nat) (hs : a.eval s = v) (hx : a.eval x = .slice (some ⟨g, 0, none⟩) 1 1) (hown : w.ownsRow 0 49 4 v n (encI items))
    (hB : w.heap[g]? = some (itO y)) (hn : n ≤ 4096)
    (h : ∀ v' w', w'.ownsRow 0 49 4 v' (n + 1) (encI (items ++ [y])) → w.grownBy w' v.ownBlock → (v'.ownBlock = v.ownBlock ∨ v'.ownBlock = some w.heap.size) → K (a.put o.dst v') w') : o.wp Try.prog a w K Q := by
  obtain ⟨i, hi, hz0, hz1, hz2⟩ := info_parts Try.infoItem
  obtain ⟨v', w', hr, h2, h3, _, h5⟩ := run_append_own_at (P := Try.prog) w 0 26 o.type 49 i _ 4 24 Try.underlying26 hi hz0 hz1 hz2 rfl (by decide) v n _ hown ⟨g, 0, none⟩ 1 1 (encI [y]) rfl (fun j u hj => by
    rw [add_plain, Nat.zero_add, cell_row hB]
    simpa [encI] using hj) (four_oneCell y) (by unfold maxLen; omega) (by omega) (Nat.zero_le _)
  unfold Oper.wp execOp
  simp only [ho, resolve, invoke, builtin, Sem.run_bind, Sem.run_pure, Result.andThen_ok, List.map_toArray, List.map_cons, List.map_nil, hs, hx, hr]
  exact h v' w' (by rw [encI_append]; exact h2) h3 h5
theorem Try.stepg_it {w : World} {ops : Array Oper} {o : Oper} {a : Act} {K : Act → World → Prop} {Q : Exit → Act → World → Prop} {E : Prop} (hw : Region.wanted o (yielded ops a.tmps) = true) (s x : Operand)
    (ho : o.op = .call { callee := .builtin .append, args := #[s, x], argTypes := #[26, 26] })
    (v : Value) (n : Nat) (items : List It) (y : It) (g : Nat) (hs : a.eval s = v) (hx : a.eval x = .slice (some ⟨g, 0, none⟩) 1 1) (hown : w.ownsRow 0 49 4 v n (encI items))
    (hB : w.heap[g]? = some (itO y)) (hn : n ≤ 4096)
    (h : ∀ v' w', w'.ownsRow 0 49 4 v' (n + 1) (encI (items ++ [y])) → w.grownBy w' v.ownBlock → (v'.ownBlock = v.ownBlock ∨ v'.ownBlock = some w.heap.size) → K (a.put o.dst v') w') :
    if Region.wanted o (yielded ops a.tmps) = true then Oper.wp Try.prog o a w K Q else E := by
  rw [if_pos hw]
  exact Try.wp_it s x ho v n items y g hs hx hown hB hn h
theorem own_slI {w : World} {base e size n : Nat} {v : Value} {xs : List Value} (h : w.ownsRow base e size v n xs) : ∃ a cap, v = .slice a n cap := by
  rcases h.2 with ⟨rfl, rfl⟩ | ⟨g, cap, cur, rfl, _⟩
  · exact ⟨none, 0, rfl⟩
  · exact ⟨_, cap, rfl⟩
/-- A row of items is no other block. -/
theorem own_neI {w : World} {base n g : Nat} {v : Value} {xs : List Value} {o : Obj} (h : w.ownsRow base 49 4 v n xs) (hg : w.heap[g]? = some o) (ho : ∀ cs, o ≠ .cells cs 49 (0, 0)) : v.ownBlock ≠ some g := by
  rcases h.2 with ⟨rfl, _⟩ | ⟨g', cap, cur, rfl, _, hc, _⟩
  · intro e; cases e
  · intro e
    injection e with e
    dsimp only at e
    subst e
    rw [hg] at hc
    injection hc with hc
    exact ho _ hc
/-- Items, one more, are found as they should. -/
theorem posI_more {items : List It} {x : It} (hx : x ∉ items) (y : It) : (if y = x then some items.length else posI items y) = posI (items ++ [x]) y := by
  unfold posI
  rw [List.findIdx?_append]
  by_cases e : y = x
  · subst e
    rw [if_pos rfl, show items.findIdx? (· = y) = none from posI_none.2 hx]
    simp
  · rw [if_neg e]
    have : ¬ x = y := fun h => e h.symm
    simp [this]
/-- What the walk of add has behind the items' growing. -/
structure Mid (w w6 : World) (t : Nat) (a6 : Option Addr) (n c6 mb : Nat) (items : List It) (x : It) (a : Option Addr) (cap : Nat) : Prop where
  blk : w6.heap[t]? = some (.cells #[tbV t, .slice a6 (n + 1) c6, .map (some mb)] 55 (0, 0))
  row : w6.ownsRow 0 49 4 (.slice a6 (n + 1) c6) (n + 1) (encI (items ++ [x]))
  num : NumOf w6 mb n (posI items)
  box : w6.heap[w.heap.size]? = some (itO x)
  os : w6.os = w.os
  tape : w6.tape = w.tape
  output : w6.output = w.output
  size : w.heap.size < w6.heap.size
  keep : ∀ k, k < w.heap.size → k ≠ t → (Value.slice a n cap).ownBlock ≠ some k → w6.heap[k]? = w.heap[k]?
  loc : ∀ k, (Value.slice a6 (n + 1) c6).ownBlock = some k → (Value.slice a n cap).ownBlock = some k ∨ w.heap.size ≤ k
theorem mid_of {w w5 : World} {t n cap mb : Nat} {a : Option Addr} {items : List It} (h : TabR w t a n cap mb items) (x : It)
    (hg : ((w.alloc (itO x)).alloc (itO x)).drew.grownBy w5 (Value.slice a n cap).ownBlock) (a5 : Option Addr) (c5 : Nat) (ho : w5.ownsRow 0 49 4 (.slice a5 (n + 1) c5) (n + 1) (encI (items ++ [x])))
    (hl : (Value.slice a5 (n + 1) c5).ownBlock = (Value.slice a n cap).ownBlock ∨ (Value.slice a5 (n + 1) c5).ownBlock = some ((w.alloc (itO x)).alloc (itO x)).drew.heap.size) :
    w5.heap[t]? = some (.cells #[tbV t, .slice a n cap, .map (some mb)] 55 (0, 0)) ∧ Mid w (w5.setCell ⟨t, 1, none⟩ (.slice a5 (n + 1) c5)) t a5 n c5 mb items x a cap := by
  have hb1 := below_new w (itO x)
  have hb2 := below_step hb1 (below_new (w.alloc (itO x)) (itO x))
  have htl := (Array.getElem?_eq_some_iff.1 h.blk).1
  have hne : (Value.slice a n cap).ownBlock ≠ some t := own_neI h.row h.blk (fun cs e => by injection e with _ e _; exact absurd e (by decide))
  obtain ⟨es, cl, hmap⟩ := h.num.isMap
  have hnm : (Value.slice a n cap).ownBlock ≠ some mb := own_neI h.row hmap (fun cs e => by cases e)
  have hmt : mb ≠ t := fun e => by rw [e, h.blk] at hmap; cases hmap
  have hz2 : ((w.alloc (itO x)).alloc (itO x)).drew.heap.size = w.heap.size + 2 := by simp
  have hlb : ∀ k, (Value.slice a n cap).ownBlock = some k → k < w.heap.size := own_lt h.row
  have st : ∀ k, k < w.heap.size → (Value.slice a n cap).ownBlock ≠ some k → w5.heap[k]? = w.heap[k]? := fun k hk hn => (hg.block k (by omega) (fun e => hn e.symm)).trans (hb2.block k hk)
  have h5 : w5.heap[t]? = some (.cells #[tbV t, .slice a n cap, .map (some mb)] 55 (0, 0)) := (st t htl hne).trans h.blk
  have hs5 := hg.size
  refine ⟨h5, ⟨?_, ?_, ?_, ?_, hg.os, hg.tape, hg.output, ?_, fun k hk hkt hkn => ?_, fun k hk => ?_⟩⟩
  · rw [heap_setCell_same w5 t 1 _ _ _ h5]; rfl
  · refine owns_off ho fun k hk => Below.heap_setCell _ _ _ _ ?_
    dsimp only
    rintro rfl
    rcases hl with e | e
    · rw [e] at hk; exact hne hk
    · rw [e] at hk; injection hk with hk; omega
  · exact h.num.far ((Below.heap_setCell _ _ _ _ (by dsimp only; exact hmt)).trans (st mb h.num.lt hnm))
  · refine (Below.heap_setCell _ _ _ _ (by dsimp only; omega)).trans ((hg.block _ (by omega) (fun e => ?_)).trans ?_)
    · have := hlb _ e.symm; omega
    · exact ((below_new (w.alloc (itO x)) (itO x)).block _ (by simp)).trans (MapKept.heap_alloc w (itO x)).1
  · simp; omega
  · exact (Below.heap_setCell _ _ _ _ (by dsimp only; exact hkt)).trans (st k hk hkn)
  · rcases hl with e | e
    · rw [e] at hk; exact Or.inl hk
    · rw [e] at hk; injection hk with hk; right; omega
theorem add_fin {w w6 w7 : World} {F : Nat → Prop} {t cap mb : Nat} {a : Option Addr} {items : List It} (h : TabI w F t items) (hF : ∀ k, F k ↔ (k = t ∨ k = mb ∨ (Value.slice a items.length cap).ownBlock = some k)) {x : It} (hx : ItOk x) (hn : x ∉ items) (hl : items.length < 4096)
    {a6 : Option Addr} {c6 : Nat} (m : Mid w w6 t a6 items.length c6 mb items x a cap) (hn7 : NumOf w7 mb (items.length + 1) (fun y => if y = x then some items.length else posI items y)) (hg : w6.drew.grownBy w7 (some mb)) (hmw : mb < w.heap.size) :
    ∃ F', TabI w7 F' t (items ++ [x]) ∧ Fr w w7 F F' := by
  have hsz := m.size
  have hs7 := hg.size
  have hs7' : w6.heap.size ≤ w7.heap.size := hs7
  obtain ⟨es, cl, hmap⟩ := m.num.isMap
  have hmt : t ≠ mb := fun e => by rw [← e, m.blk] at hmap; cases hmap
  have hnm : (Value.slice a6 (items.length + 1) c6).ownBlock ≠ some mb := own_neI m.row hmap (fun cs e => by cases e)
  have htl : t < w6.heap.size := (Array.getElem?_eq_some_iff.1 m.blk).1
  have st : ∀ k, k < w6.heap.size → k ≠ mb → w7.heap[k]? = w6.heap[k]? := fun k hk hne => hg.block k hk (fun e => hne (by injection e))
  refine ⟨fun k => k = t ∨ k = mb ∨ (Value.slice a6 (items.length + 1) c6).ownBlock = some k, ⟨?_, ?_, ?_, .slice a6 (items.length + 1) c6, mb, (st t htl hmt).trans m.blk, ?_, ?_, fun k => Iff.rfl⟩, ?_⟩
  · exact List.nodup_append.2 ⟨h.nd, by simp, fun a ha b hb => by simp at hb; subst hb; exact fun e => hn (e ▸ ha)⟩
  · simp; omega
  · intro y hy
    rcases List.mem_append.1 hy with hy | hy
    · exact h.ok y hy
    · simp at hy; subst hy; exact hx
  · rw [List.length_append]
    exact owns_off m.row fun k hk => st k (own_lt m.row k hk) (fun e => hnm (e ▸ hk))
  · rw [List.length_append]
    exact hn7.alike fun y _ => posI_more hn y
  · refine ⟨hg.os.trans m.os, hg.tape.trans m.tape, hg.output.trans m.output, by omega, fun k hk hf => ?_, fun k hk => ?_⟩
    · have hf' := fun e => hf ((hF k).2 e)
      exact (st k (by omega) (fun e => hf' (Or.inr (Or.inl e)))).trans (m.keep k hk (fun e => hf' (Or.inl e)) (fun e => hf' (Or.inr (Or.inr e))))
    · rcases hk with rfl | rfl | hk
      · exact Or.inl ((hF k).2 (Or.inl rfl))
      · exact Or.inl ((hF k).2 (Or.inr (Or.inl rfl)))
      · rcases m.loc k hk with e | e
        · exact Or.inl ((hF k).2 (Or.inr (Or.inr e)))
        · exact Or.inr e
set_option maxRecDepth 100000 in
set_option maxHeartbeats 4000000 in
theorem Try.tadd_any {w : World} {F : Nat → Prop} {t : Nat} {items : List It} (h : TabI w F t items) (x : It) (hx : ItOk x) (hn : x ∉ items) (hl : items.length < 4096) :
    Calls Try.prog 30 #[.pointer (some ⟨t, 0, none⟩), itV x] w fun e w' => e = .returned (.int .i64 (items.length : Int)) ∧ ∃ F', TabI w' F' t (items ++ [x]) ∧ Fr w w' F F' := by
  obtain ⟨a, cap, mb, hr, hF⟩ := h.read
  have HR : Hid _ := hr
  have HF : Hid _ := hF
  have HI : Hid _ := h
  have HX : Hid _ := hx
  have HN : Hid _ := hn
  have hb1 := below_new w (itO x)
  have hr1 := hr.up hb1
  have c1 := hr1.c1
  have c1b := (hr1.up (below_new (w.alloc (itO x)) (itO x))).c1
  have hO : ((w.alloc (itO x)).alloc (itO x)).drew.ownsRow 0 49 4 (.slice a items.length cap) items.length (encI items) := World.ownsRow.alloc (World.ownsRow.alloc hr.row _) _
  have hB : ((w.alloc (itO x)).alloc (itO x)).drew.heap[w.heap.size + 1]? = some (itO x) := by
    have := (MapKept.heap_alloc (w.alloc (itO x)) (itO x)).1
    rw [show (w.alloc (itO x)).heap.size = w.heap.size + 1 by simp] at this
    exact this
  have hn4 : items.length ≤ 4096 := by omega
  have hmid := fun w5 hg a5 c5 ho hl => mid_of (w5 := w5) hr x hg a5 c5 ho hl
  have HM : Hid _ := hmid
  clear h hr hr1 hF hx hn hb1 hmid
  obtain ⟨op, p, xa, xb⟩ := x
  unfold itO at hO hB HM c1 c1b
  dsimp only at hO hB HM c1 c1b
  unfold itV
  dsimp only
  generalize hL : items.length = L at *
  have HL : Hid (items.length = L) := hL
  clear hL
  go_enter Try.func30, Try.ntmps30
  go_upto_region 15 with fail
  go_region_law ((refine Try.stepg_it rfl _ _ rfl (.slice a L cap) L items ⟨op, p, xa, xb⟩ (w.heap.size + 1) rfl rfl hO hB hn4 ?_; intro v5 w5 hown5 hgr5 hloc5; obtain ⟨a5, k5, rfl⟩ := own_slI hown5; have m5 := HM.out w5 hgr5 a5 k5 hown5 hloc5; have c5 : w5.cell? ⟨t, 1, none⟩ = some (.slice a L cap) := cell_row m5.1 1; have z5 : w5.frozen? ⟨t, 1, none⟩ = false := frozen_of_row w5 _ 1 _ _ m5.1))
  all_goals
    have HM6 : Hid _ := m5.2
    clear hO hB c1 c1b c5 z5 m5 hown5 hgr5 hloc5
    generalize w5.setCell ⟨t, 1, none⟩ (.slice a5 (L + 1) k5) = w6 at *
    have t2 : w6.cell? ⟨t, 2, none⟩ = some (.map (some mb)) := cell_row HM6.out.blk 2
    have b0 : w6.cell? ⟨w.heap.size, 0, none⟩ = some (.int .u8 (op : Int)) := cell_row HM6.out.box 0
    have b1 : w6.cell? ⟨w.heap.size, 1, none⟩ = some (.int .u8 (p : Int)) := cell_row HM6.out.box 1
    have b2 : w6.cell? ⟨w.heap.size, 2, none⟩ = some (.int .i64 xa) := cell_row HM6.out.box 2
    have b3 : w6.cell? ⟨w.heap.size, 3, none⟩ = some (.int .i64 xb) := cell_row HM6.out.box 3
    obtain ⟨w7, hrun, hn7, hg7⟩ := (show NumOf w6.drew mb L (posI items) from HM6.out.num).put hn4 (x := ⟨op, p, xa, xb⟩) HX.out (posI_none.2 HN.out) L hn4
    unfold itV at hrun
    dsimp only at hrun
    have HN7 : Hid _ := hn7
    have HG7 : Hid _ := hg7
    clear hn7 hg7
    go_upto_region 15 with fail
    go_region
    all_goals
      clear hrun t2 b0 b1 b2 b3
      go_wp2
      go_ret
      have e := HL.out
      subst e
      exact ⟨rfl, add_fin HI.out HF.out HX.out HN.out hl HM6.out HN7.out HG7.out HR.out.num.lt⟩
end Go.Proofs.Ytbfhbpibpmgblaa
