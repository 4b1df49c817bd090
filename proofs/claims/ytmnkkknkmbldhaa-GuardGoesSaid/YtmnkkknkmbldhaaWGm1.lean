/- A store's map: from nodes to numbers. -/
import Derived.Test.YtmnkkknkmbldhaaWGn1
import Derived.Maps.OwnSet
import Derived.DeepKeys4
namespace Go.Proofs.Ytmnkkknkmbldhaa
open Go.RowKit Go.Maps

def ndV (x : Gd) : Value := .agg #[.int .i64 x.1, .int .i64 x.2.1, .int .i64 x.2.2]
def klG (x : Gd) : Lit := .string (keyBytes [.int .i64 x.1, .int .i64 x.2.1, .int .i64 x.2.2])
theorem Try.laidOutG : laidOutB Try.prog = true := by kernel_rfl
theorem Try.keyTypeNode : Try.prog.keyType 44 = true := by kernel_rfl
theorem Try.lawNode : Keyed Try.prog 44 := Keyed.of_law (deep_law_laid Try.laidOutG (m := 3) (by omega) (of_decide_eq_true (by kernel_rfl)) (by kernel_rfl) (by kernel_rfl))
theorem Try.sizeTypesG : ∃ n, Try.prog.types.size + 1 = n + 2 := ⟨Try.prog.types.size - 1, by have : 0 < Try.prog.types.size := of_decide_eq_true (by kernel_rfl); omega⟩
theorem Try.cellsNode : Try.prog.cellsOf 44 = 3 := by kernel_rfl
theorem Try.cellsIntG : Try.prog.cellsOf 3 = 1 := by kernel_rfl
theorem Try.ndKey (x : Gd) (h : GdOk x) : keyOf Try.prog 44 (ndV x) = some (klG x) := by
  obtain ⟨⟨h1, h2⟩, ⟨h3, h4⟩, ⟨h5, h6⟩⟩ := h
  obtain ⟨n, hn⟩ := Try.sizeTypesG
  have w1 : (Lit.int .i64 x.1).wf = true := WalkArith.wf_i64 (by omega)
  have w2 : (Lit.int .i64 x.2.1).wf = true := WalkArith.wf_i64 (by omega)
  have w3 : (Lit.int .i64 x.2.2).wf = true := WalkArith.wf_i64 (by omega)
  unfold keyOf ndV klG
  rw [Try.underlying44, hn]
  simp [Try.keyTypeNode, Value.formed, Try.underlying44, Try.cellsNode, Value.cells, Program.keyLits, Try.cellsIntG, Try.underlying3, w1, w2, w3]
theorem ndV_inj {x y : Gd} (h : ndV x = ndV y) : x = y := by
  unfold ndV at h
  obtain ⟨a, b, c⟩ := x
  obtain ⟨a', b', c'⟩ := y
  simp at h
  obtain ⟨h1, h2, h3⟩ := h
  rw [h1, h2, h3]
theorem Try.klG_inj {x y : Gd} (hx : GdOk x) (hy : GdOk y) (h : klG x = klG y) : x = y :=
  ndV_inj (Try.lawNode.inj (Try.ndKey x hx) (by rw [h]; exact Try.ndKey y hy))
theorem klG_key (x : Gd) : WideAt.IsKeyLit (klG x) := trivial
/-- A block that is a map of n entries, from nodes to numbers. -/
def NumG (w : World) (b n : Nat) (f : Gd → Option Nat) : Prop :=
  ∃ D : DataW Unit, w.ownsMap Try.prog 44 (plainElem Try.prog 3) b n D ∧ Tidy D ∧ Maps.size D = n ∧ ∀ x, GdOk x → has D (klG x) = (f x).isSome ∧ ∀ j, f x = some j → D.atKey (klG x) (.lit (.int .i64 0)) = .lit (.int .i64 (j : Int))
theorem NumG.lt {w : World} {b n : Nat} {f : Gd → Option Nat} (h : NumG w b n f) : b < w.heap.size := by
  obtain ⟨D, h, _⟩ := h; exact h.lt
theorem NumG.far {w w' : World} {b n : Nat} {f : Gd → Option Nat} (h : NumG w b n f) (hb : w'.heap[b]? = w.heap[b]?) : NumG w' b n f := by
  obtain ⟨D, ⟨es, clock, h1, h2⟩, r⟩ := h
  exact ⟨D, ⟨es, clock, hb.trans h1, h2⟩, r⟩
theorem NumG.isMap {w : World} {b n : Nat} {f : Gd → Option Nat} (h : NumG w b n f) : ∃ es c, w.heap[b]? = some (.map es c) := by
  obtain ⟨D, ⟨es, clock, h1, h2⟩, r⟩ := h
  exact ⟨es, clock, h1⟩
theorem NumG.alike {w : World} {b n : Nat} {f g : Gd → Option Nat} (h : NumG w b n f) (hg : ∀ x, GdOk x → f x = g x) : NumG w b n g := by
  obtain ⟨D, h1, h2, h3, h4⟩ := h
  exact ⟨D, h1, h2, h3, fun x hx => by rw [← hg x hx]; exact h4 x hx⟩
theorem numG_made (w : World) : NumG (w.alloc (.map #[] 0)) w.heap.size 0 (fun _ => none) :=
  ⟨.map [], World.ownsMap_made _ _ _ _, tidy_empty, rfl, fun x _ => ⟨rfl, fun j hj => by cases hj⟩⟩
theorem Try.zeroIntG (w : World) : (zeroValue 3).run Try.prog w = .ok (.int .i64 0) w := by kernel_rfl
set_option maxRecDepth 100000 in
/-- What is found at a node. -/
theorem NumG.look {w : World} {b n : Nat} {f : Gd → Option Nat} (h : NumG w b n f) {x : Gd} (hx : GdOk x) :
    (Instr.lookup 62 (.map (some b)) (ndV x) true).run Try.prog w = .ok (.tuple #[.int .i64 (((f x).getD 0 : Nat) : Int), .bool (f x).isSome]) w := by
  obtain ⟨D, h1, h2, h3, h4⟩ := h
  obtain ⟨hh, ha⟩ := h4 x hx
  obtain ⟨v, ps, hrun, hv⟩ := h1.look_ok Try.lawNode Try.underlying62 (Try.zeroIntG w) (plainElem_int Try.underlying3 (by decide)) (Try.ndKey x hx)
  obtain ⟨c, rfl, hc, hwc⟩ := plainElem_int_inv Try.underlying3 hv
  have hc' : D.atKey (klG x) (.lit (.int .i64 0)) = .lit (.int .i64 c) := congrArg Prod.fst hc
  rw [hrun, hh]
  cases hf : f x with
  | none =>
    rw [hf] at hh
    rw [atKey_of_not_has hh] at hc'
    injection hc' with hc'
    injection hc' with _ hc'
    subst hc'
    rfl
  | some j =>
    rw [ha j hf] at hc'
    injection hc' with hc'
    injection hc' with _ hc'
    subst hc'
    rfl
set_option maxRecDepth 100000 in
/-- A node that was not there gets a number. -/
theorem NumG.put {w : World} {b n : Nat} {f : Gd → Option Nat} (h : NumG w b n f) (hn : n ≤ 100000000) {x : Gd} (hx : GdOk x) (hf : f x = none) (j : Nat) (hj : j ≤ 100000000) :
    ∃ w', (Instr.mapUpdate 62 (.map (some b)) (ndV x) (.int .i64 (j : Int))).run Try.prog w = .ok () w' ∧ NumG w' b (n + 1) (fun y => if y = x then some j else f y) ∧ w.grownBy w' (some b) := by
  obtain ⟨D, h1, h2, h3, h4⟩ := h
  obtain ⟨hh, _⟩ := h4 x hx
  rw [hf] at hh
  obtain ⟨w', hrun, hown, hg⟩ := h1.update Try.lawNode Try.underlying62 (by unfold maxLen; omega) (Try.ndKey x hx) (plainElem_int (a := (j : Int)) Try.underlying3 (WalkArith.wf_i64 (by omega)))
  refine ⟨w', hrun, ⟨_, hown, h2.put (klG_key x) _, ?_, fun y hy => ?_⟩, hg⟩
  · rw [size_put h2, hh, h3]; rfl
  · dsimp only
    by_cases e : y = x
    · subst e
      rw [if_pos rfl]
      refine ⟨has_put_same h2.isMap (klG_key y) _, fun i hi => ?_⟩
      injection hi with hi
      subst hi
      exact atKey_put_same h2.isMap (klG_key y) _ _
    · have ne : klG y ≠ klG x := fun he => e (Try.klG_inj hy hx he)
      rw [if_neg e, has_put_other ne]
      refine ⟨(h4 y hy).1, fun i hi => ?_⟩
      rw [atKey_put_other ne]
      exact (h4 y hy).2 i hi
set_option maxRecDepth 100000 in
/-- A node that was there is taken out. -/
theorem NumG.drop {w : World} {b n : Nat} {f : Gd → Option Nat} (h : NumG w b n f) {x : Gd} (hx : GdOk x) (hf : (f x).isSome = true) (ty : TypeId) :
    ∃ w', (Builtin.delete_ #[62, 44] ty #[.map (some b), ndV x]).run Try.prog w = .ok (.tuple #[]) w' ∧ NumG w' b (n - 1) (fun y => if y = x then none else f y) ∧ w.grownBy w' (some b) := by
  obtain ⟨D, h1, h2, h3, h4⟩ := h
  obtain ⟨hh, _⟩ := h4 x hx
  rw [hf] at hh
  obtain ⟨w', hrun, hown, ht⟩ := h1.drop Try.lawNode Try.underlying62 (Try.ndKey x hx) ty
  have hsz : Maps.size (D.del (klG x)) = n - 1 := by
    have := size_del (k := klG x) h2
    rw [hh] at this
    simp at this
    omega
  have hown' : w'.ownsMap Try.prog 44 (plainElem Try.prog 3) b (n - 1) (D.del (klG x)) := by
    obtain ⟨es, clock, g1, g2, g3, g4⟩ := hown
    refine ⟨es, clock, g1, g2, ?_, g4⟩
    rw [← hsz, g4]
    simp [Maps.size, length_sorted]
  refine ⟨w', hrun, ⟨_, hown', h2.del _, hsz, fun y hy => ?_⟩, ht.grown⟩
  dsimp only
  by_cases e : y = x
  · subst e
    rw [if_pos rfl]
    exact ⟨has_del_same, fun i hi => by cases hi⟩
  · have ne : klG y ≠ klG x := fun he => e (Try.klG_inj hy hx he)
    rw [if_neg e, has_del_other ne]
    refine ⟨(h4 y hy).1, fun i hi => ?_⟩
    rw [atKey_del_other ne]
    exact (h4 y hy).2 i hi
/-- Where a node stands. -/
def posG (N : List Gd) (x : Gd) : Option Nat := if x ∈ N then some (N.idxOf x) else none
theorem posG_in {N : List Gd} {x : Gd} (h : x ∈ N) : posG N x = some (N.idxOf x) := if_pos h
theorem posG_out {N : List Gd} {x : Gd} (h : x ∉ N) : posG N x = none := if_neg h
theorem posG_more {N : List Gd} {x : Gd} (hx : x ∉ N) (y : Gd) : (if y = x then some N.length else posG N y) = posG (N ++ [x]) y := by
  by_cases e : y = x
  · subst e
    rw [if_pos rfl, posG_in (by simp), idx_new hx]
  · rw [if_neg e]
    by_cases hm : y ∈ N
    · rw [posG_in hm, posG_in (by simp [hm]), idx_pre (List.prefix_append _ _) hm]
    · rw [posG_out hm, posG_out (by simp [hm, e])]
/-- What is left of the numbers when i nodes from n on are taken out. -/
def outG (N : List Gd) (n i : Nat) (y : Gd) : Option Nat := (posG N y).bind fun j => if n ≤ j ∧ j < n + i then none else some j
theorem outG_zero (N : List Gd) (n : Nat) (y : Gd) : posG N y = outG N n 0 y := by
  unfold outG
  cases posG N y with
  | none => rfl
  | some j => simp only [Option.bind_some]; rw [if_neg (by omega)]
theorem idx_at {N : List Gd} (hn : N.Nodup) {i : Nat} {x : Gd} (h : N[i]? = some x) : x ∈ N ∧ N.idxOf x = i := by
  obtain ⟨hi, e⟩ := List.getElem?_eq_some_iff.1 h
  have hm : x ∈ N := e ▸ List.getElem_mem hi
  refine ⟨hm, ?_⟩
  have hl := List.idxOf_lt_length_of_mem hm
  have h1 : N[N.idxOf x] = N[i] := by rw [e]; simp
  exact (List.getElem_inj hn).1 h1
theorem outG_next {N : List Gd} (hn : N.Nodup) {n i : Nat} {x : Gd} (h : N[n + i]? = some x) (y : Gd) : (if y = x then none else outG N n i y) = outG N n (i + 1) y := by
  obtain ⟨hm, hx⟩ := idx_at hn h
  unfold outG
  by_cases e : y = x
  · subst e
    rw [if_pos rfl, posG_in hm, hx]
    simp only [Option.bind_some]
    rw [if_pos (by omega)]
  · rw [if_neg e]
    by_cases hy : y ∈ N
    · rw [posG_in hy]
      have hne : N.idxOf y ≠ n + i := fun he => e (by
        have := idx_get hy
        rw [he, h] at this
        injection this with this
        exact this.symm)
      simp only [Option.bind_some]
      by_cases c : n ≤ N.idxOf y ∧ N.idxOf y < n + i
      · rw [if_pos c, if_pos (by omega)]
      · rw [if_neg c, if_neg (by omega)]
    · rw [posG_out hy]; rfl
theorem outG_there {N : List Gd} (hn : N.Nodup) {n i : Nat} {x : Gd} (h : N[n + i]? = some x) : (outG N n i x).isSome = true := by
  obtain ⟨hm, hx⟩ := idx_at hn h
  unfold outG
  rw [posG_in hm, hx]
  simp only [Option.bind_some]
  rw [if_neg (by omega)]
  rfl
theorem outG_all {N : List Gd} (hn : N.Nodup) {n : Nat} (h : n ≤ N.length) (y : Gd) : outG N n (N.length - n) y = posG (N.take n) y := by
  unfold outG
  by_cases hy : y ∈ N
  · rw [posG_in hy]
    have hl := List.idxOf_lt_length_of_mem hy
    simp only [Option.bind_some]
    by_cases c : N.idxOf y < n
    · rw [if_neg (by omega)]
      have hg : (N.take n)[N.idxOf y]? = some y := by rw [List.getElem?_take, if_pos c]; exact idx_get hy
      obtain ⟨h1, h2⟩ := idx_at (hn.sublist (List.take_sublist n N)) hg
      rw [posG_in h1, h2]
    · rw [if_pos (by omega)]
      refine (posG_out fun hm => ?_).symm
      obtain ⟨i, hi⟩ := List.mem_iff_getElem?.1 hm
      rw [List.getElem?_take] at hi
      by_cases ci : i < n
      · rw [if_pos ci] at hi
        have := (idx_at hn hi).2
        omega
      · rw [if_neg ci] at hi; cases hi
  · rw [posG_out hy, posG_out (fun hm => hy (List.mem_of_mem_take hm))]; rfl
end Go.Proofs.Ytmnkkknkmbldhaa
