/- Plain: when a trace satisfies a formula, where a path's ways end; by a stack over the tokens. -/
import Derived.Test.YtmnkkknkmbldhaaTermK
namespace Go.Proofs.Ytmnkkknkmbldhaa

/-- The places where a formula is satisfied, and where a path's ways end. -/
abbrev Sv := (Nat → Prop) × (Nat → Nat → Prop)
/-- Some ways behind one another. -/
def stepsP (w : Nat → Nat → Prop) : Nat → Nat → Nat → Prop
  | 0, i, k => i = k
  | m + 1, i, k => ∃ j, w i j ∧ stepsP w m j k
def leafV (t : List Nat) (op p i : Nat) : Prop :=
  if op = 0 then True else if op = 1 then False else if op = 2 then i < t.length ∧ (t.getD i 0).testBit p = true
  else if op = 3 then i + 1 = t.length else if op = 4 then i < t.length else i = t.length
def unV (n op : Nat) (a : Nat → Prop) (i : Nat) : Prop :=
  if op = 6 then ¬ a i else if op = 7 then i + 1 < n ∧ a (i + 1) else if op = 8 then (i + 1 < n → a (i + 1))
  else if op = 9 then ∃ j, i ≤ j ∧ j < n ∧ a j else ∀ j, i ≤ j → j < n → a j
def unY (n op : Nat) (v : Sv) (i k : Nat) : Prop :=
  if op = 19 then k = i + 1 ∧ i < n ∧ v.1 i else if op = 20 then k = i ∧ v.1 i else ∃ m, stepsP v.2 m i k
def binV (n op : Nat) (x y : Sv) (i : Nat) : Prop :=
  if op = 11 then x.1 i ∧ y.1 i else if op = 12 then x.1 i ∨ y.1 i else if op = 13 then (x.1 i → y.1 i) else if op = 14 then (x.1 i ↔ y.1 i)
  else if op = 15 then ∃ j, i ≤ j ∧ j < n ∧ y.1 j ∧ ∀ k, i ≤ k → k < j → x.1 k
  else if op = 16 then ∀ j, i ≤ j → j < n → y.1 j ∨ ∃ k, i ≤ k ∧ k < j ∧ x.1 k
  else if op = 17 then ∃ k, x.2 i k ∧ y.1 k else ∀ k, x.2 i k → y.1 k
def binY (op : Nat) (x y : Sv) (i k : Nat) : Prop := if op = 21 then x.2 i k ∨ y.2 i k else ∃ j, x.2 i j ∧ y.2 j k
/-- What a token makes of what it takes. -/
def semT (t : List Nat) (op p : Nat) (a : List Sv) : Sv :=
  match a with
  | [] => (leafV t op p, fun _ _ => False)
  | [x] => (unV t.length op x.1, unY t.length op x)
  | x :: y :: _ => (binV t.length op x y, binY op x y)
def takC (t : Tk) : Nat := (takesN t).getD 0
def semStep (t : List Nat) (st : List Sv) (k : Tk) : List Sv := st.take (st.length - takC k) ++ [semT t k.1 k.2 (st.drop (st.length - takC k))]
def semS (t : List Nat) (ts : List Tk) (st : List Sv) : List Sv := ts.foldl (semStep t) st
theorem semS_app (t : List Nat) (a b : List Tk) (st : List Sv) : semS t (a ++ b) st = semS t b (semS t a st) := by unfold semS; rw [List.foldl_append]
/-- Tokens that put one part on any stack. -/
def Cl (t : List Nat) (ts : List Tk) (v : Sv) : Prop := ∀ st, semS t ts st = st ++ [v]
theorem Cl.same {t : List Nat} {ts : List Tk} {v u : Sv} (h : Cl t ts v) (k : Cl t ts u) : v = u := by
  have := h []
  rw [k []] at this
  simpa using this.symm
theorem Cl.leaf (t : List Nat) {op p : Nat} (h : takesN (op, p) = some 0) : Cl t [(op, p)] (semT t op p []) := fun st => by
  have e : takC (op, p) = 0 := by unfold takC; rw [h]; rfl
  simp [semS, semStep, e]
theorem Cl.un {t : List Nat} {ts : List Tk} {v : Sv} (k : Cl t ts v) {op p : Nat} (h : takesN (op, p) = some 1) : Cl t (ts ++ [(op, p)]) (semT t op p [v]) := fun st => by
  have e : takC (op, p) = 1 := by unfold takC; rw [h]; rfl
  rw [semS_app, k st]
  simp [semS, semStep, e]
theorem Cl.bin {t : List Nat} {xs ys : List Tk} {v u : Sv} (k : Cl t xs v) (l : Cl t ys u) {op p : Nat} (h : takesN (op, p) = some 2) : Cl t (xs ++ ys ++ [(op, p)]) (semT t op p [v, u]) := fun st => by
  have e : takC (op, p) = 2 := by unfold takC; rw [h]; rfl
  rw [semS_app, semS_app, k st, l]
  have e1 : (st ++ [v] ++ [u]).length - 2 = st.length := by simp
  have e2 : (st ++ [v] ++ [u]).take st.length = st := by simp
  have e3 : (st ++ [v] ++ [u]).drop st.length = [v, u] := by simp
  simp only [semS, List.foldl_cons, List.foldl_nil, semStep, e, e1, e2, e3]
/-- What a tree means. -/
def semTr (t : List Nat) : Tr → Sv
  | .leaf k => semT t k.1 k.2 []
  | .un k c => semT t k.1 k.2 [semTr t c]
  | .bin k c d => semT t k.1 k.2 [semTr t c, semTr t d]
theorem cl_tree (t : List Nat) : ∀ T : Tr, T.WF → Cl t T.flat (semTr t T)
  | .leaf _, h => Cl.leaf t h.1
  | .un _ c, h => (cl_tree t c h.2.2).un h.1
  | .bin _ c d, h => (cl_tree t c h.2.2.1).bin (cl_tree t d h.2.2.2) h.1
theorem cl_look (t : List Nat) {ts : List Tk} {want : Nat} (h : lookE ts want = 0) : ∃ T : Tr, T.WF ∧ ts = T.flat ∧ isK (kindOf (T.part 0)) want = true ∧ Cl t ts (semTr t T) := by
  obtain ⟨_, T, hT, rfl, hk, _⟩ := lookE_zero.1 h
  exact ⟨T, hT, rfl, hk, cl_tree t T hT⟩
/-- Ways go on, up to the end. -/
theorem steps_in {w : Nat → Nat → Prop} {n : Nat} (hw : ∀ i k, i ≤ n → w i k → i ≤ k ∧ k ≤ n) : ∀ (m i k : Nat), i ≤ n → stepsP w m i k → i ≤ k ∧ k ≤ n
  | 0, i, k, hi, h => by have : i = k := h; omega
  | m + 1, i, k, hi, h => by
    obtain ⟨j, h1, h2⟩ := h
    have := hw i j hi h1
    have := steps_in hw m j k this.2 h2
    omega
theorem ways_in (t : List Nat) : ∀ T : Tr, T.WF → ∀ i k, i ≤ t.length → (semTr t T).2 i k → i ≤ k ∧ k ≤ t.length
  | .leaf _, _, i, k, _, h => by simp [semTr, semT] at h
  | .un q c, hT, i, k, hi, h => by
    simp only [semTr, semT, unY] at h
    split at h
    · omega
    · split at h
      · omega
      · obtain ⟨m, hm⟩ := h
        exact steps_in (ways_in t c hT.2.2) m i k hi hm
  | .bin q c d, hT, i, k, hi, h => by
    simp only [semTr, semT, binY] at h
    split at h
    · rcases h with h | h
      · exact ways_in t c hT.2.2.1 i k hi h
      · exact ways_in t d hT.2.2.2 i k hi h
    · obtain ⟨j, h1, h2⟩ := h
      have := ways_in t c hT.2.2.1 i j hi h1
      have := ways_in t d hT.2.2.2 j k this.2 h2
      omega
theorem steps_succ {w : Nat → Nat → Prop} {i k : Nat} : (∃ m, stepsP w m i k) ↔ i = k ∨ ∃ j, w i j ∧ ∃ m, stepsP w m j k := by
  constructor
  · rintro ⟨m, h⟩
    cases m with
    | zero => exact Or.inl h
    | succ m => obtain ⟨j, h1, h2⟩ := h; exact Or.inr ⟨j, h1, m, h2⟩
  · rintro (rfl | ⟨j, h1, m, h2⟩)
    · exact ⟨0, rfl⟩
    · exact ⟨m + 1, j, h1, h2⟩
/-! ### what follows -/
section
variable (t : List Nat) (x y z : Sv) (i : Nat)
theorem dual_finally : (semT t 9 0 [x]).1 i ↔ (semT t 15 0 [semT t 0 0 [], x]).1 i := by
  simp [semT, unV, binV, leafV]
theorem dual_globally : (semT t 10 0 [x]).1 i ↔ (semT t 16 0 [semT t 1 0 [], x]).1 i := by
  simp [semT, unV, binV, leafV]
theorem dual_weak : (semT t 8 0 [x]).1 i ↔ (semT t 6 0 [semT t 7 0 [semT t 6 0 [x]]]).1 i := by
  simp [semT, unV]
theorem dual_release : (semT t 16 0 [x, y]).1 i ↔ (semT t 6 0 [semT t 15 0 [semT t 6 0 [x], semT t 6 0 [y]]]).1 i := by
  simp only [semT, unV, binV]
  simp only [show ¬ (16 = 11) by decide, if_false, show ¬ (16 = 12) by decide, show ¬ (16 = 13) by decide, show ¬ (16 = 14) by decide, show ¬ (16 = 15) by decide, if_true, show ¬ (15 = 11) by decide, show ¬ (15 = 12) by decide, show ¬ (15 = 13) by decide, show ¬ (15 = 14) by decide]
  constructor
  · rintro h ⟨j, h1, h2, h3, h4⟩
    rcases h j h1 h2 with h | ⟨k, k1, k2, k3⟩
    · exact h3 h
    · exact h4 k k1 k2 k3
  · intro h j h1 h2
    by_cases hy : y.1 j
    · exact Or.inl hy
    · refine Or.inr (Classical.byContradiction fun hc => h ⟨j, h1, h2, hy, fun k k1 k2 k3 => hc ⟨k, k1, k2, k3⟩⟩)
theorem dual_imp : (semT t 13 0 [x, y]).1 i ↔ (semT t 12 0 [semT t 6 0 [x], y]).1 i := by
  simp only [semT, unV, binV]
  simp
  exact ⟨fun h => by by_cases hx : x.1 i; exact Or.inr (h hx); exact Or.inl hx, fun h hx => by rcases h with h | h; exact absurd hx h; exact h⟩
theorem dual_iff : (semT t 14 0 [x, y]).1 i ↔ (semT t 11 0 [semT t 13 0 [x, y], semT t 13 0 [y, x]]).1 i := by
  simp only [semT, binV]
  simp
  exact ⟨fun h => ⟨h.1, h.2⟩, fun h => ⟨h.1, h.2⟩⟩
theorem dual_last : (semT t 3 0 []).1 i ↔ (semT t 11 0 [semT t 4 0 [], semT t 8 0 [semT t 1 0 []]]).1 i := by
  simp [semT, unV, binV, leafV]; omega
theorem dual_over (hi : i ≤ t.length) : (semT t 5 0 []).1 i ↔ (semT t 6 0 [semT t 4 0 []]).1 i := by
  simp [semT, unV, leafV]; omega
theorem dual_until : (semT t 15 0 [x, y]).1 i ↔ (semT t 11 0 [semT t 4 0 [], semT t 12 0 [y, semT t 11 0 [x, semT t 7 0 [semT t 15 0 [x, y]]]]]).1 i := by
  simp [semT, unV, binV, leafV]
  constructor
  · rintro ⟨j, h1, h2, h3, h4⟩
    refine ⟨by omega, ?_⟩
    by_cases hj : j = i
    · subst hj; exact Or.inl h3
    · exact Or.inr ⟨h4 i (Nat.le_refl _) (by omega), by omega, j, by omega, h2, h3, fun k k1 k2 => h4 k (by omega) k2⟩
  · rintro ⟨h1, h | ⟨h2, h3, j, h4, h5, h6, h7⟩⟩
    · exact ⟨i, Nat.le_refl _, h1, h, fun k k1 k2 => by omega⟩
    · refine ⟨j, by omega, h5, h6, fun k k1 k2 => ?_⟩
      by_cases hk : k = i
      · subst hk; exact h2
      · exact h7 k (by omega) k2
theorem dual_release2 : (semT t 16 0 [x, y]).1 i ↔ (semT t 13 0 [semT t 4 0 [], semT t 11 0 [y, semT t 12 0 [x, semT t 8 0 [semT t 16 0 [x, y]]]]]).1 i := by
  simp [semT, unV, binV, leafV]
  constructor
  · intro h h1
    refine ⟨?_, ?_⟩
    · rcases h i (Nat.le_refl _) h1 with h | ⟨k, k1, k2, _⟩
      · exact h
      · omega
    · by_cases hx : x.1 i
      · exact Or.inl hx
      · refine Or.inr fun h2 j j1 j2 => ?_
        rcases h j (by omega) j2 with h | ⟨k, k1, k2, k3⟩
        · exact Or.inl h
        · refine Or.inr ⟨k, ?_, k2, k3⟩
          rcases Nat.lt_or_ge i k with hk | hk
          · omega
          · exact absurd (by have : k = i := by omega
                             subst this; exact k3) hx
  · intro h j j1 j2
    obtain ⟨h1, h2⟩ := h (by omega)
    by_cases hj : j = i
    · subst hj; exact Or.inl h1
    · rcases h2 with h2 | h2
      · exact Or.inr ⟨i, Nat.le_refl _, by omega, h2⟩
      · rcases h2 (by omega) j (by omega) j2 with h | ⟨k, k1, k2, k3⟩
        · exact Or.inl h
        · exact Or.inr ⟨k, by omega, k2, k3⟩
theorem path_box : (semT t 18 0 [x, y]).1 i ↔ (semT t 6 0 [semT t 17 0 [x, semT t 6 0 [y]]]).1 i := by
  simp [semT, unV, binV]
theorem path_plus : (semT t 17 0 [semT t 21 0 [x, y], z]).1 i ↔ (semT t 12 0 [semT t 17 0 [x, z], semT t 17 0 [y, z]]).1 i := by
  simp [semT, binV, binY]
  constructor
  · rintro ⟨k, h | h, hz⟩
    · exact Or.inl ⟨k, h, hz⟩
    · exact Or.inr ⟨k, h, hz⟩
  · rintro (⟨k, h, hz⟩ | ⟨k, h, hz⟩)
    · exact ⟨k, Or.inl h, hz⟩
    · exact ⟨k, Or.inr h, hz⟩
theorem path_seq : (semT t 17 0 [semT t 22 0 [x, y], z]).1 i ↔ (semT t 17 0 [x, semT t 17 0 [y, z]]).1 i := by
  simp [semT, binV, binY]
  constructor
  · rintro ⟨k, ⟨j, h1, h2⟩, hz⟩; exact ⟨j, h1, k, h2, hz⟩
  · rintro ⟨j, h1, k, h2, hz⟩; exact ⟨k, ⟨j, h1, h2⟩, hz⟩
theorem path_star : (semT t 17 0 [semT t 23 0 [x], z]).1 i ↔ (semT t 12 0 [z, semT t 17 0 [x, semT t 17 0 [semT t 23 0 [x], z]]]).1 i := by
  simp [semT, binV, unY]
  constructor
  · rintro ⟨k, hm, hz⟩
    rcases steps_succ.1 hm with rfl | ⟨j, h1, h2⟩
    · exact Or.inl hz
    · exact Or.inr ⟨j, h1, k, h2, hz⟩
  · rintro (hz | ⟨j, h1, k, h2, hz⟩)
    · exact ⟨i, ⟨0, rfl⟩, hz⟩
    · exact ⟨k, steps_succ.2 (Or.inr ⟨j, h1, h2⟩), hz⟩
theorem path_test : (semT t 17 0 [semT t 20 0 [x], y]).1 i ↔ (semT t 11 0 [x, y]).1 i := by
  simp [semT, binV, unY]
  exact ⟨fun ⟨k, ⟨h1, h2⟩, h3⟩ => ⟨h2, by rw [← h1]; exact h3⟩, fun h => ⟨i, ⟨rfl, h.1⟩, h.2⟩⟩
theorem path_step : (semT t 17 0 [semT t 19 0 [x], z]).1 i ↔ (semT t 11 0 [x, semT t 17 0 [semT t 19 0 [semT t 0 0 []], z]]).1 i := by
  simp [semT, binV, unY, leafV]
  constructor
  · rintro ⟨k, ⟨h1, h2, h3⟩, h4⟩; exact ⟨h3, k, ⟨h1, h2⟩, h4⟩
  · rintro ⟨h3, k, ⟨h1, h2⟩, h4⟩; exact ⟨k, ⟨h1, h2, h3⟩, h4⟩
end
end Go.Proofs.Ytmnkkknkmbldhaa
