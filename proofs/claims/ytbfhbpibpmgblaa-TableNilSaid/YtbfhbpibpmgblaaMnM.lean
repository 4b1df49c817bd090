/- Plain: when a trace satisfies a formula, where a path's ways end; by a stack over the tokens. -/
import Derived.Test.YtbfhbpibpmgblaaTermM
import Derived.Laws.BitsAllLaws
namespace Go.Proofs.Ytbfhbpibpmgblaa

/-- The places where a formula is satisfied, and where a path's ways end. -/
abbrev Sv := (Nat → Prop) × (Nat → Nat → Prop)
/-- Some ways behind one another. -/
def stepsP (w : Nat → Nat → Prop) : Nat → Nat → Nat → Prop
  | 0, i, k => i = k
  | m + 1, i, k => ∃ j, w i j ∧ stepsP w m j k
def leafV (t : List Nat) (op p i : Nat) : Prop :=
  if op = 0 then True else if op = 1 then False else if op = 2 then i < t.length ∧ (t.getD i 0).testBit p = true
  else if op = 3 then i + 1 = t.length else if op = 4 then i < t.length else i = t.length
def unV (n op : Nat) (a : Nat → Prop) (i : Nat) : Prop :=
  if op = 6 then ¬ a i else if op = 7 then i + 1 < n ∧ a (i + 1) else if op = 8 then (i + 1 < n → a (i + 1))
  else if op = 9 then ∃ j, i ≤ j ∧ j < n ∧ a j else ∀ j, i ≤ j → j < n → a j
def unY (n op : Nat) (v : Sv) (i k : Nat) : Prop :=
  if op = 19 then k = i + 1 ∧ i < n ∧ v.1 i else if op = 20 then k = i ∧ v.1 i else ∃ m, stepsP v.2 m i k
def binV (n op : Nat) (x y : Sv) (i : Nat) : Prop :=
  if op = 11 then x.1 i ∧ y.1 i else if op = 12 then x.1 i ∨ y.1 i else if op = 13 then (x.1 i → y.1 i) else if op = 14 then (x.1 i ↔ y.1 i)
  else if op = 15 then ∃ j, i ≤ j ∧ j < n ∧ y.1 j ∧ ∀ k, i ≤ k → k < j → x.1 k
  else if op = 16 then ∀ j, i ≤ j → j < n → y.1 j ∨ ∃ k, i ≤ k ∧ k < j ∧ x.1 k
  else if op = 17 then ∃ k, x.2 i k ∧ y.1 k else ∀ k, x.2 i k → y.1 k
def binY (op : Nat) (x y : Sv) (i k : Nat) : Prop := if op = 21 then x.2 i k ∨ y.2 i k else ∃ j, x.2 i j ∧ y.2 j k
/-- What a token makes of what it takes. -/
def semT (t : List Nat) (op p : Nat) (a : List Sv) : Sv :=
  match a with
  | [] => (leafV t op p, fun _ _ => False)
  | [x] => (unV t.length op x.1, unY t.length op x)
  | x :: y :: _ => (binV t.length op x y, binY op x y)
def takC (t : Tk) : Nat := (takesN t).getD 0
def semStep (t : List Nat) (st : List Sv) (k : Tk) : List Sv := st.take (st.length - takC k) ++ [semT t k.1 k.2 (st.drop (st.length - takC k))]
def semS (t : List Nat) (ts : List Tk) (st : List Sv) : List Sv := ts.foldl (semStep t) st
theorem semS_app (t : List Nat) (a b : List Tk) (st : List Sv) : semS t (a ++ b) st = semS t b (semS t a st) := by unfold semS; rw [List.foldl_append]
/-- Tokens that put one part on any stack. -/
def Cl (t : List Nat) (ts : List Tk) (v : Sv) : Prop := ∀ st, semS t ts st = st ++ [v]
theorem Cl.same {t : List Nat} {ts : List Tk} {v u : Sv} (h : Cl t ts v) (k : Cl t ts u) : v = u := by
  have := h []
  rw [k []] at this
  simpa using this.symm
theorem Cl.leaf (t : List Nat) {op p : Nat} (h : takesN (op, p) = some 0) : Cl t [(op, p)] (semT t op p []) := fun st => by
  have e : takC (op, p) = 0 := by unfold takC; rw [h]; rfl
  simp [semS, semStep, e]
theorem Cl.un {t : List Nat} {ts : List Tk} {v : Sv} (k : Cl t ts v) {op p : Nat} (h : takesN (op, p) = some 1) : Cl t (ts ++ [(op, p)]) (semT t op p [v]) := fun st => by
  have e : takC (op, p) = 1 := by unfold takC; rw [h]; rfl
  rw [semS_app, k st]
  simp [semS, semStep, e]
theorem Cl.bin {t : List Nat} {xs ys : List Tk} {v u : Sv} (k : Cl t xs v) (l : Cl t ys u) {op p : Nat} (h : takesN (op, p) = some 2) : Cl t (xs ++ ys ++ [(op, p)]) (semT t op p [v, u]) := fun st => by
  have e : takC (op, p) = 2 := by unfold takC; rw [h]; rfl
  rw [semS_app, semS_app, k st, l]
  have e1 : (st ++ [v] ++ [u]).length - 2 = st.length := by simp
  have e2 : (st ++ [v] ++ [u]).take st.length = st := by simp
  have e3 : (st ++ [v] ++ [u]).drop st.length = [v, u] := by simp
  simp only [semS, List.foldl_cons, List.foldl_nil, semStep, e, e1, e2, e3]
/-- What a tree means. -/
def semTr (t : List Nat) : Tr → Sv
  | .leaf k => semT t k.1 k.2 []
  | .un k c => semT t k.1 k.2 [semTr t c]
  | .bin k c d => semT t k.1 k.2 [semTr t c, semTr t d]
theorem cl_tree (t : List Nat) : ∀ T : Tr, T.WF → Cl t T.flat (semTr t T)
  | .leaf _, h => Cl.leaf t h.1
  | .un _ c, h => (cl_tree t c h.2.2).un h.1
  | .bin _ c d, h => (cl_tree t c h.2.2.1).bin (cl_tree t d h.2.2.2) h.1
theorem cl_look (t : List Nat) {ts : List Tk} {want : Nat} (h : lookE ts want = 0) : ∃ T : Tr, T.WF ∧ ts = T.flat ∧ isK (kindOf (T.part 0)) want = true ∧ Cl t ts (semTr t T) := by
  obtain ⟨_, T, hT, rfl, hk, _⟩ := lookE_zero.1 h
  exact ⟨T, hT, rfl, hk, cl_tree t T hT⟩
/-- Ways go on, up to the end. -/
theorem steps_in {w : Nat → Nat → Prop} {n : Nat} (hw : ∀ i k, i ≤ n → w i k → i ≤ k ∧ k ≤ n) : ∀ (m i k : Nat), i ≤ n → stepsP w m i k → i ≤ k ∧ k ≤ n
  | 0, i, k, hi, h => by have : i = k := h; omega
  | m + 1, i, k, hi, h => by
    obtain ⟨j, h1, h2⟩ := h
    have := hw i j hi h1
    have := steps_in hw m j k this.2 h2
    omega
theorem ways_in (t : List Nat) : ∀ T : Tr, T.WF → ∀ i k, i ≤ t.length → (semTr t T).2 i k → i ≤ k ∧ k ≤ t.length
  | .leaf _, _, i, k, _, h => by simp [semTr, semT] at h
  | .un q c, hT, i, k, hi, h => by
    simp only [semTr, semT, unY] at h
    split at h
    · omega
    · split at h
      · omega
      · obtain ⟨m, hm⟩ := h
        exact steps_in (ways_in t c hT.2.2) m i k hi hm
  | .bin q c d, hT, i, k, hi, h => by
    simp only [semTr, semT, binY] at h
    split at h
    · rcases h with h | h
      · exact ways_in t c hT.2.2.1 i k hi h
      · exact ways_in t d hT.2.2.2 i k hi h
    · obtain ⟨j, h1, h2⟩ := h
      have := ways_in t c hT.2.2.1 i j hi h1
      have := ways_in t d hT.2.2.2 j k this.2 h2
      omega
theorem steps_succ {w : Nat → Nat → Prop} {i k : Nat} : (∃ m, stepsP w m i k) ↔ i = k ∨ ∃ j, w i j ∧ ∃ m, stepsP w m j k := by
  constructor
  · rintro ⟨m, h⟩
    cases m with
    | zero => exact Or.inl h
    | succ m => obtain ⟨j, h1, h2⟩ := h; exact Or.inr ⟨j, h1, m, h2⟩
  · rintro (rfl | ⟨j, h1, m, h2⟩)
    · exact ⟨0, rfl⟩
    · exact ⟨m + 1, j, h1, h2⟩
/-! ### what follows -/
section
variable (t : List Nat) (x y z : Sv) (i : Nat)
theorem dual_finally : (semT t 9 0 [x]).1 i ↔ (semT t 15 0 [semT t 0 0 [], x]).1 i := by
  simp [semT, unV, binV, leafV]
theorem dual_globally : (semT t 10 0 [x]).1 i ↔ (semT t 16 0 [semT t 1 0 [], x]).1 i := by
  simp [semT, unV, binV, leafV]
theorem dual_weak : (semT t 8 0 [x]).1 i ↔ (semT t 6 0 [semT t 7 0 [semT t 6 0 [x]]]).1 i := by
  simp [semT, unV]
theorem dual_release : (semT t 16 0 [x, y]).1 i ↔ (semT t 6 0 [semT t 15 0 [semT t 6 0 [x], semT t 6 0 [y]]]).1 i := by
  simp only [semT, unV, binV]
  simp only [show ¬ (16 = 11) by decide, if_false, show ¬ (16 = 12) by decide, show ¬ (16 = 13) by decide, show ¬ (16 = 14) by decide, show ¬ (16 = 15) by decide, if_true, show ¬ (15 = 11) by decide, show ¬ (15 = 12) by decide, show ¬ (15 = 13) by decide, show ¬ (15 = 14) by decide]
  constructor
  · rintro h ⟨j, h1, h2, h3, h4⟩
    rcases h j h1 h2 with h | ⟨k, k1, k2, k3⟩
    · exact h3 h
    · exact h4 k k1 k2 k3
  · intro h j h1 h2
    by_cases hy : y.1 j
    · exact Or.inl hy
    · refine Or.inr (Classical.byContradiction fun hc => h ⟨j, h1, h2, hy, fun k k1 k2 k3 => hc ⟨k, k1, k2, k3⟩⟩)
theorem dual_imp : (semT t 13 0 [x, y]).1 i ↔ (semT t 12 0 [semT t 6 0 [x], y]).1 i := by
  simp only [semT, unV, binV]
  simp
  exact ⟨fun h => by by_cases hx : x.1 i; exact Or.inr (h hx); exact Or.inl hx, fun h hx => by rcases h with h | h; exact absurd hx h; exact h⟩
theorem dual_iff : (semT t 14 0 [x, y]).1 i ↔ (semT t 11 0 [semT t 13 0 [x, y], semT t 13 0 [y, x]]).1 i := by
  simp only [semT, binV]
  simp
  exact ⟨fun h => ⟨h.1, h.2⟩, fun h => ⟨h.1, h.2⟩⟩
theorem dual_last : (semT t 3 0 []).1 i ↔ (semT t 11 0 [semT t 4 0 [], semT t 8 0 [semT t 1 0 []]]).1 i := by
  simp [semT, unV, binV, leafV]; omega
theorem dual_over (hi : i ≤ t.length) : (semT t 5 0 []).1 i ↔ (semT t 6 0 [semT t 4 0 []]).1 i := by
  simp [semT, unV, leafV]; omega
theorem dual_until : (semT t 15 0 [x, y]).1 i ↔ (semT t 11 0 [semT t 4 0 [], semT t 12 0 [y, semT t 11 0 [x, semT t 7 0 [semT t 15 0 [x, y]]]]]).1 i := by
  simp [semT, unV, binV, leafV]
  constructor
  · rintro ⟨j, h1, h2, h3, h4⟩
    refine ⟨by omega, ?_⟩
    by_cases hj : j = i
    · subst hj; exact Or.inl h3
    · exact Or.inr ⟨h4 i (Nat.le_refl _) (by omega), by omega, j, by omega, h2, h3, fun k k1 k2 => h4 k (by omega) k2⟩
  · rintro ⟨h1, h | ⟨h2, h3, j, h4, h5, h6, h7⟩⟩
    · exact ⟨i, Nat.le_refl _, h1, h, fun k k1 k2 => by omega⟩
    · refine ⟨j, by omega, h5, h6, fun k k1 k2 => ?_⟩
      by_cases hk : k = i
      · subst hk; exact h2
      · exact h7 k (by omega) k2
theorem dual_release2 : (semT t 16 0 [x, y]).1 i ↔ (semT t 13 0 [semT t 4 0 [], semT t 11 0 [y, semT t 12 0 [x, semT t 8 0 [semT t 16 0 [x, y]]]]]).1 i := by
  simp [semT, unV, binV, leafV]
  constructor
  · intro h h1
    refine ⟨?_, ?_⟩
    · rcases h i (Nat.le_refl _) h1 with h | ⟨k, k1, k2, _⟩
      · exact h
      · omega
    · by_cases hx : x.1 i
      · exact Or.inl hx
      · refine Or.inr fun h2 j j1 j2 => ?_
        rcases h j (by omega) j2 with h | ⟨k, k1, k2, k3⟩
        · exact Or.inl h
        · refine Or.inr ⟨k, ?_, k2, k3⟩
          rcases Nat.lt_or_ge i k with hk | hk
          · omega
          · exact absurd (by have : k = i := by omega
                             subst this; exact k3) hx
  · intro h j j1 j2
    obtain ⟨h1, h2⟩ := h (by omega)
    by_cases hj : j = i
    · subst hj; exact Or.inl h1
    · rcases h2 with h2 | h2
      · exact Or.inr ⟨i, Nat.le_refl _, by omega, h2⟩
      · rcases h2 (by omega) j (by omega) j2 with h | ⟨k, k1, k2, k3⟩
        · exact Or.inl h
        · exact Or.inr ⟨k, by omega, k2, k3⟩
theorem path_box : (semT t 18 0 [x, y]).1 i ↔ (semT t 6 0 [semT t 17 0 [x, semT t 6 0 [y]]]).1 i := by
  simp [semT, unV, binV]
theorem path_plus : (semT t 17 0 [semT t 21 0 [x, y], z]).1 i ↔ (semT t 12 0 [semT t 17 0 [x, z], semT t 17 0 [y, z]]).1 i := by
  simp [semT, binV, binY]
  constructor
  · rintro ⟨k, h | h, hz⟩
    · exact Or.inl ⟨k, h, hz⟩
    · exact Or.inr ⟨k, h, hz⟩
  · rintro (⟨k, h, hz⟩ | ⟨k, h, hz⟩)
    · exact ⟨k, Or.inl h, hz⟩
    · exact ⟨k, Or.inr h, hz⟩
theorem path_seq : (semT t 17 0 [semT t 22 0 [x, y], z]).1 i ↔ (semT t 17 0 [x, semT t 17 0 [y, z]]).1 i := by
  simp [semT, binV, binY]
  constructor
  · rintro ⟨k, ⟨j, h1, h2⟩, hz⟩; exact ⟨j, h1, k, h2, hz⟩
  · rintro ⟨j, h1, k, h2, hz⟩; exact ⟨k, ⟨j, h1, h2⟩, hz⟩
theorem path_star : (semT t 17 0 [semT t 23 0 [x], z]).1 i ↔ (semT t 12 0 [z, semT t 17 0 [x, semT t 17 0 [semT t 23 0 [x], z]]]).1 i := by
  simp [semT, binV, unY]
  constructor
  · rintro ⟨k, hm, hz⟩
    rcases steps_succ.1 hm with rfl | ⟨j, h1, h2⟩
    · exact Or.inl hz
    · exact Or.inr ⟨j, h1, k, h2, hz⟩
  · rintro (hz | ⟨j, h1, k, h2, hz⟩)
    · exact ⟨i, ⟨0, rfl⟩, hz⟩
    · exact ⟨k, steps_succ.2 (Or.inr ⟨j, h1, h2⟩), hz⟩
theorem path_test : (semT t 17 0 [semT t 20 0 [x], y]).1 i ↔ (semT t 11 0 [x, y]).1 i := by
  simp [semT, binV, unY]
  exact ⟨fun ⟨k, ⟨h1, h2⟩, h3⟩ => ⟨h2, by rw [← h1]; exact h3⟩, fun h => ⟨i, ⟨rfl, h.1⟩, h.2⟩⟩
theorem path_step : (semT t 17 0 [semT t 19 0 [x], z]).1 i ↔ (semT t 11 0 [x, semT t 17 0 [semT t 19 0 [semT t 0 0 []], z]]).1 i := by
  simp [semT, binV, unY, leafV]
  constructor
  · rintro ⟨k, ⟨h1, h2, h3⟩, h4⟩; exact ⟨h3, k, ⟨h1, h2⟩, h4⟩
  · rintro ⟨h3, k, ⟨h1, h2⟩, h4⟩; exact ⟨k, ⟨h1, h2, h3⟩, h4⟩
end
end Go.Proofs.Ytbfhbpibpmgblaa
namespace Go.Proofs.Ytbfhbpibpmgblaa

theorem steps_shift {w u : Nat → Nat → Prop} {k n : Nat} (hw : ∀ i j, i + k ≤ n → (u i j ↔ w (i + k) (j + k))) (hin : ∀ i j, i ≤ n → w i j → i ≤ j ∧ j ≤ n) : ∀ (m i j : Nat), i + k ≤ n → (stepsP u m i j ↔ stepsP w m (i + k) (j + k))
  | 0, i, j, _ => by show i = j ↔ i + k = j + k; omega
  | m + 1, i, j, hi => by
    constructor
    · rintro ⟨l, h1, h2⟩
      have h1' := (hw i l hi).1 h1
      have := hin _ _ hi h1'
      exact ⟨l + k, h1', (steps_shift hw hin m l j this.2).1 h2⟩
    · rintro ⟨l, h1, h2⟩
      have hl := hin _ _ hi h1
      obtain ⟨q, rfl⟩ : ∃ q, l = q + k := ⟨l - k, by omega⟩
      exact ⟨q, (hw i q hi).2 h1, (steps_shift hw hin m q j hl.2).2 h2⟩
theorem cut_sem (t : List Nat) (k : Nat) (hk : k ≤ t.length) : ∀ T : Tr, T.WF → ∀ i, i + k ≤ t.length → ((semTr (t.drop k) T).1 i ↔ (semTr t T).1 (i + k)) ∧ ∀ j, ((semTr (t.drop k) T).2 i j ↔ (semTr t T).2 (i + k) (j + k))
  | .leaf q, _, i, hi => by
    have hl : (t.drop k).length = t.length - k := by simp
    refine ⟨?_, fun j => by simp [semTr, semT]⟩
    simp only [semTr, semT, leafV, hl]
    have hg : (t.drop k).getD i 0 = t.getD (i + k) 0 := by simp [List.getD_eq_getElem?_getD, Nat.add_comm]
    rw [hg]
    split
    · exact Iff.rfl
    · split
      · exact Iff.rfl
      · split
        · constructor <;> (rintro ⟨h1, h2⟩; exact ⟨by omega, h2⟩)
        · split
          · omega
          · split <;> omega
  | .un q c, hT, i, hi => by
    have hl : (t.drop k).length = t.length - k := by simp
    have ih := cut_sem t k hk c hT.2.2
    refine ⟨?_, fun j => ?_⟩
    · simp only [semTr, semT, unV, hl]
      split
      · rw [(ih i hi).1]
      · split
        · constructor
          · rintro ⟨h1, h2⟩
            exact ⟨by omega, by have := ((ih (i + 1) (by omega)).1).1 h2; rwa [show i + 1 + k = i + k + 1 by omega] at this⟩
          · rintro ⟨h1, h2⟩
            refine ⟨by omega, ((ih (i + 1) (by omega)).1).2 ?_⟩
            rwa [show i + 1 + k = i + k + 1 by omega]
        · split
          · constructor
            · intro h h1
              have := ((ih (i + 1) (by omega)).1).1 (h (by omega)); rwa [show i + 1 + k = i + k + 1 by omega] at this
            · intro h h1
              refine ((ih (i + 1) (by omega)).1).2 ?_
              rw [show i + 1 + k = i + k + 1 by omega]; exact h (by omega)
          · split
            · constructor
              · rintro ⟨j, h1, h2, h3⟩; exact ⟨j + k, by omega, by omega, ((ih j (by omega)).1).1 h3⟩
              · rintro ⟨j, h1, h2, h3⟩
                obtain ⟨j, rfl⟩ : ∃ q, j = q + k := ⟨j - k, by omega⟩
                exact ⟨j, by omega, by omega, ((ih j (by omega)).1).2 h3⟩
            · constructor
              · intro h j h1 h2
                obtain ⟨j, rfl⟩ : ∃ q, j = q + k := ⟨j - k, by omega⟩
                exact ((ih j (by omega)).1).1 (h j (by omega) (by omega))
              · intro h j h1 h2; exact ((ih j (by omega)).1).2 (h (j + k) (by omega) (by omega))
    · simp only [semTr, semT, unY, hl]
      split
      · constructor
        · rintro ⟨h1, h2, h3⟩; exact ⟨by omega, by omega, (ih i hi).1.1 h3⟩
        · rintro ⟨h1, h2, h3⟩; exact ⟨by omega, by omega, (ih i hi).1.2 h3⟩
      · split
        · constructor
          · rintro ⟨h1, h2⟩; exact ⟨by omega, (ih i hi).1.1 h2⟩
          · rintro ⟨h1, h2⟩; exact ⟨by omega, (ih i hi).1.2 h2⟩
        · have hs := fun m => steps_shift (u := (semTr (t.drop k) c).2) (w := (semTr t c).2) (k := k) (n := t.length) (fun a b ha => (ih a ha).2 b) (ways_in t c hT.2.2) m i j hi
          constructor
          · rintro ⟨m, h⟩; exact ⟨m, (hs m).1 h⟩
          · rintro ⟨m, h⟩; exact ⟨m, (hs m).2 h⟩
  | .bin q c d, hT, i, hi => by
    have hl : (t.drop k).length = t.length - k := by simp
    have ic := cut_sem t k hk c hT.2.2.1
    have id := cut_sem t k hk d hT.2.2.2
    have wc := ways_in t c hT.2.2.1
    have wd := ways_in t d hT.2.2.2
    refine ⟨?_, fun j => ?_⟩
    · simp only [semTr, semT, binV, hl]
      split
      · rw [(ic i hi).1, (id i hi).1]
      · split
        · rw [(ic i hi).1, (id i hi).1]
        · split
          · rw [(ic i hi).1, (id i hi).1]
          · split
            · rw [(ic i hi).1, (id i hi).1]
            · split
              · constructor
                · rintro ⟨j, h1, h2, h3, h4⟩
                  refine ⟨j + k, by omega, by omega, (id j (by omega)).1.1 h3, fun l l1 l2 => ?_⟩
                  obtain ⟨l, rfl⟩ : ∃ q, l = q + k := ⟨l - k, by omega⟩
                  exact (ic l (by omega)).1.1 (h4 l (by omega) (by omega))
                · rintro ⟨j, h1, h2, h3, h4⟩
                  obtain ⟨j, rfl⟩ : ∃ q, j = q + k := ⟨j - k, by omega⟩
                  exact ⟨j, by omega, by omega, (id j (by omega)).1.2 h3, fun l l1 l2 => (ic l (by omega)).1.2 (h4 (l + k) (by omega) (by omega))⟩
              · split
                · constructor
                  · intro h j h1 h2
                    obtain ⟨j, rfl⟩ : ∃ q, j = q + k := ⟨j - k, by omega⟩
                    rcases h j (by omega) (by omega) with h | ⟨l, l1, l2, l3⟩
                    · exact Or.inl ((id j (by omega)).1.1 h)
                    · exact Or.inr ⟨l + k, by omega, by omega, (ic l (by omega)).1.1 l3⟩
                  · intro h j h1 h2
                    rcases h (j + k) (by omega) (by omega) with h | ⟨l, l1, l2, l3⟩
                    · exact Or.inl ((id j (by omega)).1.2 h)
                    · obtain ⟨l, rfl⟩ : ∃ q, l = q + k := ⟨l - k, by omega⟩
                      exact Or.inr ⟨l, by omega, by omega, (ic l (by omega)).1.2 l3⟩
                · split
                  · constructor
                    · rintro ⟨j, h1, h2⟩
                      have h1' := ((ic i hi).2 j).1 h1
                      have := wc _ _ hi h1'
                      exact ⟨j + k, h1', (id j this.2).1.1 h2⟩
                    · rintro ⟨j, h1, h2⟩
                      have := wc _ _ hi h1
                      obtain ⟨j, rfl⟩ : ∃ q, j = q + k := ⟨j - k, by omega⟩
                      exact ⟨j, ((ic i hi).2 j).2 h1, (id j this.2).1.2 h2⟩
                  · constructor
                    · intro h j h1
                      have := wc _ _ hi h1
                      obtain ⟨j, rfl⟩ : ∃ q, j = q + k := ⟨j - k, by omega⟩
                      exact (id j this.2).1.1 (h j (((ic i hi).2 j).2 h1))
                    · intro h j h1
                      have h1' := ((ic i hi).2 j).1 h1
                      have := wc _ _ hi h1'
                      exact (id j this.2).1.2 (h (j + k) h1')
    · simp only [semTr, semT, binY]
      split
      · rw [(ic i hi).2 j, (id i hi).2 j]
      · constructor
        · rintro ⟨l, h1, h2⟩
          have h1' := ((ic i hi).2 l).1 h1
          have := wc _ _ hi h1'
          exact ⟨l + k, h1', ((id l this.2).2 j).1 h2⟩
        · rintro ⟨l, h1, h2⟩
          have := wc _ _ hi h1
          obtain ⟨l, rfl⟩ : ∃ q, l = q + k := ⟨l - k, by omega⟩
          exact ⟨l, ((ic i hi).2 l).2 h1, ((id l this.2).2 j).2 h2⟩
end Go.Proofs.Ytbfhbpibpmgblaa
namespace Go.Proofs.Ytbfhbpibpmgblaa

/-- What is built; nothing, where that may not be. -/
def unB (op : Nat) (ts : List Tk) : List Tk := if unE op ts = 0 then ts ++ [(op, 0)] else []
def binB (op : Nat) (us bs : List Tk) : List Tk := if binE op us bs = 0 then us ++ bs ++ [(op, 0)] else []
theorem look_nil (w : Nat) : lookE [] w ≠ 0 := fun h => by
  obtain ⟨_, t, _, h1, _⟩ := lookE_zero.1 h
  have := congrArg List.length h1
  rw [flat_len] at this
  have := size_pos t
  simp at *; omega
theorem look_ref {ts : List Tk} {k : Nat} (h : refE ts k = 0) : lookE ts 4 = 0 := by
  unfold refE at h
  split at h
  · exact look4 (Or.inr h)
  · exact look4 (Or.inl h)
/-- Where tokens may be, they mean v. -/
def Mn (t : List Nat) (ts : List Tk) (v : Sv) : Prop := lookE ts 4 = 0 → Cl t ts v
theorem Mn.un {t : List Nat} {ts : List Tk} {v : Sv} (h : Mn t ts v) {op : Nat} (ho : takesN (op, 0) = some 1) : Mn t (unB op ts) (semT t op 0 [v]) := by
  intro hk
  unfold unB at hk ⊢
  by_cases hu : unE op ts = 0
  · rw [if_pos hu] at hk ⊢
    refine (h ?_).un ho
    unfold unE at hu
    split at hu
    · split at hu
      · next hr => exact look_ref hr
      · next hr => exact absurd hu hr
    · cases hu
  · rw [if_neg hu] at hk
    exact absurd hk (look_nil 4)
theorem Mn.bin {t : List Nat} {us bs : List Tk} {v u : Sv} (h : Mn t us v) (k : Mn t bs u) {op : Nat} (ho : takesN (op, 0) = some 2) : Mn t (binB op us bs) (semT t op 0 [v, u]) := by
  intro hk
  unfold binB at hk ⊢
  by_cases hu : binE op us bs = 0
  · rw [if_pos hu] at hk ⊢
    unfold binE at hu
    split at hu
    · split at hu
      · next hr =>
        split at hu
        · next hs => exact (h (look_ref hr)).bin (k (look_ref hs)) ho
        · next hs => exact absurd hu hs
      · next hr => exact absurd hu hr
    · cases hu
  · rw [if_neg hu] at hk
    exact absurd hk (look_nil 4)
theorem Mn.leaf (t : List Nat) {op p : Nat} (h : takesN (op, p) = some 0) : Mn t [(op, p)] (semT t op p []) := fun _ => Cl.leaf t h
theorem Mn.of (t : List Nat) {ts : List Tk} {want : Nat} (h : lookE ts want = 0) : ∃ T : Tr, T.WF ∧ ts = T.flat ∧ isK (kindOf (T.part 0)) want = true ∧ Mn t ts (semTr t T) := by
  obtain ⟨T, h1, h2, h3, h4⟩ := cl_look t h
  exact ⟨T, h1, h2, h3, fun _ => h4⟩
/-- What All tells of tokens that may be: at each place whether they are satisfied. -/
def ValB (t : List Nat) (ts : List Tk) (bs : List Bool) : Prop := bs.length = t.length + 1 ∧ ∀ v, Cl t ts v → ∀ i (h : i < bs.length), (bs[i] = true ↔ v.1 i)
theorem ValB.same {t : List Nat} {xs ys : List Tk} {v u : Sv} {as bs : List Bool} (h : ValB t xs as) (k : ValB t ys bs) (hx : Cl t xs v) (hy : Cl t ys u) (he : ∀ i, i ≤ t.length → (v.1 i ↔ u.1 i)) : as = bs := by
  refine List.ext_getElem (by rw [h.1, k.1]) fun i h1 h2 => ?_
  have e1 := h.2 v hx i h1
  have e2 := k.2 u hy i h2
  have e3 := he i (by have := h.1; omega)
  rw [e3] at e1
  rw [← e2] at e1
  cases ha : as[i] <;> cases hb : bs[i] <;> simp_all
/-- Two formulas that are satisfied at the same places, told. -/
theorem alike_of {t : List Nat} {xs ys : List Tk} {v u : Sv} (hx : Mn t xs v) (hy : Mn t ys u) (he : ∀ i, i ≤ t.length → (v.1 i ↔ u.1 i)) {as bs : List Bool} (h : ValB t xs as) (k : ValB t ys bs) (lx : lookE xs 1 = 0) (ly : lookE ys 1 = 0) : as = bs :=
  ValB.same h k (hx (look4 (Or.inl lx))) (hy (look4 (Or.inl ly))) he
end Go.Proofs.Ytbfhbpibpmgblaa
namespace Go.Proofs.Ytbfhbpibpmgblaa

theorem sorted_ext : ∀ {xs ys : List Nat}, xs.Pairwise (· < ·) → ys.Pairwise (· < ·) → (∀ k, k ∈ xs ↔ k ∈ ys) → xs = ys
  | [], [], _, _, _ => rfl
  | [], y :: ys, _, _, h => absurd ((h y).2 List.mem_cons_self) (by simp)
  | x :: xs, [], _, _, h => absurd ((h x).1 List.mem_cons_self) (by simp)
  | x :: xs, y :: ys, hx, hy, h => by
    have hx' := List.pairwise_cons.1 hx
    have hy' := List.pairwise_cons.1 hy
    have e : x = y := by
      rcases List.mem_cons.1 ((h x).1 List.mem_cons_self) with e | e
      · exact e
      · rcases List.mem_cons.1 ((h y).2 List.mem_cons_self) with e2 | e2
        · exact e2.symm
        · have := hy'.1 x e
          have := hx'.1 y e2
          omega
    subst e
    refine congrArg _ (sorted_ext hx'.2 hy'.2 fun k => ?_)
    constructor
    · intro hk
      rcases List.mem_cons.1 ((h k).1 (List.mem_cons_of_mem _ hk)) with e | e
      · subst e; exact absurd (hx'.1 k hk) (by omega)
      · exact e
    · intro hk
      rcases List.mem_cons.1 ((h k).2 (List.mem_cons_of_mem _ hk)) with e | e
      · subst e; exact absurd (hy'.1 k hk) (by omega)
      · exact e
theorem vals_eq {t : List Nat} {ts : List Tk} {bs cs : List Bool} {v : Sv} (h : ValB t ts bs) (hv : Cl t ts v) (hl : cs.length = t.length + 1) (hc : ∀ i (h : i < cs.length), (cs[i] = true ↔ v.1 i)) : bs = cs := by
  refine List.ext_getElem (by rw [h.1, hl]) fun i i1 i2 => ?_
  have e1 := h.2 v hv i i1
  have e2 := hc i i2
  rw [← e2] at e1
  cases ha : bs[i] <;> cases hb : cs[i] <;> simp_all
def tr3 : List Nat := [1, 2, 3]
theorem aw_until {bs : List Bool} (h : ValB tr3 [(2, 0), (2, 1), (15, 0)] bs) : bs = [true, true, true, false] := by
  have hv : Cl tr3 ([(2, 0)] ++ [(2, 1)] ++ [(15, 0)]) (semT tr3 15 0 [semT tr3 2 0 [], semT tr3 2 1 []]) := (Cl.leaf tr3 (op := 2) (p := 0) rfl).bin (Cl.leaf tr3 (op := 2) (p := 1) rfl) rfl
  refine vals_eq h hv rfl fun i hi => ?_
  simp only [semT, binV, leafV]
  simp only [show ¬ (15 = 11) by decide, show ¬ (15 = 12) by decide, show ¬ (15 = 13) by decide, show ¬ (15 = 14) by decide, show ¬ (2 = 0) by decide, show ¬ (2 = 1) by decide, if_false, if_true]
  match i, hi with
  | 0, _ =>
    refine ⟨fun _ => ⟨1, by decide, by decide, by decide, fun k _ k2 => ?_⟩, fun _ => rfl⟩
    obtain rfl : k = 0 := by omega
    decide
  | 1, _ => exact ⟨fun _ => ⟨1, by decide, by decide, by decide, fun k k1 k2 => by omega⟩, fun _ => rfl⟩
  | 2, _ => exact ⟨fun _ => ⟨2, by decide, by decide, by decide, fun k k1 k2 => by omega⟩, fun _ => rfl⟩
  | 3, _ => exact ⟨fun h => by simp at h, fun ⟨j, h1, h2, _⟩ => by simp [tr3] at h2; omega⟩
def way3 : Nat → Nat → Prop := (semT tr3 19 0 [semT tr3 2 0 []]).2
theorem way3_of {i k : Nat} : way3 i k ↔ k = i + 1 ∧ (i = 0 ∨ i = 2) := by
  simp only [way3, semT, unY, leafV]
  simp only [show ¬ (2 = 0) by decide, show ¬ (2 = 1) by decide, if_false, if_true]
  constructor
  · rintro ⟨h1, h2, _, h4⟩
    refine ⟨h1, ?_⟩
    have hi : i < 3 := h2
    match i, hi with
    | 0, _ => exact Or.inl rfl
    | 1, _ => exact absurd h4 (by decide)
    | 2, _ => exact Or.inr rfl
  · rintro ⟨h1, rfl | rfl⟩
    · exact ⟨h1, by decide, by decide, by decide⟩
    · exact ⟨h1, by decide, by decide, by decide⟩
theorem steps1 : ∀ m k, stepsP way3 m 1 k → k = 1
  | 0, k, h => (show 1 = k from h).symm
  | m + 1, k, h => by obtain ⟨j, h1, _⟩ := h; have := (way3_of.1 h1).2; omega
theorem steps0 {k : Nat} : (∃ m, stepsP way3 m 0 k) ↔ k = 0 ∨ k = 1 := by
  constructor
  · rintro ⟨m, h⟩
    cases m with
    | zero => exact Or.inl (show 0 = k from h).symm
    | succ m => obtain ⟨j, h1, h2⟩ := h; have := (way3_of.1 h1).1; subst this; exact Or.inr (steps1 m k h2)
  · rintro (rfl | rfl)
    · exact ⟨0, rfl⟩
    · exact ⟨1, 1, way3_of.2 ⟨rfl, Or.inl rfl⟩, rfl⟩
theorem steps3 : ∀ m k, stepsP way3 m 3 k → k = 3
  | 0, k, h => (show 3 = k from h).symm
  | m + 1, k, h => by obtain ⟨j, h1, _⟩ := h; have := (way3_of.1 h1).2; omega
theorem steps2 {k : Nat} : (∃ m, stepsP way3 m 2 k) ↔ k = 2 ∨ k = 3 := by
  constructor
  · rintro ⟨m, h⟩
    cases m with
    | zero => exact Or.inl (show 2 = k from h).symm
    | succ m => obtain ⟨j, h1, h2⟩ := h; have := (way3_of.1 h1).1; subst this; exact Or.inr (steps3 m k h2)
  · rintro (rfl | rfl)
    · exact ⟨0, rfl⟩
    · exact ⟨1, 3, way3_of.2 ⟨rfl, Or.inr rfl⟩, rfl⟩
theorem cl_star : Cl tr3 [(2, 0), (19, 0), (23, 0)] (semT tr3 23 0 [semT tr3 19 0 [semT tr3 2 0 []]]) := ((Cl.leaf tr3 (op := 2) (p := 0) rfl).un (op := 19) (p := 0) rfl).un (op := 23) (p := 0) rfl
theorem star_is (i k : Nat) : (semT tr3 23 0 [semT tr3 19 0 [semT tr3 2 0 []]]).2 i k ↔ ∃ m, stepsP way3 m i k := by
  simp only [semT, unY]
  simp only [show ¬ (23 = 19) by decide, show ¬ (23 = 20) by decide, if_false]
  exact Iff.rfl
end Go.Proofs.Ytbfhbpibpmgblaa
namespace Go.Proofs.Ytbfhbpibpmgblaa

/-- What lies on the stack: is it a path, and what it means. -/
abbrev Sk := Bool × Sv
def fitK (op : Nat) (a : List Bool) : Bool :=
  if op = 17 ∨ op = 18 then a == [true, false] else if op = 21 ∨ op = 22 then a == [true, true] else if op = 23 then a == [true] else a.all (!·)
def skT (t : List Nat) (k : Tk) (a : List Sk) : Sk := (isPathB k.1, semT t k.1 k.2 (a.map (·.2)))
def skStep (t : List Nat) (st : List Sk) (k : Tk) : List Sk := st.take (st.length - takC k) ++ [skT t k (st.drop (st.length - takC k))]
def skS (t : List Nat) (ts : List Tk) (st : List Sk) : List Sk := ts.foldl (skStep t) st
theorem skS_app (t : List Nat) (a b : List Tk) (st : List Sk) : skS t (a ++ b) st = skS t b (skS t a st) := by unfold skS; rw [List.foldl_append]
theorem skS_next (t : List Nat) {ts : List Tk} {k : Nat} (h : k < ts.length) (st : List Sk) : skS t (ts.take (k + 1)) st = skStep t (skS t (ts.take k) st) ts[k] := by
  rw [List.take_add_one, List.getElem?_eq_getElem h, skS_app]; rfl
/-- Ways lead on. -/
def InW (n : Nat) (x : Sk) : Prop := ∀ i k, i ≤ n → x.2.2 i k → i ≤ k ∧ k ≤ n
/-- May a token be worked off here? -/
def OkAt (n : Nat) (st : List Sk) (k : Tk) : Prop := ∃ m, takesN k = some m ∧ m ≤ st.length ∧ fitK k.1 ((st.drop (st.length - m)).map (·.1)) = true ∧ ∀ x ∈ st, InW n x
theorem fit_of {op : Nat} {a : List Pt} (h : fitsP op a = true) : fitK op (a.map (·.path)) = true := by
  unfold fitsP at h
  unfold fitK
  split at h
  · rename_i h1
    rw [if_pos h1]
    split at h
    · simp at h ⊢; simpa using h
    · cases h
  · rename_i h1
    rw [if_neg h1]
    split at h
    · rename_i h2
      subst h2
      rw [if_neg (by decide), if_neg (by decide)]
      split at h
      · simp at h ⊢; exact h.1
      · cases h
    · split at h
      · rename_i h2 h3
        rw [if_pos h3]
        split at h
        · simp at h ⊢; simpa using h
        · cases h
      · rename_i h2 h3
        rw [if_neg h3]
        split at h
        · rename_i h4
          rw [if_pos h4]
          split at h
          · simp at h ⊢; simpa using h
          · cases h
        · rename_i h4
          rw [if_neg h4]
          simpa [List.all_map, Function.comp_def] using h
theorem skS_one (t : List Nat) (k : Tk) (st : List Sk) : skS t [k] st = skStep t st k := rfl
theorem drop_at {α : Type} (st r : List α) (m : Nat) (h : r.length = m) : (st ++ r).drop ((st ++ r).length - m) = r ∧ (st ++ r).take ((st ++ r).length - m) = st := by
  have : (st ++ r).length - m = st.length := by simp; omega
  rw [this]; simp
theorem tak_of {k : Tk} {m : Nat} (h : takesN k = some m) : takC k = m := by unfold takC; rw [h]; rfl
theorem get_split {a b : List Tk} {P : List Tk → Tk → Prop} (h1 : ∀ k (h : k < a.length), P (a.take k) a[k]) (h2 : ∀ k (h : k < b.length), P (a ++ b.take k) b[k]) : ∀ k (h : k < (a ++ b).length), P ((a ++ b).take k) (a ++ b)[k] := by
  intro k h
  by_cases hk : k < a.length
  · have e1 : (a ++ b).take k = a.take k := by rw [List.take_append_of_le_length (by omega)]
    have e2 : (a ++ b)[k] = a[k] := List.getElem_append_left hk
    rw [e1, e2]; exact h1 k hk
  · have e1 : (a ++ b).take k = a ++ b.take (k - a.length) := by rw [List.take_append, List.take_of_length_le (by omega)]
    have e2 : (a ++ b)[k] = b[k - a.length]'(by simp at h; omega) := List.getElem_append_right (by omega)
    rw [e1, e2]; exact h2 _ _
/-- A tree's tokens are worked off one by one, from whatever stack. -/
theorem sk_tree (t : List Nat) : ∀ T : Tr, T.WF → ∀ st : List Sk, (∀ x ∈ st, InW t.length x) → skS t T.flat st = st ++ [((T.part 0).path, semTr t T)] ∧ ∀ k (h : k < T.flat.length), OkAt t.length (skS t (T.flat.take k) st) T.flat[k]
  | .leaf q, hT, st, hst => by
    have e := tak_of hT.1
    refine ⟨?_, fun k h => ?_⟩
    · show skStep t st q = _
      have := drop_at st [] 0 rfl
      rw [List.append_nil] at this
      unfold skStep
      rw [e, this.1, this.2]
      rfl
    · have hk : k = 0 := by simp [Tr.flat] at h; exact h
      subst hk
      refine ⟨0, hT.1, Nat.zero_le _, ?_, hst⟩
      have := (drop_at st [] 0 rfl).1
      rw [List.append_nil] at this
      show fitK _ ((st.drop (st.length - 0)).map _) = true
      rw [this]
      exact fit_of hT.2
  | .un q c, hT, st, hst => by
    have e := tak_of hT.1
    obtain ⟨h1, h2⟩ := sk_tree t c hT.2.2 st hst
    have hin : InW t.length ((c.part 0).path, semTr t c) := ways_in t c hT.2.2
    have hd := drop_at st [((c.part 0).path, semTr t c)] 1 rfl
    refine ⟨?_, ?_⟩
    · show skS t (c.flat ++ [q]) st = _
      rw [skS_app, h1, skS_one]
      unfold skStep
      rw [e, hd.1, hd.2]
      rfl
    · show ∀ k (h : k < (c.flat ++ [q]).length), OkAt t.length (skS t ((c.flat ++ [q]).take k) st) (c.flat ++ [q])[k]
      refine get_split (P := fun l x => OkAt t.length (skS t l st) x) h2 fun k h => ?_
      have hk : k = 0 := by simp at h; exact h
      subst hk
      show OkAt t.length (skS t (c.flat ++ []) st) q
      rw [List.append_nil, h1]
      refine ⟨1, hT.1, by simp, ?_, fun x hx => ?_⟩
      · rw [hd.1]
        exact fit_of (a := [c.part 0]) hT.2.1
      · rcases List.mem_append.1 hx with hx | hx
        · exact hst x hx
        · simp at hx; subst hx; exact hin
  | .bin q c d, hT, st, hst => by
    have e := tak_of hT.1
    obtain ⟨h1, h2⟩ := sk_tree t c hT.2.2.1 st hst
    have hin : InW t.length ((c.part 0).path, semTr t c) := ways_in t c hT.2.2.1
    have hin2 : InW t.length ((d.part 0).path, semTr t d) := ways_in t d hT.2.2.2
    have hst2 : ∀ x ∈ st ++ [((c.part 0).path, semTr t c)], InW t.length x := fun x hx => by
      rcases List.mem_append.1 hx with hx | hx
      · exact hst x hx
      · simp at hx; subst hx; exact hin
    obtain ⟨h3, h4⟩ := sk_tree t d hT.2.2.2 _ hst2
    have hd := drop_at st [((c.part 0).path, semTr t c), ((d.part 0).path, semTr t d)] 2 rfl
    have he : st ++ [((c.part 0).path, semTr t c)] ++ [((d.part 0).path, semTr t d)] = st ++ [((c.part 0).path, semTr t c), ((d.part 0).path, semTr t d)] := by simp
    rw [he] at h3
    refine ⟨?_, ?_⟩
    · show skS t (c.flat ++ d.flat ++ [q]) st = _
      rw [skS_app, skS_app, h1, h3, skS_one]
      unfold skStep
      rw [e, hd.1, hd.2]
      rfl
    · show ∀ k (h : k < (c.flat ++ d.flat ++ [q]).length), OkAt t.length (skS t ((c.flat ++ d.flat ++ [q]).take k) st) (c.flat ++ d.flat ++ [q])[k]
      refine get_split (P := fun l x => OkAt t.length (skS t l st) x) (get_split (P := fun l x => OkAt t.length (skS t l st) x) h2 fun k h => ?_) fun k h => ?_
      · show OkAt t.length (skS t (c.flat ++ d.flat.take k) st) _
        rw [skS_app, h1]
        exact h4 k h
      · have hk : k = 0 := by simp at h; exact h
        subst hk
        show OkAt t.length (skS t (c.flat ++ d.flat ++ []) st) q
        rw [List.append_nil, skS_app, h1, h3]
        refine ⟨2, hT.1, by simp, ?_, fun x hx => ?_⟩
        · rw [hd.1]
          exact fit_of (a := [c.part 0, d.part 0]) hT.2.1
        · rcases List.mem_append.1 hx with hx | hx
          · exact hst x hx
          · simp at hx
            rcases hx with rfl | rfl
            · exact hin
            · exact hin2
/-- What a checked list of tokens is worked off to. -/
theorem sk_look (t : List Nat) {ts : List Tk} {want : Nat} (h : lookE ts want = 0) : ∃ (v : Sv) (b : Bool), Cl t ts v ∧ skS t ts [] = [(b, v)] ∧ (want = 1 → b = false) ∧ (want = 3 → b = true) ∧ InW t.length (b, v) ∧ ts.length ≤ 512 ∧ ∀ k (h : k < ts.length), OkAt t.length (skS t (ts.take k) []) ts[k] := by
  obtain ⟨hl, T, hT, rfl, hk, _⟩ := lookE_zero.1 h
  obtain ⟨h1, h2⟩ := sk_tree t T hT [] (fun x hx => by simp at hx)
  refine ⟨semTr t T, (T.part 0).path, cl_tree t T hT, h1, ?_, ?_, ways_in t T hT, hl, h2⟩
  · rintro rfl
    cases hb : (T.part 0).path with
    | false => rfl
    | true => unfold isK kindOf at hk; rw [hb] at hk; cases hk
  · rintro rfl
    cases hb : (T.part 0).path with
    | true => rfl
    | false => unfold isK kindOf at hk; rw [hb] at hk; revert hk; cases (T.part 0).plain <;> simp
end Go.Proofs.Ytbfhbpibpmgblaa
namespace Go.Proofs.Ytbfhbpibpmgblaa

/-- Is a place among the ends? -/
def hasW (ws : List Nat) (k : Nat) : Bool := (ws.getD (k / 64) 0).testBit (k % 64)
def putW (ws : List Nat) (k : Nat) : List Nat := ws.set (k / 64) (ws.getD (k / 64) 0 ||| 2 ^ (k % 64))
/-- The words from p on, below m, joined. -/
def joinT (ws us : List Nat) (p m : Nat) : List Nat := ws.mapIdx fun i x => if p ≤ i ∧ i < m then x ||| us.getD i 0 else x
def OkW (W : Nat) (ws : List Nat) : Prop := ws.length = W ∧ ∀ i, ws.getD i 0 < 18446744073709551616
theorem two64 : (18446744073709551616 : Nat) = 2 ^ 64 := by decide
theorem OkW.zero (W : Nat) : OkW W (List.replicate W 0) := ⟨by simp, fun i => by simp [List.getD_eq_getElem?_getD, List.getElem?_replicate]; split <;> simp⟩
theorem hasW_zero (W k : Nat) : hasW (List.replicate W 0) k = false := by
  unfold hasW
  simp only [List.getD_eq_getElem?_getD, List.getElem?_replicate]
  split <;> simp
theorem getD_set (ws : List Nat) (i x j : Nat) : (ws.set i x).getD j 0 = if i = j ∧ i < ws.length then x else ws.getD j 0 := by
  simp only [List.getD_eq_getElem?_getD, List.getElem?_set]
  by_cases h : i = j
  · subst h
    by_cases h2 : i < ws.length
    · simp [h2]
    · rw [if_pos rfl, if_neg h2, if_neg (by omega)]; simp [List.getElem?_eq_none (by omega : ws.length ≤ i)]
  · simp [h]
theorem OkW.put {W : Nat} {ws : List Nat} (h : OkW W ws) {k : Nat} : OkW W (putW ws k) := by
  refine ⟨by unfold putW; rw [List.length_set]; exact h.1, fun i => ?_⟩
  unfold putW
  rw [getD_set]
  split
  · rw [two64]
    refine Nat.or_lt_two_pow (by rw [← two64]; exact h.2 _) (Nat.pow_lt_pow_right (by decide) (by omega))
  · exact h.2 i
theorem hasW_put {W : Nat} {ws : List Nat} (h : OkW W ws) {k : Nat} (hk : k / 64 < W) (j : Nat) : hasW (putW ws k) j = (hasW ws j || decide (j = k)) := by
  unfold hasW putW
  rw [getD_set]
  by_cases e : k / 64 = j / 64
  · rw [if_pos ⟨e, by rw [h.1]; exact hk⟩, e, Nat.testBit_or, Nat.testBit_two_pow]
    have : (k % 64 = j % 64) ↔ j = k := by omega
    simp [this]
  · rw [if_neg (fun h => e h.1)]
    have : ¬ j = k := fun h => e (by rw [h])
    simp [this]
theorem joinT_len (ws us : List Nat) (p m : Nat) : (joinT ws us p m).length = ws.length := by simp [joinT]
theorem joinT_get (ws us : List Nat) (p m i : Nat) : (joinT ws us p m).getD i 0 = if p ≤ i ∧ i < m ∧ i < ws.length then ws.getD i 0 ||| us.getD i 0 else ws.getD i 0 := by
  unfold joinT
  simp only [List.getD_eq_getElem?_getD, List.getElem?_mapIdx]
  by_cases h : i < ws.length
  · rw [List.getElem?_eq_getElem h]
    simp only [Option.map_some, Option.getD_some]
    by_cases h2 : p ≤ i ∧ i < m
    · rw [if_pos h2, if_pos ⟨h2.1, h2.2, h⟩]
    · rw [if_neg h2, if_neg (fun h3 => h2 ⟨h3.1, h3.2.1⟩)]
  · rw [List.getElem?_eq_none (show ws.length ≤ i by omega), if_neg (by omega)]
    rfl
theorem row_ext {xs ys : List Nat} (hl : xs.length = ys.length) (h : ∀ i, xs.getD i 0 = ys.getD i 0) : xs = ys := by
  refine List.ext_getElem hl fun i h1 h2 => ?_
  have := h i
  simpa [List.getD_eq_getElem?_getD, h1, h2] using this
theorem joinT_low (ws us : List Nat) (p : Nat) : joinT ws us p p = ws := row_ext (joinT_len ..) fun i => by rw [joinT_get, if_neg (by omega)]
theorem joinT_next (ws us : List Nat) (p m : Nat) (h : p ≤ m) (hm : m < ws.length) : joinT ws us p (m + 1) = (joinT ws us p m).set m (ws.getD m 0 ||| us.getD m 0) := by
  refine row_ext (by simp [joinT_len]) fun i => ?_
  rw [getD_set, joinT_get, joinT_get, joinT_len]
  by_cases e : m = i
  · subst e
    rw [if_pos ⟨h, Nat.lt_succ_self _, hm⟩, if_pos ⟨rfl, hm⟩]
  · rw [if_neg (show ¬ (m = i ∧ m < ws.length) from fun h => e h.1)]
    by_cases q : p ≤ i ∧ i < m ∧ i < ws.length
    · rw [if_pos q, if_pos ⟨q.1, by omega, q.2.2⟩]
    · rw [if_neg q, if_neg (fun q2 => q ⟨q2.1, by omega, q2.2.2⟩)]
theorem joinT_same {ws us : List Nat} {p m : Nat} (h : ws.getD m 0 ||| us.getD m 0 = ws.getD m 0) (hp : p ≤ m) (hm : m < ws.length) : joinT ws us p (m + 1) = joinT ws us p m := by
  refine row_ext (by simp [joinT_len]) fun i => ?_
  rw [joinT_get, joinT_get]
  by_cases e : i = m
  · subst e
    rw [if_pos ⟨hp, Nat.lt_succ_self _, hm⟩, if_neg (by omega), h]
  · by_cases q : p ≤ i ∧ i < m ∧ i < ws.length
    · rw [if_pos q, if_pos ⟨q.1, by omega, q.2.2⟩]
    · rw [if_neg q, if_neg (fun q2 => q ⟨q2.1, by omega, q2.2.2⟩)]
/-- All from p on. -/
def joinW (ws us : List Nat) (p : Nat) : List Nat := joinT ws us p ws.length
theorem OkW.join {W : Nat} {ws us : List Nat} (h : OkW W ws) (k : OkW W us) (p m : Nat) : OkW W (joinT ws us p m) := by
  refine ⟨by rw [joinT_len]; exact h.1, fun i => ?_⟩
  rw [joinT_get]
  split
  · rw [two64]
    exact Nat.or_lt_two_pow (by rw [← two64]; exact h.2 _) (by rw [← two64]; exact k.2 _)
  · exact h.2 i
theorem hasW_join {W : Nat} {ws us : List Nat} (h : OkW W ws) (k : OkW W us) (q j : Nat) (hq : ∀ j, hasW us j = true → q ≤ j) : hasW (joinW ws us (q / 64)) j = (hasW ws j || hasW us j) := by
  unfold joinW hasW
  rw [joinT_get]
  by_cases h1 : j / 64 < ws.length
  · by_cases h2 : q / 64 ≤ j / 64
    · rw [if_pos ⟨h2, h1, h1⟩, Nat.testBit_or]
    · rw [if_neg (fun h => h2 h.1)]
      have : hasW us j = false := by
        cases hb : hasW us j with
        | false => rfl
        | true => have := hq j hb; omega
      unfold hasW at this
      rw [this, Bool.or_false]
  · rw [if_neg (fun h => h1 h.2.1)]
    have e : us.getD (j / 64) 0 = 0 := by
      rw [List.getD_eq_getElem?_getD, List.getElem?_eq_none (by rw [k.1]; rw [h.1] at h1; omega)]; rfl
    rw [e]; simp
theorem hasW_lt {W : Nat} {ws : List Nat} (h : OkW W ws) {j : Nat} (hj : hasW ws j = true) : j < 64 * W := by
  unfold hasW at hj
  by_cases h1 : j / 64 < ws.length
  · have := h.1; omega
  · rw [List.getD_eq_getElem?_getD, List.getElem?_eq_none (by omega)] at hj
    simp at hj
theorem joinT_mono (ws us : List Nat) (p m i : Nat) : ws.getD i 0 ≤ (joinT ws us p m).getD i 0 := by
  rw [joinT_get]
  split
  · exact Nat.left_le_or
  · exact Nat.le_refl _
/-- How much stands in a row. -/
theorem sum_le : ∀ {xs ys : List Nat}, xs.length = ys.length → (∀ i, xs.getD i 0 ≤ ys.getD i 0) → xs.sum ≤ ys.sum ∧ (xs ≠ ys → xs.sum < ys.sum)
  | [], [], _, _ => ⟨Nat.le_refl _, fun h => absurd rfl h⟩
  | x :: xs, y :: ys, hl, h => by
    have h0 : x ≤ y := h 0
    obtain ⟨h1, h2⟩ := sum_le (xs := xs) (ys := ys) (by simpa using hl) fun i => h (i + 1)
    simp only [List.sum_cons]
    refine ⟨by omega, fun hne => ?_⟩
    by_cases e : x = y
    · subst e
      have := h2 (fun e => hne (by rw [e]))
      omega
    · omega
  | [], _ :: _, hl, _ => by simp at hl
  | _ :: _, [], hl, _ => by simp at hl
theorem sum_bd : ∀ {ws : List Nat} {B : Nat}, (∀ i, ws.getD i 0 ≤ B) → ws.sum ≤ ws.length * B
  | [], _, _ => by simp
  | x :: xs, B, h => by
    have h0 : x ≤ B := h 0
    have := sum_bd (ws := xs) (B := B) fun i => h (i + 1)
    simp only [List.sum_cons, List.length_cons, Nat.add_mul, Nat.one_mul]
    omega
/-- All words of P rows. -/
def tot (P : Nat) (rs : Nat → List Nat) : Nat := match P with
  | 0 => 0
  | P + 1 => tot P rs + (rs P).sum
def upd (rs : Nat → List Nat) (i : Nat) (x : List Nat) : Nat → List Nat := fun j => if j = i then x else rs j
theorem upd_same (rs : Nat → List Nat) (i : Nat) (x : List Nat) : upd rs i x i = x := if_pos rfl
theorem upd_ne (rs : Nat → List Nat) {i j : Nat} (x : List Nat) (h : j ≠ i) : upd rs i x j = rs j := if_neg h
theorem upd_self (rs : Nat → List Nat) (i : Nat) : upd rs i (rs i) = rs := by funext j; unfold upd; split <;> simp_all
theorem tot_far : ∀ (P : Nat) (rs : Nat → List Nat) (i : Nat) (x : List Nat), P ≤ i → tot P (upd rs i x) = tot P rs
  | 0, _, _, _, _ => rfl
  | P + 1, rs, i, x, h => by
    unfold tot
    rw [tot_far P rs i x (by omega), upd_ne _ _ (by omega)]
theorem tot_upd : ∀ (P : Nat) (rs : Nat → List Nat) (i : Nat) (x : List Nat), i < P → tot P (upd rs i x) + (rs i).sum = tot P rs + x.sum
  | 0, _, _, _, h => by omega
  | P + 1, rs, i, x, h => by
    unfold tot
    by_cases e : i = P
    · subst e
      rw [tot_far _ _ _ _ (Nat.le_refl _), upd_same]; omega
    · have := tot_upd P rs i x (by omega)
      rw [upd_ne _ _ (by omega : P ≠ i)]; omega
theorem tot_bd {W : Nat} : ∀ (P : Nat) (rs : Nat → List Nat), (∀ i, i < P → OkW W (rs i)) → tot P rs ≤ P * (W * 18446744073709551616)
  | 0, _, _ => by unfold tot; omega
  | P + 1, rs, h => by
    unfold tot
    have h1 := tot_bd P rs fun i hi => h i (by omega)
    have h2 := sum_bd (ws := rs P) (B := 18446744073709551616) fun i => Nat.le_of_lt ((h P (by omega)).2 i)
    rw [(h P (by omega)).1] at h2
    rw [Nat.add_mul, Nat.one_mul]; omega
/-- The shifts and masks of a machine. -/
theorem u64_bit (x k : Nat) (hx : x < 18446744073709551616) : (Go.bits .and .u64 ((x : Int) / 2 ^ k) 1 == 1) = x.testBit k := by
  have e : ((x : Int) / 2 ^ k) = ((x / 2 ^ k : Nat) : Int) := by simp
  have hd : x / 2 ^ k ≤ x := Nat.div_le_self _ _
  rw [e]
  have := u64_and_nat (x / 2 ^ k) 1 (by omega) (by decide)
  rw [show ((1 : Nat) : Int) = 1 from rfl] at this
  rw [this, Nat.and_one_is_mod, Nat.testBit_eq_decide_div_mod_eq]
  have : ((x / 2 ^ k % 2 : Nat) : Int) = 1 ↔ x / 2 ^ k % 2 = 1 := by omega
  by_cases h : x / 2 ^ k % 2 = 1 <;> simp [h] <;> omega
theorem andNot_zero (x y : Nat) (hx : x < 18446744073709551616) (hy : y < 18446744073709551616) : (x &&& (18446744073709551615 - y) = 0) ↔ y ||| x = y := by
  have hb : ∀ i, (18446744073709551615 - y).testBit i = (decide (i < 64) && !y.testBit i) := fun i => by
    have := Nat.testBit_two_pow_sub_succ (n := 64) (x := y) (by rw [← two64]; exact hy) i
    rw [show 2 ^ 64 - (y + 1) = 18446744073709551615 - y by omega] at this
    exact this
  constructor
  · intro h
    refine Nat.eq_of_testBit_eq fun i => ?_
    have := congrArg (fun z => z.testBit i) h
    simp only [Nat.testBit_and, hb, Nat.zero_testBit] at this
    rw [Nat.testBit_or]
    by_cases hi : i < 64
    · simp [hi] at this
      cases h1 : y.testBit i <;> cases h2 : x.testBit i <;> simp_all
    · have : x.testBit i = false := Nat.testBit_lt_two_pow (Nat.lt_of_lt_of_le hx (by rw [two64]; exact Nat.pow_le_pow_right (by decide) (by omega)))
      rw [this]; simp
  · intro h
    refine Nat.eq_of_testBit_eq fun i => ?_
    have := congrArg (fun z => z.testBit i) h
    simp only [Nat.testBit_or] at this
    rw [Nat.testBit_and, hb, Nat.zero_testBit]
    cases h1 : y.testBit i <;> cases h2 : x.testBit i <;> simp_all
end Go.Proofs.Ytbfhbpibpmgblaa
