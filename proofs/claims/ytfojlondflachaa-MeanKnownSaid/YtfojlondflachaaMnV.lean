/- Plain: the chapter's examples, the rest of them. -/
import Derived.Test.YtfojlondflachaaMnM
namespace Go.Proofs.Ytfojlondflachaa

theorem cl_p (t : List Nat) (p : Nat) (h : takesN (2, p) = some 0) : Cl t [(2, p)] (semT t 2 p []) := Cl.leaf t h
theorem leaf2 (t : List Nat) (p i : Nat) : (semT t 2 p []).1 i ↔ i < t.length ∧ (t.getD i 0).testBit p = true := by
  simp only [semT, leafV]
  simp only [show ¬ (2 = 0) by decide, show ¬ (2 = 1) by decide, if_false, if_true]
theorem p1_at (i : Nat) : (semT tr3 2 1 []).1 i ↔ i = 1 ∨ i = 2 := by
  rw [leaf2]
  constructor
  · rintro ⟨h1, h2⟩
    match i, h1 with
    | 0, _ => exact absurd h2 (by decide)
    | 1, _ => exact Or.inl rfl
    | 2, _ => exact Or.inr rfl
  · rintro (rfl | rfl) <;> decide
theorem p0_at (i : Nat) : (semT tr3 2 0 []).1 i ↔ i = 0 ∨ i = 2 := by
  rw [leaf2]
  constructor
  · rintro ⟨h1, h2⟩
    match i, h1 with
    | 0, _ => exact Or.inl rfl
    | 1, _ => exact absurd h2 (by decide)
    | 2, _ => exact Or.inr rfl
  · rintro (rfl | rfl) <;> decide
theorem four {P : Nat → Prop} {cs : List Bool} {c0 c1 c2 c3 : Bool} (hc : cs = [c0, c1, c2, c3]) (h0 : c0 = true ↔ P 0) (h1 : c1 = true ↔ P 1) (h2 : c2 = true ↔ P 2) (h3 : c3 = true ↔ P 3) : ∀ i (h : i < cs.length), (cs[i] = true ↔ P i) := by
  subst hc
  intro i h
  match i, h with
  | 0, _ => exact h0
  | 1, _ => exact h1
  | 2, _ => exact h2
  | 3, _ => exact h3
theorem kn_p0 {bs : List Bool} (h : ValB tr3 [(2, 0)] bs) : bs = [true, false, true, false] :=
  vals_eq h (cl_p tr3 0 rfl) rfl (four rfl (by simp [p0_at]) (by simp [p0_at]) (by simp [p0_at]) (by simp [p0_at]))
theorem kn_p1 {bs : List Bool} (h : ValB tr3 [(2, 1)] bs) : bs = [false, true, true, false] :=
  vals_eq h (cl_p tr3 1 rfl) rfl (four rfl (by simp [p1_at]) (by simp [p1_at]) (by simp [p1_at]) (by simp [p1_at]))
theorem un1 (op : Nat) (i : Nat) : (semT tr3 op 0 [semT tr3 2 1 []]).1 i ↔ unV 3 op (semT tr3 2 1 []).1 i := Iff.rfl
theorem kn_next {bs : List Bool} (h : ValB tr3 [(2, 1), (7, 0)] bs) : bs = [true, true, false, false] := by
  have hu : ∀ i, unV 3 7 (semT tr3 2 1 []).1 i ↔ i + 1 < 3 ∧ (i + 1 = 1 ∨ i + 1 = 2) := fun i => by simp [unV, p1_at]
  refine vals_eq h ((cl_p tr3 1 rfl).un (op := 7) (p := 0) rfl) rfl (four rfl ?_ ?_ ?_ ?_) <;> (rw [un1, hu]; simp)
theorem kn_weak {bs : List Bool} (h : ValB tr3 [(2, 1), (8, 0)] bs) : bs = [true, true, true, true] := by
  have hu : ∀ i, unV 3 8 (semT tr3 2 1 []).1 i ↔ (i + 1 < 3 → (i + 1 = 1 ∨ i + 1 = 2)) := fun i => by simp [unV, p1_at]
  refine vals_eq h ((cl_p tr3 1 rfl).un (op := 8) (p := 0) rfl) rfl (four rfl ?_ ?_ ?_ ?_) <;> (rw [un1, hu]; simp)
theorem kn_last {bs : List Bool} (h : ValB tr3 [(3, 0)] bs) : bs = [false, false, true, false] := by
  have hu : ∀ i, (semT tr3 3 0 []).1 i ↔ i + 1 = 3 := fun i => by simp [semT, leafV, tr3]
  refine vals_eq h (Cl.leaf tr3 (op := 3) (p := 0) rfl) rfl (four rfl ?_ ?_ ?_ ?_) <;> (rw [hu]; simp)
theorem kn_glob {bs : List Bool} (h : ValB tr3 [(2, 1), (10, 0)] bs) : bs = [false, true, true, true] := by
  have hu : ∀ i, unV 3 10 (semT tr3 2 1 []).1 i ↔ ∀ j, i ≤ j → j < 3 → (j = 1 ∨ j = 2) := fun i => by simp [unV, p1_at]
  refine vals_eq h ((cl_p tr3 1 rfl).un (op := 10) (p := 0) rfl) rfl (four rfl ?_ ?_ ?_ ?_) <;> rw [un1, hu]
  · exact ⟨fun h => (by cases h), fun h => by have := h 0 (by omega) (by omega); omega⟩
  · exact ⟨fun _ j h1 h2 => by omega, fun _ => rfl⟩
  · exact ⟨fun _ j h1 h2 => by omega, fun _ => rfl⟩
  · exact ⟨fun _ j h1 h2 => by omega, fun _ => rfl⟩
theorem un0 (op : Nat) (i : Nat) : (semT tr3 op 0 [semT tr3 2 0 []]).1 i ↔ unV 3 op (semT tr3 2 0 []).1 i := Iff.rfl
theorem kn_fin {bs : List Bool} (h : ValB tr3 [(2, 0), (9, 0)] bs) : bs = [true, true, true, false] := by
  have hu : ∀ i, unV 3 9 (semT tr3 2 0 []).1 i ↔ ∃ j, i ≤ j ∧ j < 3 ∧ (j = 0 ∨ j = 2) := fun i => by simp [unV, p0_at]
  refine vals_eq h ((cl_p tr3 0 rfl).un (op := 9) (p := 0) rfl) rfl (four rfl ?_ ?_ ?_ ?_) <;> rw [un0, hu]
  · exact ⟨fun _ => ⟨0, by omega, by omega, by omega⟩, fun _ => rfl⟩
  · exact ⟨fun _ => ⟨2, by omega, by omega, by omega⟩, fun _ => rfl⟩
  · exact ⟨fun _ => ⟨2, by omega, by omega, by omega⟩, fun _ => rfl⟩
  · exact ⟨fun h => (by cases h), fun ⟨j, h1, h2, _⟩ => by omega⟩
/-- Where the ways of the chapter's path end. -/
theorem kn_ends2 {es : List Nat} (h1 : es.Pairwise (· < ·)) (h2 : ∀ v, Cl tr3 [(2, 0), (19, 0), (23, 0)] v → ∀ k, k ∈ es ↔ (k ≤ tr3.length ∧ v.2 2 k)) : es = [2, 3] := sorted_ext h1 (by decide) fun k => by
  rw [h2 _ cl_star k, star_is, steps2]
  show k ≤ 3 ∧ _ ↔ _
  simp; omega
theorem kn_ends3 {es : List Nat} (h1 : es.Pairwise (· < ·)) (h2 : ∀ v, Cl tr3 [(2, 0), (19, 0), (23, 0)] v → ∀ k, k ∈ es ↔ (k ≤ tr3.length ∧ v.2 3 k)) : es = [3] := sorted_ext h1 (by decide) fun k => by
  rw [h2 _ cl_star k, star_is]
  show k ≤ 3 ∧ _ ↔ _
  constructor
  · rintro ⟨_, m, hm⟩
    have := steps3 m k hm
    simp [this]
  · intro hk
    simp at hk
    subst hk
    exact ⟨Nat.le_refl _, 0, rfl⟩
def tr4 : List Nat := [1, 2, 1]
def satT : List Tk := [(2, 0), (19, 0), (2, 1), (19, 0), (23, 0), (22, 0), (5, 0), (17, 0)]
theorem cl_sat : Cl tr4 satT (semT tr4 17 0 [semT tr4 22 0 [semT tr4 19 0 [semT tr4 2 0 []], semT tr4 23 0 [semT tr4 19 0 [semT tr4 2 1 []]]], semT tr4 5 0 []]) :=
  ((((cl_p tr4 0 rfl).un (op := 19) (p := 0) rfl).bin ((((cl_p tr4 1 rfl).un (op := 19) (p := 0) rfl).un (op := 23) (p := 0) rfl)) (op := 22) (p := 0) rfl).bin (Cl.leaf tr4 (op := 5) (p := 0) rfl) (op := 17) (p := 0) rfl)
theorem way4 {i k : Nat} (h : (semT tr4 19 0 [semT tr4 2 1 []]).2 i k) : i = 1 ∧ k = 2 := by
  have h' : unY 3 19 (semT tr4 2 1 []) i k := h
  simp only [unY, if_true] at h'
  obtain ⟨h1, h2, h3⟩ := h'
  rw [leaf2] at h3
  match i, h2 with
  | 0, _ => exact absurd h3.2 (by decide)
  | 1, _ => exact ⟨rfl, h1⟩
  | 2, _ => exact absurd h3.2 (by decide)
theorem steps4 : ∀ m i k, i ≤ 2 → stepsP (semT tr4 19 0 [semT tr4 2 1 []]).2 m i k → k ≤ 2
  | 0, i, k, hi, h => by have : i = k := h; omega
  | m + 1, i, k, hi, h => by
    obtain ⟨j, h1, h2⟩ := h
    have := way4 h1
    exact steps4 m j k (by omega) h2
theorem kn_sat {b : Bool} (h : ∀ v, Cl tr4 satT v → (b = true ↔ v.1 0)) : b = false := by
  have := h _ cl_sat
  cases b with
  | false => rfl
  | true =>
    have hq := this.1 rfl
    have hq' : ∃ k, (∃ j, unY 3 19 (semT tr4 2 0 []) 0 j ∧ unY 3 23 (semT tr4 19 0 [semT tr4 2 1 []]) j k) ∧ leafV tr4 5 0 k := by
      show ∃ k, (∃ j, unY tr4.length 19 (semT tr4 2 0 []) 0 j ∧ unY tr4.length 23 (semT tr4 19 0 [semT tr4 2 1 []]) j k) ∧ leafV tr4 5 0 k
      simpa [semT, binV, binY] using hq
    obtain ⟨k, ⟨j, h1, h2⟩, h3⟩ := hq'
    simp only [unY, if_true] at h1
    simp only [unY, if_neg (show ¬ (23 = 19) by decide), if_neg (show ¬ (23 = 20) by decide)] at h2
    obtain ⟨m, hm⟩ := h2
    have hk := steps4 m j k (by omega) hm
    simp [leafV, tr4] at h3
    omega
theorem kn_none {bs : List Bool} (h : ValB [] [(2, 0)] bs) : bs = [false] := by
  refine vals_eq h (cl_p [] 0 rfl) rfl fun i hi => ?_
  have hi0 : i = 0 := by simpa using hi
  subst hi0
  rw [leaf2]
  simp
end Go.Proofs.Ytfojlondflachaa
