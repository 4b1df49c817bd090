/- Plain: what is satisfied at a place hangs on the letters from there on alone. -/
import Derived.Test.YtmnkkknkmbldhaaMnP
namespace Go.Proofs.Ytmnkkknkmbldhaa

theorem steps_shift {w u : Nat → Nat → Prop} {k n : Nat} (hw : ∀ i j, i + k ≤ n → (u i j ↔ w (i + k) (j + k))) (hin : ∀ i j, i ≤ n → w i j → i ≤ j ∧ j ≤ n) : ∀ (m i j : Nat), i + k ≤ n → (stepsP u m i j ↔ stepsP w m (i + k) (j + k))
  | 0, i, j, _ => by show i = j ↔ i + k = j + k; omega
  | m + 1, i, j, hi => by
    constructor
    · rintro ⟨l, h1, h2⟩
      have h1' := (hw i l hi).1 h1
      have := hin _ _ hi h1'
      exact ⟨l + k, h1', (steps_shift hw hin m l j this.2).1 h2⟩
    · rintro ⟨l, h1, h2⟩
      have hl := hin _ _ hi h1
      obtain ⟨q, rfl⟩ : ∃ q, l = q + k := ⟨l - k, by omega⟩
      exact ⟨q, (hw i q hi).2 h1, (steps_shift hw hin m q j hl.2).2 h2⟩
theorem cut_sem (t : List Nat) (k : Nat) (hk : k ≤ t.length) : ∀ T : Tr, T.WF → ∀ i, i + k ≤ t.length → ((semTr (t.drop k) T).1 i ↔ (semTr t T).1 (i + k)) ∧ ∀ j, ((semTr (t.drop k) T).2 i j ↔ (semTr t T).2 (i + k) (j + k))
  | .leaf q, _, i, hi => by
    have hl : (t.drop k).length = t.length - k := by simp
    refine ⟨?_, fun j => by simp [semTr, semT]⟩
    simp only [semTr, semT, leafV, hl]
    have hg : (t.drop k).getD i 0 = t.getD (i + k) 0 := by simp [List.getD_eq_getElem?_getD, Nat.add_comm]
    rw [hg]
    split
    · exact Iff.rfl
    · split
      · exact Iff.rfl
      · split
        · constructor <;> (rintro ⟨h1, h2⟩; exact ⟨by omega, h2⟩)
        · split
          · omega
          · split <;> omega
  | .un q c, hT, i, hi => by
    have hl : (t.drop k).length = t.length - k := by simp
    have ih := cut_sem t k hk c hT.2.2
    refine ⟨?_, fun j => ?_⟩
    · simp only [semTr, semT, unV, hl]
      split
      · rw [(ih i hi).1]
      · split
        · constructor
          · rintro ⟨h1, h2⟩
            exact ⟨by omega, by have := ((ih (i + 1) (by omega)).1).1 h2; rwa [show i + 1 + k = i + k + 1 by omega] at this⟩
          · rintro ⟨h1, h2⟩
            refine ⟨by omega, ((ih (i + 1) (by omega)).1).2 ?_⟩
            rwa [show i + 1 + k = i + k + 1 by omega]
        · split
          · constructor
            · intro h h1
              have := ((ih (i + 1) (by omega)).1).1 (h (by omega)); rwa [show i + 1 + k = i + k + 1 by omega] at this
            · intro h h1
              refine ((ih (i + 1) (by omega)).1).2 ?_
              rw [show i + 1 + k = i + k + 1 by omega]; exact h (by omega)
          · split
            · constructor
              · rintro ⟨j, h1, h2, h3⟩; exact ⟨j + k, by omega, by omega, ((ih j (by omega)).1).1 h3⟩
              · rintro ⟨j, h1, h2, h3⟩
                obtain ⟨j, rfl⟩ : ∃ q, j = q + k := ⟨j - k, by omega⟩
                exact ⟨j, by omega, by omega, ((ih j (by omega)).1).2 h3⟩
            · constructor
              · intro h j h1 h2
                obtain ⟨j, rfl⟩ : ∃ q, j = q + k := ⟨j - k, by omega⟩
                exact ((ih j (by omega)).1).1 (h j (by omega) (by omega))
              · intro h j h1 h2; exact ((ih j (by omega)).1).2 (h (j + k) (by omega) (by omega))
    · simp only [semTr, semT, unY, hl]
      split
      · constructor
        · rintro ⟨h1, h2, h3⟩; exact ⟨by omega, by omega, (ih i hi).1.1 h3⟩
        · rintro ⟨h1, h2, h3⟩; exact ⟨by omega, by omega, (ih i hi).1.2 h3⟩
      · split
        · constructor
          · rintro ⟨h1, h2⟩; exact ⟨by omega, (ih i hi).1.1 h2⟩
          · rintro ⟨h1, h2⟩; exact ⟨by omega, (ih i hi).1.2 h2⟩
        · have hs := fun m => steps_shift (u := (semTr (t.drop k) c).2) (w := (semTr t c).2) (k := k) (n := t.length) (fun a b ha => (ih a ha).2 b) (ways_in t c hT.2.2) m i j hi
          constructor
          · rintro ⟨m, h⟩; exact ⟨m, (hs m).1 h⟩
          · rintro ⟨m, h⟩; exact ⟨m, (hs m).2 h⟩
  | .bin q c d, hT, i, hi => by
    have hl : (t.drop k).length = t.length - k := by simp
    have ic := cut_sem t k hk c hT.2.2.1
    have id := cut_sem t k hk d hT.2.2.2
    have wc := ways_in t c hT.2.2.1
    have wd := ways_in t d hT.2.2.2
    refine ⟨?_, fun j => ?_⟩
    · simp only [semTr, semT, binV, hl]
      split
      · rw [(ic i hi).1, (id i hi).1]
      · split
        · rw [(ic i hi).1, (id i hi).1]
        · split
          · rw [(ic i hi).1, (id i hi).1]
          · split
            · rw [(ic i hi).1, (id i hi).1]
            · split
              · constructor
                · rintro ⟨j, h1, h2, h3, h4⟩
                  refine ⟨j + k, by omega, by omega, (id j (by omega)).1.1 h3, fun l l1 l2 => ?_⟩
                  obtain ⟨l, rfl⟩ : ∃ q, l = q + k := ⟨l - k, by omega⟩
                  exact (ic l (by omega)).1.1 (h4 l (by omega) (by omega))
                · rintro ⟨j, h1, h2, h3, h4⟩
                  obtain ⟨j, rfl⟩ : ∃ q, j = q + k := ⟨j - k, by omega⟩
                  exact ⟨j, by omega, by omega, (id j (by omega)).1.2 h3, fun l l1 l2 => (ic l (by omega)).1.2 (h4 (l + k) (by omega) (by omega))⟩
              · split
                · constructor
                  · intro h j h1 h2
                    obtain ⟨j, rfl⟩ : ∃ q, j = q + k := ⟨j - k, by omega⟩
                    rcases h j (by omega) (by omega) with h | ⟨l, l1, l2, l3⟩
                    · exact Or.inl ((id j (by omega)).1.1 h)
                    · exact Or.inr ⟨l + k, by omega, by omega, (ic l (by omega)).1.1 l3⟩
                  · intro h j h1 h2
                    rcases h (j + k) (by omega) (by omega) with h | ⟨l, l1, l2, l3⟩
                    · exact Or.inl ((id j (by omega)).1.2 h)
                    · obtain ⟨l, rfl⟩ : ∃ q, l = q + k := ⟨l - k, by omega⟩
                      exact Or.inr ⟨l, by omega, by omega, (ic l (by omega)).1.2 l3⟩
                · split
                  · constructor
                    · rintro ⟨j, h1, h2⟩
                      have h1' := ((ic i hi).2 j).1 h1
                      have := wc _ _ hi h1'
                      exact ⟨j + k, h1', (id j this.2).1.1 h2⟩
                    · rintro ⟨j, h1, h2⟩
                      have := wc _ _ hi h1
                      obtain ⟨j, rfl⟩ : ∃ q, j = q + k := ⟨j - k, by omega⟩
                      exact ⟨j, ((ic i hi).2 j).2 h1, (id j this.2).1.2 h2⟩
                  · constructor
                    · intro h j h1
                      have := wc _ _ hi h1
                      obtain ⟨j, rfl⟩ : ∃ q, j = q + k := ⟨j - k, by omega⟩
                      exact (id j this.2).1.1 (h j (((ic i hi).2 j).2 h1))
                    · intro h j h1
                      have h1' := ((ic i hi).2 j).1 h1
                      have := wc _ _ hi h1'
                      exact (id j this.2).1.2 (h (j + k) h1')
    · simp only [semTr, semT, binY]
      split
      · rw [(ic i hi).2 j, (id i hi).2 j]
      · constructor
        · rintro ⟨l, h1, h2⟩
          have h1' := ((ic i hi).2 l).1 h1
          have := wc _ _ hi h1'
          exact ⟨l + k, h1', ((id l this.2).2 j).1 h2⟩
        · rintro ⟨l, h1, h2⟩
          have := wc _ _ hi h1
          obtain ⟨l, rfl⟩ : ∃ q, l = q + k := ⟨l - k, by omega⟩
          exact ⟨l, ((ic i hi).2 l).2 h1, ((id l this.2).2 j).2 h2⟩
end Go.Proofs.Ytmnkkknkmbldhaa
