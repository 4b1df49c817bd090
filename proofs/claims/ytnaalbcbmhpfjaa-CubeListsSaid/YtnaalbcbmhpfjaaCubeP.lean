/- Cubes, plain: a pair of numbers below 256, care and value; which letters it has, two cubes' meet, one within another, one without another. -/
import Derived.WalkKit
namespace Go.Proofs.Ytnaalbcbmhpfjaa

/-- Of all propositions: a fact of bits below 8, in one word. -/
def allP (f : Nat → Bool) : Bool := (List.range 8).all f
theorem allP_iff {f : Nat → Bool} : allP f = true ↔ ∀ p, p < 8 → f p = true := by
  unfold allP; rw [List.all_eq_true]; simp
theorem allP_false {f : Nat → Bool} : allP f = false ↔ ∃ p, p < 8 ∧ f p = false := by
  unfold allP; rw [List.all_eq_false]; simp

abbrev Cu := Nat × Nat
def Cu.ok (a : Cu) : Prop := a.1 < 256 ∧ a.2 < 256
def mayC (a : Cu) : Bool := allP fun p => !a.2.testBit p || a.1.testBit p
def hasC (a : Cu) (l : Nat) : Bool := mayC a && allP fun p => !a.1.testBit p || (a.2.testBit p == l.testBit p)

theorem bit_hi {x p : Nat} (h : x < 256) (hp : 8 ≤ p) : x.testBit p = false :=
  Nat.testBit_lt_two_pow (Nat.lt_of_lt_of_le h (Nat.pow_le_pow_right (n := 2) (by decide) hp : 2 ^ 8 ≤ 2 ^ p))
theorem mayC_iff {a : Cu} : mayC a = true ↔ ∀ p, p < 8 → a.2.testBit p = true → a.1.testBit p = true := by
  unfold mayC; rw [allP_iff]
  constructor
  · intro h p hp h2; have := h p hp; rw [h2] at this; simpa using this
  · intro h p hp
    cases h2 : a.2.testBit p with
    | false => rfl
    | true => rw [h p hp h2]; rfl
theorem hasC_iff {a : Cu} {l : Nat} : hasC a l = true ↔ mayC a = true ∧ ∀ p, p < 8 → a.1.testBit p = true → a.2.testBit p = l.testBit p := by
  unfold hasC; rw [Bool.and_eq_true, allP_iff]
  refine and_congr Iff.rfl ⟨fun h p hp h2 => ?_, fun h p hp => ?_⟩
  · have := h p hp; rw [h2] at this; simpa using this
  · cases h2 : a.1.testBit p with
    | false => rfl
    | true => rw [h p hp h2]; simp
theorem mayC_and {a : Cu} (h2 : a.2 < 256) : mayC a = true ↔ a.2 &&& a.1 = a.2 := by
  rw [mayC_iff]
  constructor
  · intro h
    apply Nat.eq_of_testBit_eq
    intro p
    rw [Nat.testBit_and]
    by_cases hp : p < 8
    · cases hv : a.2.testBit p with
      | false => rfl
      | true => rw [h p hp hv]; rfl
    · rw [bit_hi h2 (by omega)]; rfl
  · intro h p _ hv
    rw [← h, Nat.testBit_and, Bool.and_eq_true] at hv
    exact hv.2
theorem hasC_and {a : Cu} {l : Nat} (h1 : a.1 < 256) (h2 : a.2 < 256) : hasC a l = true ↔ l &&& a.1 = a.2 := by
  rw [hasC_iff, mayC_iff]
  constructor
  · intro ⟨hm, h⟩
    apply Nat.eq_of_testBit_eq
    intro p
    rw [Nat.testBit_and]
    by_cases hp : p < 8
    · cases hc : a.1.testBit p with
      | false =>
        cases hv : a.2.testBit p with
        | false => simp
        | true => rw [hm p hp hv] at hc; cases hc
      | true => rw [h p hp hc]; simp
    · rw [bit_hi h2 (by omega), bit_hi h1 (by omega)]; simp
  · intro h
    have hb : ∀ p, a.2.testBit p = (l.testBit p && a.1.testBit p) := fun p => by rw [← h, Nat.testBit_and]
    refine ⟨fun p _ hv => ?_, fun p _ hc => ?_⟩
    · rw [hb p, Bool.and_eq_true] at hv; exact hv.2
    · rw [hb p, hc]; simp
/-- Two cubes have a letter in common. -/
def compC (a b : Cu) : Bool := mayC a && mayC b && allP fun p => !(a.1.testBit p && b.1.testBit p) || (a.2.testBit p == b.2.testBit p)
theorem compC_iff {a b : Cu} : compC a b = true ↔ mayC a = true ∧ mayC b = true ∧ ∀ p, p < 8 → a.1.testBit p = true → b.1.testBit p = true → a.2.testBit p = b.2.testBit p := by
  unfold compC; rw [Bool.and_eq_true, Bool.and_eq_true, allP_iff, and_assoc]
  refine and_congr Iff.rfl (and_congr Iff.rfl ⟨fun h p hp h1 h2 => ?_, fun h p hp => ?_⟩)
  · have := h p hp; rw [h1, h2] at this; simpa using this
  · cases h1 : a.1.testBit p with
    | false => rfl
    | true =>
      cases h2 : b.1.testBit p with
      | false => rfl
      | true => rw [h p hp h1 h2]; simp
def meetC (a b : Cu) : Cu := (a.1 ||| b.1, a.2 ||| b.2)
theorem or_lt {x y : Nat} (hx : x < 256) (hy : y < 256) : x ||| y < 256 := Nat.or_lt_two_pow (n := 8) hx hy
theorem meet_has {a b : Cu} (h : compC a b = true) (l : Nat) : hasC (meetC a b) l = (hasC a l && hasC b l) := by
  rw [compC_iff] at h
  obtain ⟨ha, hb, hc⟩ := h
  have ha' := mayC_iff.1 ha
  have hb' := mayC_iff.1 hb
  rw [Bool.eq_iff_iff, Bool.and_eq_true, hasC_iff, hasC_iff, hasC_iff]
  unfold meetC
  simp only [Nat.testBit_or]
  constructor
  · intro ⟨hm, h⟩
    refine ⟨⟨ha, fun p hp h1 => ?_⟩, ⟨hb, fun p hp h1 => ?_⟩⟩
    · rw [← h p hp (by rw [h1]; rfl)]
      cases hv : b.2.testBit p with
      | false => simp
      | true => rw [hc p hp h1 (hb' p hp hv), hv]; rfl
    · rw [← h p hp (by rw [h1]; simp)]
      cases hv : a.2.testBit p with
      | false => simp
      | true => rw [← hc p hp (ha' p hp hv) h1, hv]; rfl
  · intro ⟨⟨_, h1⟩, ⟨_, h2⟩⟩
    refine ⟨mayC_iff.2 fun p hp hv => ?_, fun p hp hv => ?_⟩
    · simp only [Nat.testBit_or, Bool.or_eq_true] at hv ⊢
      rcases hv with hv | hv
      · exact Or.inl (ha' p hp hv)
      · exact Or.inr (hb' p hp hv)
    · rw [Bool.or_eq_true] at hv
      by_cases hca : a.1.testBit p = true
      · rw [h1 p hp hca]
        cases hvb : b.2.testBit p with
        | false => simp
        | true => rw [← h2 p hp (hb' p hp hvb), hvb]; rfl
      · have hcb : b.1.testBit p = true := by rcases hv with h | h; exact absurd h hca; exact h
        have hva : a.2.testBit p = false := by
          cases hx : a.2.testBit p with
          | false => rfl
          | true => exact absurd (ha' p hp hx) hca
        rw [hva, h2 p hp hcb]; simp
theorem meet_witness {a b : Cu} (h : compC a b = true) : hasC a (a.2 ||| b.2) = true ∧ hasC b (a.2 ||| b.2) = true := by
  have hm := meet_has h (a.2 ||| b.2)
  have : hasC (meetC a b) (a.2 ||| b.2) = true := by
    rw [hasC_iff]
    rw [compC_iff] at h
    refine ⟨mayC_iff.2 fun p hp hv => ?_, fun p _ _ => rfl⟩
    unfold meetC at hv ⊢
    simp only [Nat.testBit_or, Bool.or_eq_true] at hv ⊢
    rcases hv with hv | hv
    · exact Or.inl (mayC_iff.1 h.1 p hp hv)
    · exact Or.inr (mayC_iff.1 h.2.1 p hp hv)
  rw [this] at hm
  rw [← Bool.and_eq_true]; exact hm.symm
theorem comp_of {a b : Cu} {l : Nat} (h1 : hasC a l = true) (h2 : hasC b l = true) : compC a b = true := by
  rw [hasC_iff] at h1 h2
  rw [compC_iff]
  exact ⟨h1.1, h2.1, fun p hp ha hb => by rw [h1.2 p hp ha, h2.2 p hp hb]⟩

/-- How many letters two cubes have in common. -/
def bothTo (a b : Cu) (k : Nat) : Nat := (List.range k).countP fun l => hasC a l && hasC b l
theorem bothTo_succ (a b : Cu) (k : Nat) : bothTo a b (k + 1) = bothTo a b k + (if hasC a k && hasC b k then 1 else 0) := by
  unfold bothTo; rw [List.range_succ, List.countP_append]; simp [List.countP_cons]
def bothC (a b : Cu) : Nat := bothTo a b 256
theorem bothTo_le (a b : Cu) : ∀ k, bothTo a b k ≤ k
  | 0 => by simp [bothTo]
  | k + 1 => by rw [bothTo_succ]; have := bothTo_le a b k; split <;> omega
theorem bothC_zero {a b : Cu} (ha : a.2 < 256) (hb : b.2 < 256) : bothC a b = 0 ↔ compC a b = false := by
  unfold bothC bothTo
  rw [List.countP_eq_zero]
  constructor
  · intro h
    cases hc : compC a b with
    | false => rfl
    | true =>
      have hw := meet_witness hc
      have := h (a.2 ||| b.2) (List.mem_range.2 (or_lt ha hb))
      rw [hw.1, hw.2] at this
      exact absurd rfl this
  · intro h l _ hl
    rw [Bool.and_eq_true] at hl
    rw [comp_of hl.1 hl.2] at h; cases h
theorem bothC_within {a b : Cu} : bothC a b = bothC a a ↔ ∀ l, l < 256 → hasC a l = true → hasC b l = true := by
  have key : ∀ k, bothTo a b k ≤ bothTo a a k ∧ (bothTo a b k = bothTo a a k ↔ ∀ l, l < k → hasC a l = true → hasC b l = true) := by
    intro k
    induction k with
    | zero => exact ⟨Nat.le_refl _, by simp [bothTo]⟩
    | succ k ih =>
      rw [bothTo_succ, bothTo_succ]
      cases ha : hasC a k with
      | false =>
        simp only [Bool.false_and, Bool.false_eq_true, if_false, Nat.add_zero]
        refine ⟨ih.1, ih.2.trans ⟨fun h l hl hal => ?_, fun h l hl => h l (by omega)⟩⟩
        by_cases e : l = k
        · subst e; rw [ha] at hal; cases hal
        · exact h l (by omega) hal
      | true =>
        cases hb : hasC b k with
        | false =>
          simp only [Bool.true_and, Bool.false_eq_true, if_false, if_true, Nat.add_zero]
          refine ⟨by have := ih.1; omega, ⟨fun h => by have := ih.1; omega, fun h => ?_⟩⟩
          have := h k (by omega) ha; rw [hb] at this; cases this
        | true =>
          simp only [Bool.true_and, if_true]
          refine ⟨by have := ih.1; omega, ⟨fun h l hl hal => ?_, fun h => ?_⟩⟩
          · by_cases e : l = k
            · subst e; exact hb
            · exact ih.2.1 (by omega) l (by omega) hal
          · have := ih.2.2 (fun l hl => h l (by omega)); omega
  exact (key 256).2
/-- Whether each letter of a is b's, told by bits. -/
def inC (a b : Cu) : Bool := !mayC a || (mayC b && allP fun p => !b.1.testBit p || (a.1.testBit p && (a.2.testBit p == b.2.testBit p)))
theorem inC_iff {a b : Cu} (ha : a.2 < 256) : inC a b = true ↔ ∀ l, l < 256 → hasC a l = true → hasC b l = true := by
  unfold inC
  cases hm : mayC a with
  | false =>
    simp only [Bool.not_false, Bool.true_or, true_iff]
    intro l _ h; rw [hasC_iff, hm] at h; cases h.1
  | true =>
    simp only [Bool.not_true, Bool.false_or, Bool.and_eq_true, allP_iff]
    constructor
    · intro ⟨hb, h⟩ l _ hal
      rw [hasC_iff] at hal ⊢
      refine ⟨hb, fun p hp hc => ?_⟩
      have := h p hp
      rw [hc] at this
      simp at this
      rw [← hal.2 p hp this.1, this.2]
    · intro h
      have hv : hasC a a.2 = true := hasC_iff.2 ⟨hm, fun p _ _ => rfl⟩
      have hb := h a.2 ha hv
      rw [hasC_iff] at hb
      refine ⟨hb.1, fun p hp => ?_⟩
      cases hc : b.1.testBit p with
      | false => rfl
      | true =>
        have e := hb.2 p hp hc
        cases hca : a.1.testBit p with
        | true => rw [e]; simp
        | false =>
          -- the letter with the other bit at p is a's too
          have h2 : hasC a (a.2 ^^^ 2 ^ p) = true := hasC_iff.2 ⟨hm, fun q hq hqc => by
            have hne : q ≠ p := fun e => by subst e; rw [hca] at hqc; cases hqc
            rw [Nat.testBit_xor, Nat.testBit_two_pow]; simp [Ne.symm hne]⟩
          have hlt : a.2 ^^^ 2 ^ p < 256 := Nat.xor_lt_two_pow (n := 8) ha (Nat.pow_lt_pow_right (by decide) hp)
          have hb2 := h _ hlt h2
          rw [hasC_iff] at hb2
          have e2 := hb2.2 p hp hc
          rw [Nat.testBit_xor, Nat.testBit_two_pow, e] at e2
          simp at e2
end Go.Proofs.Ytnaalbcbmhpfjaa
