/- Cubes, plain, on: what package cube reckons with masks, told by bits. -/
import Derived.Test.YtnaalbcbmhpfjaaCubeR
import Derived.Lib.BitFns
namespace Go.Proofs.Ytnaalbcbmhpfjaa

theorem has_and {a : Cu} (h : a.ok) (l : Nat) : hasC a l = decide (l &&& a.1 = a.2) := by
  have := hasC_and (l := l) h.1 h.2
  by_cases e : l &&& a.1 = a.2
  · rw [this.2 e, decide_eq_true e]
  · rw [decide_eq_false e]
    cases hx : hasC a l with
    | false => rfl
    | true => exact absurd (this.1 hx) e
theorem may_has {a : Cu} (h : a.ok) : mayC a = hasC a a.2 := by
  apply Bool.eq_iff_iff.2
  rw [hasC_and h.1 h.2, mayC_and h.2]
theorem comp_has (a b : Cu) : compC a b = (hasC a (a.2 ||| b.2) && hasC b (a.2 ||| b.2)) := by
  apply Bool.eq_iff_iff.2
  rw [Bool.and_eq_true]
  exact ⟨meet_witness, fun h => comp_of h.1 h.2⟩
theorem within_meet {a b : Cu} (ha : a.ok) (hb : b.ok) (hm : mayC a = true) : inC a b = (compC a b && (meetC a b == a)) := by
  apply Bool.eq_iff_iff.2
  rw [inC_iff ha.2, Bool.and_eq_true, beq_iff_eq]
  constructor
  · intro h
    have hv : hasC a a.2 = true := by rw [← may_has ha]; exact hm
    have hc := comp_of hv (h a.2 ha.2 hv)
    refine ⟨hc, ?_⟩
    have hin := (inC_iff ha.2).2 h
    unfold inC at hin
    rw [hm] at hin
    simp only [Bool.not_true, Bool.false_or, Bool.and_eq_true, allP_iff] at hin
    have hbm := mayC_iff.1 hin.1
    have key : ∀ p, (b.1.testBit p = true → a.1.testBit p = true) ∧ (b.2.testBit p = true → a.2.testBit p = true) := fun p => by
      by_cases hp : p < 8
      · have h1 := hin.2 p hp
        constructor
        · intro hb1; rw [hb1] at h1; simp at h1; exact h1.1
        · intro hb2; have hb1 := hbm p hp hb2; rw [hb1] at h1; simp at h1; rw [h1.2]; exact hb2
      · exact ⟨fun h => (by rw [bit_hi hb.1 (by omega)] at h; cases h), fun h => (by rw [bit_hi hb.2 (by omega)] at h; cases h)⟩
    unfold meetC
    have e1 : a.1 ||| b.1 = a.1 := Nat.eq_of_testBit_eq fun p => by
      rw [Nat.testBit_or]
      cases hx : b.1.testBit p with
      | false => simp
      | true => rw [(key p).1 hx]; rfl
    have e2 : a.2 ||| b.2 = a.2 := Nat.eq_of_testBit_eq fun p => by
      rw [Nat.testBit_or]
      cases hx : b.2.testBit p with
      | false => simp
      | true => rw [(key p).2 hx]; rfl
    rw [e1, e2]
  · intro ⟨hc, he⟩ l _ hal
    have := meet_has hc l
    rw [he, hal] at this
    simpa using this
theorem both_in {a b : Cu} (ha : a.ok) : decide (bothC a b = bothC a a) = inC a b := by
  apply Bool.eq_iff_iff.2
  rw [decide_eq_true_iff, bothC_within, inC_iff ha.2]
theorem both_may {a : Cu} (ha : a.ok) : bothC a a = 0 ↔ mayC a = false := by
  rw [bothC_zero ha.2 ha.2]
  have : compC a a = mayC a := by
    apply Bool.eq_iff_iff.2
    rw [compC_iff]
    exact ⟨fun h => h.1, fun h => ⟨h, h, fun _ _ _ _ => rfl⟩⟩
  rw [this]
theorem shr_zero {x n : Nat} (hx : x < 256) : x / 2 ^ n = 0 ↔ ∀ p, p < 8 → n ≤ p → x.testBit p = false := by
  constructor
  · intro h p _ hn
    have hlt : x < 2 ^ n := by
      rcases Nat.div_eq_zero_iff.1 h with h | h
      · exact absurd h (Nat.ne_of_gt (Nat.two_pow_pos n))
      · exact h
    exact Nat.testBit_lt_two_pow (Nat.lt_of_lt_of_le hlt (Nat.pow_le_pow_right (by decide) hn))
  · intro h
    apply Nat.div_eq_of_lt
    apply Nat.lt_pow_two_of_testBit
    intro p hp
    by_cases h8 : p < 8
    · exact h p h8 hp
    · exact bit_hi hx (by omega)
theorem ofN_shr {n : Nat} {a : Cu} (ha : a.ok) : ofN n a = (mayC a && decide (a.1 / 2 ^ n = 0)) := by
  apply Bool.eq_iff_iff.2
  rw [ofN_iff, Bool.and_eq_true, decide_eq_true_iff, shr_zero ha.1]
/-- Check's answer. -/
def errC (n : Int) (a : Cu) : Int := if 0 ≤ n ∧ n ≤ 8 then (if ofN n.toNat a then 0 else 120) else 2

theorem mask_bit {x p : Nat} : x &&& 2 ^ p = 0 ↔ x.testBit p = false := by
  constructor
  · intro h
    have : (x &&& 2 ^ p).testBit p = false := by rw [h]; simp
    rw [Nat.testBit_and, Nat.testBit_two_pow] at this
    simpa using this
  · intro h
    apply Nat.eq_of_testBit_eq
    intro q
    rw [Nat.testBit_and, Nat.testBit_two_pow]
    by_cases e : p = q
    · subst e; rw [h]; simp
    · simp [e]
theorem not_bit {x p : Nat} (hp : p < 8) (hx : x < 256) : (255 - x).testBit p = !x.testBit p := by
  have := Nat.testBit_two_pow_sub_succ (x := x) (n := 8) hx p
  rw [show (2 : Nat) ^ 8 - (x + 1) = 255 - x by omega] at this
  rw [this]; simp [hp]
theorem free_bit {a b : Cu} (ha : a.ok) {p : Nat} (hp : p < 8) : (b.1 &&& (255 - a.1)) &&& 2 ^ p = 0 ↔ (b.1.testBit p && !a.1.testBit p) = false := by
  rw [mask_bit, Nat.testBit_and, not_bit hp ha.1]
theorem and_pow {x p : Nat} : x &&& 2 ^ p = if x.testBit p then 2 ^ p else 0 := by
  cases hx : x.testBit p with
  | false => rw [mask_bit.2 hx]; rfl
  | true =>
    rw [if_pos rfl]
    apply Nat.eq_of_testBit_eq
    intro q
    rw [Nat.testBit_and, Nat.testBit_two_pow]
    by_cases e : p = q
    · subst e; rw [hx]; simp
    · simp [e]
theorem say_mask (a : Cu) (p l : Nat) : ((a.1 ||| 2 ^ p, a.2 ||| (l &&& 2 ^ p)) : Cu) = sayC a p (l.testBit p) := by
  unfold sayC
  rw [and_pow]
  cases l.testBit p <;> simp
theorem ones_eq {x : Nat} (hx : x < 256) : Go.Lib.onesCount x = onesTo x 8 := by
  have : ∀ i : Fin 256, Go.Lib.onesCount i.val = onesTo i.val 8 := by decide +kernel
  exact this ⟨x, hx⟩
/-- How many letters a cube has, as the program reckons it. -/
theorem count_pow {n : Nat} {a : Cu} (hn : n ≤ 8) (ha : a.ok) (h : ofN n a = true) : Go.Lib.onesCount a.1 ≤ n ∧ (lettersC n a).length = 2 ^ (n - Go.Lib.onesCount a.1) := by
  have h2 := ofN_iff.1 h
  have e := ones_all hn h2.2
  rw [ones_eq ha.1, e]
  exact ⟨onesTo_le _ _, letters_count hn h⟩
end Go.Proofs.Ytnaalbcbmhpfjaa
