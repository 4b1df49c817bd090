/- Plain: the numbers that are in a set. -/
import Derived.Test.YtllcjmaecgfijaaDoorKsQ
import Derived.Lib.TrailingZeros
namespace Go.Proofs.YtllcjmaecgfijaaDoor

/-- The numbers in a set, rising. -/
def itemsL (s : Nat) : List Nat := (List.range 64).filter fun i => s.testBit i
theorem itemsL_mem {s i : Nat} : i ∈ itemsL s ↔ i < 64 ∧ s.testBit i = true := by
  unfold itemsL; rw [List.mem_filter, List.mem_range]
theorem itemsL_up (s : Nat) : (itemsL s).Pairwise (· < ·) := List.pairwise_lt_range.filter _
theorem itemsL_zero : itemsL 0 = [] := by
  unfold itemsL
  rw [List.filter_eq_nil_iff]
  intro i _
  rw [Nat.zero_testBit]; simp
theorem itemsL_len (s : Nat) : (itemsL s).length ≤ 64 := by
  unfold itemsL
  exact Nat.le_trans (List.length_filter_le _ _) (by simp)
/-- The least number of a set. -/
theorem low_bits (x : Nat) (h0 : x ≠ 0) (h : x < 2 ^ 64) : Lib.ctz 64 x < 64 ∧ x.testBit (Lib.ctz 64 x) = true ∧ ∀ i, i < Lib.ctz 64 x → x.testBit i = false := by
  obtain ⟨m, hm, hk⟩ := Lib.ctzFrom_spec 64 x (by omega) h
  have e : Lib.ctz 64 x = Lib.ctzFrom 64 x := by simp [Lib.ctz, h0]
  rw [e]
  generalize Lib.ctzFrom 64 x = k at *
  refine ⟨hk, ?_, fun i hi => ?_⟩
  · rw [hm, Nat.mul_comm, Nat.testBit_mul_two_pow]
    simp [Nat.testBit_zero]
  · rw [hm, Nat.mul_comm, Nat.testBit_mul_two_pow]
    simp; omega
/-- The set without one number. -/
def dropB (x k : Nat) : Nat := x &&& (18446744073709551615 - 2 ^ k)
theorem dropB_bit {x k i : Nat} (hk : k < 64) : (dropB x k).testBit i = (x.testBit i && (decide (i < 64) && !decide (k = i))) := by
  unfold dropB
  have hb := Nat.testBit_two_pow_sub_succ (n := 64) (x := 2 ^ k) (Nat.pow_lt_pow_right (by decide) hk) i
  rw [show 2 ^ 64 - (2 ^ k + 1) = 18446744073709551615 - 2 ^ k by omega] at hb
  rw [Nat.testBit_and, hb, Nat.testBit_two_pow]
theorem dropB_le (x k : Nat) : dropB x k ≤ x := Nat.and_le_left
theorem dropB_lt {x k : Nat} (hk : k < 64) (h : x.testBit k = true) : dropB x k < x := by
  refine Nat.lt_of_le_of_ne (dropB_le x k) fun e => ?_
  have := dropB_bit (x := x) (k := k) (i := k) hk
  rw [e, h] at this
  simp at this
theorem items_step {x : Nat} (h0 : x ≠ 0) (h : x < 2 ^ 64) : itemsL x = Lib.ctz 64 x :: itemsL (dropB x (Lib.ctz 64 x)) := by
  obtain ⟨hk, hb, hl⟩ := low_bits x h0 h
  generalize Lib.ctz 64 x = k at *
  refine rising_ext (itemsL_up x) (List.pairwise_cons.2 ⟨fun i hi => ?_, itemsL_up _⟩) fun i => ?_
  · obtain ⟨h1, h2⟩ := itemsL_mem.1 hi
    rw [dropB_bit hk] at h2
    simp at h2
    have h3 : ¬ i < k := fun hlt => by rw [hl i hlt] at h2; simp at h2
    omega
  · rw [List.mem_cons, itemsL_mem, itemsL_mem, dropB_bit hk]
    constructor
    · rintro ⟨h1, h2⟩
      by_cases e : i = k
      · exact Or.inl e
      · refine Or.inr ⟨h1, ?_⟩
        rw [h2, decide_eq_true h1, decide_eq_false (by omega)]; rfl
    · rintro (rfl | ⟨h1, h2⟩)
      · exact ⟨hk, hb⟩
      · exact ⟨h1, by rw [Bool.and_eq_true] at h2; exact h2.1⟩
theorem hoP_items {s held : Nat} (h : s < 2 ^ 64) : Wi s held ↔ ∀ i ∈ itemsL s, held.testBit i = true := by
  rw [wi_iff]
  constructor
  · intro k i hi
    exact k i (itemsL_mem.1 hi).2
  · intro k i hi
    refine k i (itemsL_mem.2 ⟨?_, hi⟩)
    apply Nat.lt_of_not_le
    intro hle
    rw [Nat.testBit_lt_two_pow (Nat.lt_of_lt_of_le h (Nat.pow_le_pow_right (by decide) hle))] at hi
    cases hi
end Go.Proofs.YtllcjmaecgfijaaDoor
