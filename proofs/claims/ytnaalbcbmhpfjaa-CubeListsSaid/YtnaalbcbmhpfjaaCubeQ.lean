/- Cubes, plain, on: one without another; the letters of a cube and how many they are. -/
import Derived.Test.YtnaalbcbmhpfjaaCubeP
namespace Go.Proofs.Ytnaalbcbmhpfjaa

def sayC (a : Cu) (p : Nat) (b : Bool) : Cu := (a.1 ||| 2 ^ p, if b then a.2 ||| 2 ^ p else a.2)
theorem say_care (a : Cu) (p : Nat) (b : Bool) (q : Nat) : (sayC a p b).1.testBit q = (a.1.testBit q || decide (p = q)) := by
  unfold sayC; simp only [Nat.testBit_or, Nat.testBit_two_pow]
theorem say_value (a : Cu) (p : Nat) (b : Bool) (q : Nat) : (sayC a p b).2.testBit q = (a.2.testBit q || (b && decide (p = q))) := by
  unfold sayC; cases b <;> simp [Nat.testBit_two_pow]
theorem say_ok {a : Cu} (h : a.ok) {p : Nat} (hp : p < 8) (b : Bool) : (sayC a p b).ok := by
  have h2 : 2 ^ p < 256 := Nat.pow_lt_pow_right (a := 2) (n := 8) (by decide) hp
  unfold sayC Cu.ok
  refine ⟨or_lt h.1 h2, ?_⟩
  cases b
  · exact h.2
  · exact or_lt h.2 h2
theorem say_may {a : Cu} (h : mayC a = true) (p : Nat) (b : Bool) : mayC (sayC a p b) = true := by
  rw [mayC_iff] at h ⊢
  intro q hq hv
  rw [say_value, Bool.or_eq_true] at hv
  rw [say_care, Bool.or_eq_true]
  rcases hv with hv | hv
  · exact Or.inl (h q hq hv)
  · rw [Bool.and_eq_true] at hv; exact Or.inr hv.2
/-- A cube with a free proposition said: its letters that say so. -/
theorem say_has {a : Cu} (h : mayC a = true) {p : Nat} (hp : p < 8) (hf : a.1.testBit p = false) (b : Bool) (l : Nat) : hasC (sayC a p b) l = (hasC a l && (l.testBit p == b)) := by
  have hv : a.2.testBit p = false := by
    cases hx : a.2.testBit p with
    | false => rfl
    | true => rw [mayC_iff.1 h p hp hx] at hf; cases hf
  rw [Bool.eq_iff_iff, Bool.and_eq_true, hasC_iff, hasC_iff]
  constructor
  · intro ⟨_, h2⟩
    refine ⟨⟨h, fun q hq hc => ?_⟩, ?_⟩
    · have hne : p ≠ q := fun e => by subst e; rw [hf] at hc; cases hc
      have := h2 q hq (by rw [say_care, hc]; rfl)
      rw [say_value] at this
      simpa [hne] using this
    · have := h2 p hp (by rw [say_care]; simp)
      rw [say_value, hv] at this
      simp at this; rw [← this]; simp
  · intro ⟨⟨_, h2⟩, h3⟩
    refine ⟨say_may h p b, fun q hq hc => ?_⟩
    rw [say_value]
    by_cases hne : p = q
    · subst hne; rw [hv]; simp at h3 ⊢; exact h3.symm
    · rw [say_care] at hc
      simp [hne] at hc ⊢
      exact h2 q hq hc

def minusGo (b : Cu) : List Nat → Cu → List Cu
  | [], _ => []
  | p :: ps, a => if b.1.testBit p && !a.1.testBit p then sayC a p (!b.2.testBit p) :: minusGo b ps (sayC a p (b.2.testBit p)) else minusGo b ps a
def minusC (a b : Cu) : List Cu := if mayC a = false then [] else if compC a b = false then [a] else minusGo b (List.range 8) a
/-- Where a letter of a parts from b at one of these propositions. -/
def parts (b : Cu) (ps : List Nat) (a : Cu) (l : Nat) : Bool := ps.any fun p => b.1.testBit p && !a.1.testBit p && (b.2.testBit p != l.testBit p)
theorem minusGo_count (b : Cu) (l : Nat) : ∀ (ps : List Nat) (a : Cu), ps.Nodup → (∀ p ∈ ps, p < 8) → mayC a = true → (minusGo b ps a).countP (fun c => hasC c l) = if hasC a l && parts b ps a l then 1 else 0
  | [], a, _, _, _ => by simp [minusGo, parts]
  | p :: ps, a, hn, hp, hm => by
    have hp8 := hp p List.mem_cons_self
    have hn' := List.nodup_cons.1 hn
    have ht := fun q hq => hp q (List.mem_cons_of_mem _ hq)
    unfold minusGo
    cases hc : (b.1.testBit p && !a.1.testBit p) with
    | false =>
      rw [if_neg (by simp), minusGo_count b l ps a hn'.2 ht hm]
      have : parts b (p :: ps) a l = parts b ps a l := by unfold parts; rw [List.any_cons, hc]; rfl
      rw [this]
    | true =>
      rw [if_pos rfl, List.countP_cons, minusGo_count b l ps _ hn'.2 ht (say_may hm _ _)]
      rw [Bool.and_eq_true] at hc
      have hf : a.1.testBit p = false := by simpa using hc.2
      have hpt : ∀ x, parts b ps (sayC a p x) l = parts b ps a l := fun x => by
        unfold parts
        apply Bool.eq_iff_iff.2
        rw [List.any_eq_true, List.any_eq_true]
        have e : ∀ q ∈ ps, (sayC a p x).1.testBit q = a.1.testBit q := fun q hq => by
          have hne : p ≠ q := fun e => hn'.1 (by rw [e]; exact hq)
          rw [say_care]; simp [hne]
        constructor
        · rintro ⟨q, hq, h⟩; exact ⟨q, hq, by rw [e q hq] at h; exact h⟩
        · rintro ⟨q, hq, h⟩; exact ⟨q, hq, by rw [e q hq]; exact h⟩
      have hpc : parts b (p :: ps) a l = ((b.2.testBit p != l.testBit p) || parts b ps a l) := by
        unfold parts; rw [List.any_cons, hc.1, hf]; simp
      rw [hpt, hpc, say_has hm hp8 hf, say_has hm hp8 hf]
      cases hasC a l <;> cases b.2.testBit p <;> cases l.testBit p <;> cases parts b ps a l <;> simp
theorem parts_all {a b : Cu} (hc : compC a b = true) {l : Nat} (hl : hasC a l = true) : parts b (List.range 8) a l = !hasC b l := by
  rw [compC_iff] at hc
  rw [hasC_iff] at hl
  apply Bool.eq_iff_iff.2
  unfold parts
  rw [List.any_eq_true, Bool.not_eq_true']
  constructor
  · rintro ⟨p, hp, h⟩
    cases hb : hasC b l with
    | false => rfl
    | true =>
      rw [hasC_iff] at hb
      simp only [Bool.and_eq_true] at h
      have := hb.2 p (List.mem_range.1 hp) h.1.1
      rw [this] at h; simp at h
  · intro h
    have : ¬ (∀ p, p < 8 → b.1.testBit p = true → b.2.testBit p = l.testBit p) := fun hx => by
      have := (hasC_iff (a := b) (l := l)).2 ⟨hc.2.1, hx⟩; rw [h] at this; cases this
    have ⟨p, hp⟩ := Classical.not_forall.1 this
    have ⟨hp8, hp⟩ := Classical.not_imp.1 hp
    have ⟨hbc, hp⟩ := Classical.not_imp.1 hp
    refine ⟨p, List.mem_range.2 hp8, ?_⟩
    cases ha : a.1.testBit p with
    | true => exact absurd (by rw [← hc.2.2 p hp8 ha hbc, hl.2 p hp8 ha]) hp
    | false => rw [hbc]; simpa using hp
/-- What is left is had once, and is just that. -/
theorem minus_count (a b : Cu) (l : Nat) : (minusC a b).countP (fun c => hasC c l) = if hasC a l && !hasC b l then 1 else 0 := by
  unfold minusC
  cases hm : mayC a with
  | false =>
    have : hasC a l = false := by unfold hasC; rw [hm]; rfl
    rw [if_pos rfl, this]; rfl
  | true =>
    rw [if_neg (by simp)]
    cases hc : compC a b with
    | false =>
      rw [if_pos rfl]
      cases ha : hasC a l with
      | false => simp [ha]
      | true =>
        cases hb : hasC b l with
        | false => simp [ha]
        | true => rw [comp_of ha hb] at hc; cases hc
    | true =>
      rw [if_neg (by simp), minusGo_count b l (List.range 8) a List.nodup_range (fun p hp => List.mem_range.1 hp) hm]
      cases ha : hasC a l with
      | false => simp
      | true => rw [parts_all hc ha]
theorem minusGo_len (b : Cu) : ∀ (ps : List Nat) (a : Cu), (minusGo b ps a).length ≤ ps.length
  | [], a => by simp [minusGo]
  | p :: ps, a => by
    unfold minusGo
    split
    · have := minusGo_len b ps (sayC a p (b.2.testBit p)); simp; omega
    · have := minusGo_len b ps a; simp; omega
theorem minusGo_ok {b : Cu} : ∀ (ps : List Nat) (a : Cu), (∀ p ∈ ps, p < 8) → a.ok → ∀ c ∈ minusGo b ps a, c.ok
  | [], a, _, _ => by simp [minusGo]
  | p :: ps, a, hp, ha => by
    have hp8 := hp p List.mem_cons_self
    have ht := fun q hq => hp q (List.mem_cons_of_mem _ hq)
    unfold minusGo
    split
    · intro c hc
      rcases List.mem_cons.1 hc with rfl | hc
      · exact say_ok ha hp8 _
      · exact minusGo_ok ps _ ht (say_ok ha hp8 _) c hc
    · exact minusGo_ok ps a ht ha
theorem minus_ok {a b : Cu} (ha : a.ok) : ∀ c ∈ minusC a b, c.ok := by
  unfold minusC; split
  · simp
  · split
    · intro c hc; rw [List.mem_singleton.1 hc]; exact ha
    · exact minusGo_ok _ _ (fun p hp => List.mem_range.1 hp) ha
theorem minus_len (a b : Cu) : (minusC a b).length ≤ 8 := by
  unfold minusC; split
  · simp
  · split
    · simp
    · have := minusGo_len b (List.range 8) a; simpa using this

/-! ### Letters, and how many they are -/
/-- A cube of n propositions. -/
def ofN (n : Nat) (a : Cu) : Bool := mayC a && allP fun p => !(decide (n ≤ p)) || !a.1.testBit p
theorem ofN_iff {n : Nat} {a : Cu} : ofN n a = true ↔ mayC a = true ∧ ∀ p, p < 8 → n ≤ p → a.1.testBit p = false := by
  unfold ofN; rw [Bool.and_eq_true, allP_iff]
  refine and_congr Iff.rfl ⟨fun h p hp hn => ?_, fun h p hp => ?_⟩
  · have := h p hp; simpa [hn] using this
  · by_cases hn : n ≤ p
    · rw [h p hp hn]; simp
    · simp [hn]
def lettersC (n : Nat) (a : Cu) : List Nat := (List.range (2 ^ n)).filter (hasC a)
/-- How many of the first k propositions are said. -/
def onesTo (x : Nat) : Nat → Nat
  | 0 => 0
  | k + 1 => onesTo x k + (if x.testBit k then 1 else 0)
theorem onesTo_succ (x k : Nat) : onesTo x (k + 1) = onesTo x k + (if x.testBit k then 1 else 0) := rfl
theorem onesTo_le (x : Nat) : ∀ k, onesTo x k ≤ k
  | 0 => Nat.le_refl _
  | k + 1 => by unfold onesTo; have := onesTo_le x k; split <;> omega
/-- Of the letters of k propositions: those that say what a says of these. -/
def low (a : Cu) (k l : Nat) : Bool := (List.range k).all fun p => !a.1.testBit p || (a.2.testBit p == l.testBit p)
theorem low_succ (a : Cu) (k l : Nat) : low a (k + 1) l = (low a k l && (!a.1.testBit k || (a.2.testBit k == l.testBit k))) := by
  unfold low; rw [List.range_succ, List.all_append]; simp
theorem low_add (a : Cu) (k l : Nat) : low a k (2 ^ k + l) = low a k l := by
  unfold low
  apply Bool.eq_iff_iff.2
  rw [List.all_eq_true, List.all_eq_true]
  have e : ∀ p, p ∈ List.range k → (2 ^ k + l).testBit p = l.testBit p := fun p hp => by
    rw [Nat.testBit_two_pow_add_gt (List.mem_range.1 hp)]
  exact ⟨fun h p hp => by rw [← e p hp]; exact h p hp, fun h p hp => by rw [e p hp]; exact h p hp⟩
theorem low_count (a : Cu) : ∀ k, (List.range (2 ^ k)).countP (low a k) = 2 ^ (k - onesTo a.1 k)
  | 0 => by simp [low, onesTo]
  | k + 1 => by
    have ih := low_count a k
    have hle := onesTo_le a.1 k
    have hr : List.range (2 ^ (k + 1)) = List.range (2 ^ k) ++ (List.range (2 ^ k)).map (2 ^ k + ·) := by
      rw [Nat.pow_succ, Nat.mul_two, List.range_add]
    have c1 : (List.range (2 ^ k)).countP (low a (k + 1)) = if !a.1.testBit k || (a.2.testBit k == false) then 2 ^ (k - onesTo a.1 k) else 0 := by
      rw [← ih]
      cases hx : (!a.1.testBit k || (a.2.testBit k == false)) with
      | true =>
        rw [if_pos rfl]
        apply List.countP_congr
        intro l hl
        rw [low_succ, Nat.testBit_lt_two_pow (List.mem_range.1 hl), hx]; simp
      | false =>
        rw [if_neg (by simp), List.countP_eq_zero]
        intro l hl
        rw [low_succ, Nat.testBit_lt_two_pow (List.mem_range.1 hl), hx]; simp
    have c2 : ((List.range (2 ^ k)).map (2 ^ k + ·)).countP (low a (k + 1)) = if !a.1.testBit k || (a.2.testBit k == true) then 2 ^ (k - onesTo a.1 k) else 0 := by
      rw [← ih, List.countP_map]
      have hb : ∀ l ∈ List.range (2 ^ k), (2 ^ k + l).testBit k = true := fun l hl => by
        rw [Nat.testBit_two_pow_add_eq, Nat.testBit_lt_two_pow (List.mem_range.1 hl)]; rfl
      cases hx : (!a.1.testBit k || (a.2.testBit k == true)) with
      | true =>
        rw [if_pos rfl]
        apply List.countP_congr
        intro l hl
        show low a (k + 1) (2 ^ k + l) = true ↔ _
        rw [low_succ, hb l hl, hx, low_add a k l]; simp
      | false =>
        rw [if_neg (by simp), List.countP_eq_zero]
        intro l hl
        show ¬ low a (k + 1) (2 ^ k + l) = true
        rw [low_succ, hb l hl, hx]; simp
    rw [hr, List.countP_append, c1, c2, onesTo_succ]
    cases hc : a.1.testBit k with
    | false =>
      simp only [Bool.not_false, Bool.true_or, if_true, Bool.false_eq_true, if_false, Nat.add_zero]
      rw [show k + 1 - onesTo a.1 k = (k - onesTo a.1 k) + 1 by omega, Nat.pow_succ]; omega
    | true =>
      simp only [Bool.not_true, Bool.false_or, if_true]
      rw [show k + 1 - (onesTo a.1 k + 1) = k - onesTo a.1 k by omega]
      cases a.2.testBit k <;> simp
theorem letters_count {n : Nat} {a : Cu} (hn : n ≤ 8) (h : ofN n a = true) : (lettersC n a).length = 2 ^ (n - onesTo a.1 n) := by
  rw [← low_count a n]
  unfold lettersC
  rw [← List.countP_eq_length_filter]
  apply List.countP_congr
  intro l hl
  rw [ofN_iff] at h
  rw [hasC_iff]
  unfold low
  rw [List.all_eq_true]
  constructor
  · intro ⟨_, h2⟩ p hp
    have hp8 : p < 8 := Nat.lt_of_lt_of_le (List.mem_range.1 hp) hn
    cases hc : a.1.testBit p with
    | false => rfl
    | true => rw [h2 p hp8 hc]; simp
  · intro h2
    refine ⟨h.1, fun p hp hc => ?_⟩
    by_cases hpn : p < n
    · have := h2 p (List.mem_range.2 hpn); rw [hc] at this; simpa using this
    · rw [h.2 p hp (by omega)] at hc; cases hc
/-- All of the eight bits, where none lies from n on. -/
theorem ones_all {x n : Nat} (hn : n ≤ 8) (h : ∀ p, p < 8 → n ≤ p → x.testBit p = false) : onesTo x 8 = onesTo x n := by
  have : ∀ d, n + d ≤ 8 → onesTo x (n + d) = onesTo x n := by
    intro d
    induction d with
    | zero => intro _; rfl
    | succ d ih =>
      intro hd
      rw [← Nat.add_assoc, onesTo_succ]
      rw [h (n + d) (by omega) (by omega), ih (by omega)]; rfl
  have := this (8 - n) (by omega)
  rwa [show n + (8 - n) = 8 by omega] at this
end Go.Proofs.Ytnaalbcbmhpfjaa
