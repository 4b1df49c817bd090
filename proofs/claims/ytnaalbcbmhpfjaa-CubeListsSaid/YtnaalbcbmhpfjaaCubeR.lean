/- Cubes, plain, on: the cubes of some letters; the text of a cube, there and back. -/
import Derived.Test.YtnaalbcbmhpfjaaCubeQ
namespace Go.Proofs.Ytnaalbcbmhpfjaa

/-- The cubes of the letters that are in, of a cube that says just the first p propositions; f: how many are left. -/
def coverF (n : Nat) (inn : Nat → Bool) : Nat → Nat → Cu → List Cu
  | f, p, c =>
    if (lettersC n c).countP inn = 0 then [] else if (lettersC n c).countP inn = (lettersC n c).length then [c] else
      match f with
      | 0 => []
      | f + 1 => coverF n inn f (p + 1) (sayC c p false) ++ coverF n inn f (p + 1) (sayC c p true)
def coverC (n : Nat) (inn : Nat → Bool) : List Cu := coverF n inn n 0 (0, 0)
/-- A cube that says just the first p propositions. -/
def Says (p : Nat) (c : Cu) : Prop := mayC c = true ∧ ∀ q, q < 8 → c.1.testBit q = decide (q < p)
theorem Says.ofN {p n : Nat} {c : Cu} (h : Says p c) (hp : p ≤ n) : ofN n c = true :=
  ofN_iff.2 ⟨h.1, fun q hq hn => by rw [h.2 q hq]; simp; omega⟩
theorem Says.next {p : Nat} {c : Cu} (h : Says p c) (b : Bool) : Says (p + 1) (sayC c p b) :=
  ⟨say_may h.1 p b, fun q hq => by
    rw [say_care, h.2 q hq]
    by_cases h1 : q < p
    · simp [h1]; omega
    · by_cases h2 : p = q
      · subst h2; simp
      · simp [h1, h2]; omega⟩
theorem says_zero : Says 0 (0, 0) := ⟨by decide, fun q _ => by simp⟩
theorem ones_full {x : Nat} : ∀ n, n ≤ 8 → (∀ q, q < 8 → x.testBit q = decide (q < n)) → ∀ k, k ≤ n → onesTo x k = k := by
  intro n hn h k
  induction k with
  | zero => intro _; rfl
  | succ k ih => intro hk; rw [onesTo_succ, ih (by omega), h k (by omega)]; simp; omega
theorem Says.one {n : Nat} {c : Cu} (h : Says n c) (hn : n ≤ 8) : (lettersC n c).length = 1 := by
  rw [letters_count hn (h.ofN (Nat.le_refl _)), ones_full n hn h.2 n (Nat.le_refl _)]; simp
theorem mem_letters {n l : Nat} {c : Cu} : l ∈ lettersC n c ↔ l < 2 ^ n ∧ hasC c l = true := by
  unfold lettersC; rw [List.mem_filter, List.mem_range]
theorem cover_count {n : Nat} (hn : n ≤ 8) (inn : Nat → Bool) {l : Nat} (hl : l < 2 ^ n) : ∀ (f p : Nat) (c : Cu), p + f = n → Says p c → (coverF n inn f p c).countP (fun x => hasC x l) = if hasC c l && inn l then 1 else 0 := by
  intro f
  induction f with
  | zero =>
    intro p c hp hs
    have hpn : p = n := by omega
    subst hpn
    have h1 := hs.one hn
    unfold coverF
    by_cases h0 : (lettersC p c).countP inn = 0
    · rw [if_pos h0]
      rw [List.countP_eq_zero] at h0
      cases hh : hasC c l with
      | false => rfl
      | true =>
        have := h0 l (mem_letters.2 ⟨hl, hh⟩)
        simp at this; rw [this]; rfl
    · have hle := List.countP_le_length (p := inn) (l := lettersC p c)
      have he : (lettersC p c).countP inn = (lettersC p c).length := by omega
      rw [if_neg h0, if_pos he]
      rw [List.countP_eq_length] at he
      cases hh : hasC c l with
      | false => simp [hh]
      | true => simp [hh, he l (mem_letters.2 ⟨hl, hh⟩)]
  | succ f ih =>
    intro p c hp hs
    unfold coverF
    by_cases h0 : (lettersC n c).countP inn = 0
    · rw [if_pos h0]
      rw [List.countP_eq_zero] at h0
      cases hh : hasC c l with
      | false => rfl
      | true =>
        have := h0 l (mem_letters.2 ⟨hl, hh⟩)
        simp at this; rw [this]; rfl
    · rw [if_neg h0]
      by_cases he : (lettersC n c).countP inn = (lettersC n c).length
      · rw [if_pos he]
        rw [List.countP_eq_length] at he
        cases hh : hasC c l with
        | false => simp [hh]
        | true => simp [hh, he l (mem_letters.2 ⟨hl, hh⟩)]
      · rw [if_neg he]
        show List.countP _ (_ ++ _) = _
        have hf : c.1.testBit p = false := by rw [hs.2 p (by omega)]; simp
        rw [List.countP_append, ih (p + 1) _ (by omega) (hs.next _), ih (p + 1) _ (by omega) (hs.next _), say_has hs.1 (by omega) hf, say_has hs.1 (by omega) hf]
        cases hasC c l <;> cases l.testBit p <;> cases inn l <;> simp
theorem coverC_count {n : Nat} (hn : n ≤ 8) (inn : Nat → Bool) {l : Nat} (hl : l < 2 ^ n) : (coverC n inn).countP (fun x => hasC x l) = if inn l then 1 else 0 := by
  unfold coverC
  rw [cover_count hn inn hl n 0 (0, 0) (by omega) says_zero]
  have : hasC (0, 0) l = true := hasC_iff.2 ⟨by decide, fun p _ h => by simp at h⟩
  rw [this]; rfl
theorem letters_all (n : Nat) : lettersC n (0, 0) = List.range (2 ^ n) := by
  unfold lettersC
  rw [List.filter_eq_self]
  intro l _
  exact hasC_iff.2 ⟨by decide, fun p _ h => by simp at h⟩
/-- Of all letters it is the cube that says nothing. -/
theorem coverC_all {n : Nat} {inn : Nat → Bool} (h : ∀ l, l < 2 ^ n → inn l = true) : coverC n inn = [(0, 0)] := by
  have he : (lettersC n (0, 0)).countP inn = (lettersC n (0, 0)).length := by
    rw [List.countP_eq_length]; intro l hl; exact h l (mem_letters.1 hl).1
  have hp : 0 < 2 ^ n := Nat.two_pow_pos n
  have h0 : ¬ (lettersC n (0, 0)).countP inn = 0 := by rw [he, letters_all, List.length_range]; omega
  unfold coverC coverF
  rw [if_neg h0, if_pos he]
/-- Which letters are in counts alone. -/
theorem coverF_congr {n : Nat} {i j : Nat → Bool} (h : ∀ l, l < 2 ^ n → i l = j l) : ∀ (f p : Nat) (c : Cu), coverF n i f p c = coverF n j f p c := by
  have hc : ∀ c, (lettersC n c).countP i = (lettersC n c).countP j := fun c => List.countP_congr fun l hl => by rw [h l (mem_letters.1 hl).1]
  intro f
  induction f with
  | zero => intro p c; unfold coverF; rw [hc c]
  | succ f ih => intro p c; unfold coverF; simp only [hc c, ih]
theorem coverF_len {n : Nat} (inn : Nat → Bool) : ∀ (f p : Nat) (c : Cu), (coverF n inn f p c).length ≤ 2 ^ f := by
  intro f
  induction f with
  | zero =>
    intro p c; unfold coverF
    split
    · simp
    · split <;> simp
  | succ f ih =>
    intro p c; unfold coverF
    have hp : 0 < 2 ^ (f + 1) := Nat.two_pow_pos _
    split
    · simp
    · split
      · simp; omega
      · show List.length (_ ++ _) ≤ _
        have h1 := ih (p + 1) (sayC c p false)
        have h2 := ih (p + 1) (sayC c p true)
        rw [List.length_append, Nat.pow_succ]; omega
theorem coverF_ok {n : Nat} (hn : n ≤ 8) (inn : Nat → Bool) : ∀ (f p : Nat) (c : Cu), p + f = n → c.ok → ∀ x ∈ coverF n inn f p c, x.ok := by
  intro f
  induction f with
  | zero =>
    intro p c _ hc x; unfold coverF
    split
    · simp
    · split
      · intro hx; rw [List.mem_singleton.1 hx]; exact hc
      · simp
  | succ f ih =>
    intro p c hp hc x; unfold coverF
    split
    · simp
    · split
      · intro hx; rw [List.mem_singleton.1 hx]; exact hc
      · intro hx
        rcases List.mem_append.1 hx with h | h
        · exact ih (p + 1) _ (by omega) (say_ok hc (by omega) _) x h
        · exact ih (p + 1) _ (by omega) (say_ok hc (by omega) _) x h

/-! ### the text of a cube -/
def signC (a : Cu) (p : Nat) : UInt8 := if a.1.testBit p then (if a.2.testBit p then 49 else 48) else 45
def textC (n : Nat) (a : Cu) : List UInt8 := (List.range n).map (signC a)
def readC : List UInt8 → Nat → Cu → Option Cu
  | [], _, c => some c
  | x :: r, p, c => if x = 45 then readC r (p + 1) c else if x = 48 then readC r (p + 1) (sayC c p false) else if x = 49 then readC r (p + 1) (sayC c p true) else none
def parseC (n : Nat) (s : List UInt8) : Option Cu := if s.length = n then readC s 0 (0, 0) else none
theorem textC_len (n : Nat) (a : Cu) : (textC n a).length = n := by simp [textC]
/-- What a says of the first p propositions. -/
def cutC (a : Cu) (p : Nat) : Cu := (a.1 % 2 ^ p, a.2 % 2 ^ p)
theorem cutC_next {a : Cu} (hm : mayC a = true) {p : Nat} (hp : p < 8) : cutC a (p + 1) = if a.1.testBit p then sayC (cutC a p) p (a.2.testBit p) else cutC a p := by
  have key : ∀ x : Nat, x % 2 ^ (p + 1) = if x.testBit p then x % 2 ^ p ||| 2 ^ p else x % 2 ^ p := fun x => by
    apply Nat.eq_of_testBit_eq
    intro q
    cases hx : x.testBit p with
    | false =>
      simp only [Bool.false_eq_true, if_false, Nat.testBit_mod_two_pow]
      by_cases h1 : q < p
      · simp [h1]; intro _; omega
      · by_cases h2 : q = p
        · subst h2; rw [hx]; simp
        · simp [h1]; intro h; omega
    | true =>
      simp only [if_true, Nat.testBit_or, Nat.testBit_mod_two_pow, Nat.testBit_two_pow]
      by_cases h1 : q < p
      · have h3 : ¬ p = q := by omega
        simp [h1, h3]; intro _; omega
      · by_cases h2 : p = q
        · subst h2; rw [hx]; simp
        · simp [h1, h2]; intro h; omega
  unfold cutC sayC
  cases hc : a.1.testBit p with
  | false =>
    have hv : a.2.testBit p = false := by
      cases hx : a.2.testBit p with
      | false => rfl
      | true => rw [mayC_iff.1 hm p hp hx] at hc; cases hc
    rw [key a.1, key a.2, hc, hv]; rfl
  | true => rw [key a.1, key a.2, hc]; rfl
theorem read_text_go {a : Cu} (hm : mayC a = true) : ∀ (d p : Nat), p + d ≤ 8 → readC ((List.range' p d).map (signC a)) p (cutC a p) = some (cutC a (p + d))
  | 0, p, _ => rfl
  | d + 1, p, h => by
    rw [List.range'_succ, List.map_cons]
    have e := cutC_next hm (p := p) (by omega)
    have ih := read_text_go hm d (p + 1) (by omega)
    rw [show p + 1 + d = p + (d + 1) by omega] at ih
    unfold readC signC
    cases hc : a.1.testBit p with
    | false =>
      rw [hc] at e
      simp only [Bool.false_eq_true, if_false, if_true] at e ⊢
      rw [e] at ih; exact ih
    | true =>
      rw [hc] at e
      cases hv : a.2.testBit p with
      | false =>
        rw [hv] at e
        simp only [Bool.false_eq_true, if_false, if_true] at e ⊢
        rw [if_neg (by decide), ← e]; exact ih
      | true =>
        rw [hv] at e
        simp only [if_true] at e ⊢
        rw [if_neg (by decide), if_neg (by decide), ← e]; exact ih
/-- A text that is printed is read as it was. -/
theorem parse_text {n : Nat} {a : Cu} (hn : n ≤ 8) (ha : a.ok) (h : ofN n a = true) : parseC n (textC n a) = some a := by
  unfold parseC
  rw [if_pos (textC_len n a)]
  rw [ofN_iff] at h
  have := read_text_go h.1 n 0 (by omega)
  rw [← List.range_eq_range'] at this
  have e0 : cutC a 0 = (0, 0) := by simp [cutC, Nat.mod_one]
  rw [e0, Nat.zero_add] at this
  unfold textC
  rw [this]
  have lt : ∀ x : Nat, x < 256 → (∀ p, p < 8 → n ≤ p → x.testBit p = false) → x % 2 ^ n = x := fun x hx hb => by
    apply Nat.eq_of_testBit_eq
    intro p
    rw [Nat.testBit_mod_two_pow]
    by_cases hp : p < n
    · simp [hp]
    · by_cases hp8 : p < 8
      · rw [hb p hp8 (by omega)]; simp
      · rw [bit_hi hx (by omega)]; simp
  unfold cutC
  rw [lt a.1 ha.1 h.2, lt a.2 ha.2 (fun p hp hn => by
    cases hx : a.2.testBit p with
    | false => rfl
    | true => have h1 := mayC_iff.1 h.1 p hp hx; rw [h.2 p hp hn] at h1; cases h1)]
end Go.Proofs.Ytnaalbcbmhpfjaa
