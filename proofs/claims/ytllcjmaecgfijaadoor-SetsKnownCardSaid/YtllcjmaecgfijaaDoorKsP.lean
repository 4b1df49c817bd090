/- Plain: sets as numbers, lists of sets, the least ones. -/
import Derived.Test.YtllcjmaecgfijaaDoorKBase
namespace Go.Proofs.YtllcjmaecgfijaaDoor

/-- A set lies within another one. -/
abbrev Wi (a b : Nat) : Prop := a &&& b = a
theorem wi_iff {a b : Nat} : Wi a b ↔ ∀ i, a.testBit i = true → b.testBit i = true := by
  unfold Wi
  constructor
  · intro h i hi
    have := congrArg (fun x => x.testBit i) h
    simp only [Nat.testBit_and, hi, Bool.true_and] at this
    exact this
  · intro h
    apply Nat.eq_of_testBit_eq
    intro i
    rw [Nat.testBit_and]
    cases ha : a.testBit i with
    | false => rfl
    | true => rw [h i ha]; rfl
theorem wi_refl (a : Nat) : Wi a a := wi_iff.2 fun _ h => h
theorem wi_trans {a b c : Nat} (h : Wi a b) (k : Wi b c) : Wi a c := wi_iff.2 fun i hi => wi_iff.1 k i (wi_iff.1 h i hi)
theorem wi_anti {a b : Nat} (h : Wi a b) (k : Wi b a) : a = b := by
  apply Nat.eq_of_testBit_eq
  intro i
  cases ha : a.testBit i with
  | true => exact (wi_iff.1 h i ha).symm
  | false =>
    cases hb : b.testBit i with
    | false => rfl
    | true => rw [wi_iff.1 k i hb] at ha; cases ha
theorem wi_le {a b : Nat} (h : Wi a b) : a ≤ b := by
  unfold Wi at h
  rw [← h]; exact Nat.and_le_right
theorem wi_or {a b c : Nat} : Wi (a ||| b) c ↔ Wi a c ∧ Wi b c := by
  rw [wi_iff, wi_iff, wi_iff]
  constructor
  · intro h
    exact ⟨fun i hi => h i (by rw [Nat.testBit_or, hi]; rfl), fun i hi => h i (by rw [Nat.testBit_or, hi, Bool.or_true])⟩
  · rintro ⟨h1, h2⟩ i hi
    rw [Nat.testBit_or, Bool.or_eq_true] at hi
    rcases hi with hi | hi
    · exact h1 i hi
    · exact h2 i hi
/-- What a list says of what is held. -/
abbrev HoP (l : List Nat) (h : Nat) : Prop := ∃ s ∈ l, Wi s h
def hoB (l : List Nat) (h : Nat) : Bool := decide (HoP l h)
/-- A set of a list that has no other one within it. -/
abbrev Mini (l : List Nat) (x : Nat) : Prop := x ∈ l ∧ ∀ y ∈ l, Wi y x → y = x
/-- The least sets of l, rising. -/
structure IsLeast (l r : List Nat) : Prop where
  up : r.Pairwise (· < ·)
  mem : ∀ x, x ∈ r ↔ Mini l x
theorem rising_ext : ∀ {a b : List Nat}, a.Pairwise (· < ·) → b.Pairwise (· < ·) → (∀ x, x ∈ a ↔ x ∈ b) → a = b
  | [], [], _, _, _ => rfl
  | [], y :: b, _, _, h => absurd ((h y).2 (by simp)) (by simp)
  | x :: a, [], _, _, h => absurd ((h x).1 (by simp)) (by simp)
  | x :: a, y :: b, ha, hb, h => by
    obtain ⟨ha1, ha2⟩ := List.pairwise_cons.1 ha
    obtain ⟨hb1, hb2⟩ := List.pairwise_cons.1 hb
    have e : x = y := by
      have h1 := (h x).1 (by simp)
      have h2 := (h y).2 (by simp)
      rcases List.mem_cons.1 h1 with h1 | h1
      · exact h1
      · rcases List.mem_cons.1 h2 with h2 | h2
        · exact h2.symm
        · have := hb1 x h1
          have := ha1 y h2
          omega
    subst e
    refine congrArg (x :: ·) (rising_ext ha2 hb2 fun z => ?_)
    constructor
    · intro hz
      rcases List.mem_cons.1 ((h z).1 (by simp [hz])) with e | e
      · have := ha1 z hz; omega
      · exact e
    · intro hz
      rcases List.mem_cons.1 ((h z).2 (by simp [hz])) with e | e
      · have := hb1 z hz; omega
      · exact e
theorem IsLeast.one {l r r' : List Nat} (h : IsLeast l r) (h' : IsLeast l r') : r = r' := rising_ext h.up h'.up fun x => (h.mem x).trans (h'.mem x).symm
/-- Each set of a list has one of the least within it. -/
theorem mini_below (l : List Nat) : ∀ (n x : Nat), x ≤ n → x ∈ l → ∃ y, Mini l y ∧ Wi y x := by
  intro n
  induction n with
  | zero =>
    intro x hx hm
    obtain rfl : x = 0 := by omega
    exact ⟨0, ⟨hm, fun y hy hw => by have := wi_le hw; omega⟩, wi_refl 0⟩
  | succ n ih =>
    intro x hx hm
    by_cases h : Mini l x
    · exact ⟨x, h, wi_refl x⟩
    · have : ∃ y ∈ l, Wi y x ∧ y ≠ x := by
        apply Classical.byContradiction
        intro hc
        apply h
        refine ⟨hm, fun y hy hw => ?_⟩
        apply Classical.byContradiction
        intro he
        exact hc ⟨y, hy, hw, he⟩
      obtain ⟨y, hy, hw, hne⟩ := this
      have := wi_le hw
      obtain ⟨z, hz, hzw⟩ := ih y (by omega) hy
      exact ⟨z, hz, wi_trans hzw hw⟩
theorem IsLeast.holds {l r : List Nat} (h : IsLeast l r) (held : Nat) : HoP r held ↔ HoP l held := by
  constructor
  · rintro ⟨s, hs, hw⟩
    exact ⟨s, ((h.mem s).1 hs).1, hw⟩
  · rintro ⟨s, hs, hw⟩
    obtain ⟨y, hy, hyw⟩ := mini_below l s s (Nat.le_refl _) hs
    exact ⟨y, (h.mem y).2 hy, wi_trans hyw hw⟩
/-- Lists that say the same have the same least sets. -/
theorem mini_same {a b : List Nat} (h : ∀ held, HoP a held ↔ HoP b held) {x : Nat} (hx : Mini a x) : Mini b x := by
  obtain ⟨s, hs, hw⟩ := (h x).1 ⟨x, hx.1, wi_refl x⟩
  obtain ⟨t, ht, hw2⟩ := (h s).2 ⟨s, hs, wi_refl s⟩
  have e := hx.2 t ht (wi_trans hw2 hw)
  subst e
  have e := wi_anti hw hw2
  subst e
  refine ⟨hs, fun y hy hyw => ?_⟩
  obtain ⟨u, hu, huw⟩ := (h y).2 ⟨y, hy, wi_refl y⟩
  have e := hx.2 u hu (wi_trans huw hyw)
  subst e
  exact wi_anti hyw huw
theorem least_ext {a b r r' : List Nat} (h : IsLeast a r) (h' : IsLeast b r') (hs : ∀ held, HoP a held ↔ HoP b held) : r = r' :=
  rising_ext h.up h'.up fun x => by
    rw [h.mem, h'.mem]
    exact ⟨mini_same hs, mini_same fun held => (hs held).symm⟩
/-- A list is its own least sets. -/
theorem least_self {l r : List Nat} (h : IsLeast l r) : IsLeast r r := by
  refine ⟨h.up, fun x => ⟨fun hx => ⟨hx, fun y hy hw => ?_⟩, fun hx => hx.1⟩⟩
  exact ((h.mem x).1 hx).2 y ((h.mem y).1 hy).1 hw
theorem hoP_append {a b : List Nat} {h : Nat} : HoP (a ++ b) h ↔ HoP a h ∨ HoP b h := by
  unfold HoP
  constructor
  · rintro ⟨s, hs, hw⟩
    rcases List.mem_append.1 hs with hs | hs
    · exact Or.inl ⟨s, hs, hw⟩
    · exact Or.inr ⟨s, hs, hw⟩
  · rintro (⟨s, hs, hw⟩ | ⟨s, hs, hw⟩)
    · exact ⟨s, by simp [hs], hw⟩
    · exact ⟨s, by simp [hs], hw⟩
/-- All unions of a set of a and a set of b. -/
def uniL (a b : List Nat) : List Nat := a.flatMap fun x => b.map fun y => x ||| y
theorem hoP_uni {a b : List Nat} {h : Nat} : HoP (uniL a b) h ↔ HoP a h ∧ HoP b h := by
  unfold HoP uniL
  constructor
  · rintro ⟨s, hs, hw⟩
    obtain ⟨x, hx, hs⟩ := List.mem_flatMap.1 hs
    obtain ⟨y, hy, rfl⟩ := List.mem_map.1 hs
    exact ⟨⟨x, hx, (wi_or.1 hw).1⟩, ⟨y, hy, (wi_or.1 hw).2⟩⟩
  · rintro ⟨⟨x, hx, h1⟩, y, hy, h2⟩
    exact ⟨x ||| y, List.mem_flatMap.2 ⟨x, hx, List.mem_map.2 ⟨y, hy, rfl⟩⟩, wi_or.2 ⟨h1, h2⟩⟩
theorem uniL_length (a b : List Nat) : (uniL a b).length = a.length * b.length := by
  unfold uniL
  induction a with
  | nil => simp
  | cons x a ih => rw [List.flatMap_cons, List.length_append, ih, List.length_map, List.length_cons, Nat.succ_mul]; omega
/-- A list, rising, each once. -/
def insU (x : Nat) : List Nat → List Nat
  | [] => [x]
  | y :: r => if x < y then x :: y :: r else if x = y then y :: r else y :: insU x r
theorem insU_mem (x z : Nat) : ∀ l : List Nat, z ∈ insU x l ↔ z = x ∨ z ∈ l
  | [] => by simp [insU]
  | y :: r => by
    unfold insU
    split
    · simp
    · split
      · rename_i h1 h2; subst h2; simp
      · simp only [List.mem_cons, insU_mem x z r]
        constructor
        · rintro (h | h | h)
          · exact Or.inr (Or.inl h)
          · exact Or.inl h
          · exact Or.inr (Or.inr h)
        · rintro (h | h | h)
          · exact Or.inr (Or.inl h)
          · exact Or.inl h
          · exact Or.inr (Or.inr h)
theorem insU_up (x : Nat) : ∀ l : List Nat, l.Pairwise (· < ·) → (insU x l).Pairwise (· < ·)
  | [], _ => by simp [insU]
  | y :: r, h => by
    obtain ⟨h1, h2⟩ := List.pairwise_cons.1 h
    unfold insU
    split
    · rename_i hx
      refine List.pairwise_cons.2 ⟨fun z hz => ?_, h⟩
      rcases List.mem_cons.1 hz with rfl | hz
      · exact hx
      · have := h1 z hz; omega
    · split
      · exact h
      · rename_i hx hy
        refine List.pairwise_cons.2 ⟨fun z hz => ?_, insU_up x r h2⟩
        rcases (insU_mem x z r).1 hz with rfl | hz
        · omega
        · exact h1 z hz
def sortU (l : List Nat) : List Nat := l.foldr insU []
theorem sortU_mem (z : Nat) : ∀ l : List Nat, z ∈ sortU l ↔ z ∈ l
  | [] => by simp [sortU]
  | x :: l => by
    show z ∈ insU x (sortU l) ↔ _
    rw [insU_mem, sortU_mem z l, List.mem_cons]
theorem sortU_up : ∀ l : List Nat, (sortU l).Pairwise (· < ·)
  | [] => by simp [sortU]
  | x :: l => insU_up x _ (sortU_up l)
/-- The least sets of a list, rising. -/
def leastL (l : List Nat) : List Nat := (sortU l).filter fun x => decide (Mini l x)
theorem leastL_is (l : List Nat) : IsLeast l (leastL l) := by
  refine ⟨(sortU_up l).filter _, fun x => ?_⟩
  unfold leastL
  rw [List.mem_filter, sortU_mem, decide_eq_true_eq]
  exact ⟨fun h => h.2, fun h => ⟨h.1, h⟩⟩
theorem leastL_of {l r : List Nat} (h : IsLeast l r) : r = leastL l := h.one (leastL_is l)
theorem leastL_ext {a b : List Nat} (hs : ∀ held, HoP a held ↔ HoP b held) : leastL a = leastL b := least_ext (leastL_is a) (leastL_is b) hs
theorem leastL_holds (l : List Nat) (held : Nat) : HoP (leastL l) held ↔ HoP l held := (leastL_is l).holds held
theorem leastL_again (l : List Nat) : leastL (leastL l) = leastL l := leastL_ext fun held => leastL_holds l held
theorem leastL_sub {l : List Nat} {x : Nat} (h : x ∈ leastL l) : x ∈ l := ((leastL_is l).mem x).1 h |>.1
theorem rising_len : ∀ {a l : List Nat}, a.Pairwise (· < ·) → (∀ x ∈ a, x ∈ l) → a.length ≤ l.length
  | [], _, _, _ => Nat.zero_le _
  | x :: a, l, h, hs => by
    obtain ⟨h1, h2⟩ := List.pairwise_cons.1 h
    have hm := hs x (by simp)
    have := rising_len (l := l.erase x) h2 (fun y hy => by
      have := h1 y hy
      exact (List.mem_erase_of_ne (by omega)).2 (hs y (by simp [hy])))
    rw [List.length_erase_of_mem hm] at this
    have hp := List.length_pos_of_mem hm
    simp only [List.length_cons]
    omega
theorem leastL_len (l : List Nat) : (leastL l).length ≤ l.length := rising_len (leastL_is l).up fun _ hx => leastL_sub hx
theorem leastL_nil : leastL [] = [] := rfl
/-! ### what stage 10's statements ask -/
theorem ring_or (a b : List Nat) : leastL (a ++ b) = leastL (b ++ a) := leastL_ext fun h => by rw [hoP_append, hoP_append]; exact Or.comm
theorem ring_or3 (a b c : List Nat) : leastL (leastL (a ++ b) ++ c) = leastL (a ++ leastL (b ++ c)) := leastL_ext fun h => by
  rw [hoP_append, hoP_append, leastL_holds, leastL_holds, hoP_append, hoP_append]; exact or_assoc
theorem ring_and (a b : List Nat) : leastL (uniL a b) = leastL (uniL b a) := leastL_ext fun h => by rw [hoP_uni, hoP_uni]; exact And.comm
theorem ring_dist (a b c : List Nat) : leastL (uniL a (leastL (b ++ c))) = leastL (leastL (uniL a b) ++ leastL (uniL a c)) := leastL_ext fun h => by
  rw [hoP_uni, leastL_holds, hoP_append, hoP_append, leastL_holds, leastL_holds, hoP_uni, hoP_uni]; exact and_or_left
theorem ring_and3 (a b c : List Nat) : leastL (uniL (leastL (uniL a b)) c) = leastL (uniL a (leastL (uniL b c))) := leastL_ext fun h => by
  rw [hoP_uni, leastL_holds, hoP_uni, hoP_uni, leastL_holds, hoP_uni]; exact and_assoc
theorem hoP_one (h : Nat) : HoP [0] h := ⟨0, by simp, by unfold Wi; simp⟩
theorem ring_true (a : List Nat) : leastL (uniL a [0]) = leastL a := leastL_ext fun h => by rw [hoP_uni]; exact ⟨fun h => h.1, fun k => ⟨k, hoP_one h⟩⟩
theorem uni_nil (a : List Nat) : uniL a [] = [] := by
  unfold uniL
  simp
theorem ring_mem {a b : List Nat} (h : ∀ x, x ∈ a ↔ x ∈ b) : leastL a = leastL b := leastL_ext fun k => by
  unfold HoP
  exact ⟨fun ⟨s, hs, hw⟩ => ⟨s, (h s).1 hs, hw⟩, fun ⟨s, hs, hw⟩ => ⟨s, (h s).2 hs, hw⟩⟩
theorem or_lt {a b : Nat} (ha : a < 2 ^ 64) (hb : b < 2 ^ 64) : a ||| b < 2 ^ 64 := Nat.or_lt_two_pow ha hb
end Go.Proofs.YtllcjmaecgfijaaDoor
