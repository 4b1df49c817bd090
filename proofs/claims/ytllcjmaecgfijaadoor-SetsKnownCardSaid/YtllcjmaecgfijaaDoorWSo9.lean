/- The library's sort at []uint64: pdqsort's parts, plain. -/
import Derived.Test.YtllcjmaecgfijaaDoorWSo5
namespace Go.Proofs.YtllcjmaecgfijaaDoor
open Go.Sort (swp PermIn SortedIn)

/-- What pdqsort's loop keeps: the part [a, b) is left to be sorted. -/
structure PQ (a0 b0 a b : Nat) (d0 d : Array Int) : Prop where
  a1 : a0 ≤ a
  ab : a ≤ b
  b1 : b ≤ b0
  sz : d.size = d0.size
  perm : PermIn a0 b0 d0 d
  bel : Go.Sort.Below lt64 a b d
  fin : ∀ d' : Array Int, PermIn a b d d' → SortedIn lt64 a b d' → SortedIn lt64 a0 b0 d'
theorem pq_start {a b : Nat} {d : Array Int} (hab : a ≤ b) (hB : Go.Sort.Below lt64 a b d) : PQ a b a b d d :=
  ⟨Nat.le_refl _, hab, Nat.le_refl _, rfl, Go.Sort.permIn_refl d a b, hB, fun _ _ h => h⟩
theorem PQ.up {a0 b0 a b : Nat} {d0 d d' : Array Int} (h : PQ a0 b0 a b d0 d) (hb : b0 ≤ d0.size) (hp : PermIn a b d d') : PermIn a0 b0 d0 d' :=
  Go.Sort.permIn_trans _ _ _ _ _ h.perm (Go.Sort.permIn_mono d d' a b a0 b0 h.a1 h.b1 (by rw [h.sz]; exact hb) hp)
theorem below_perm {a b : Nat} {d d' : Array Int} (hb : b ≤ d.size) (h : Go.Sort.Below lt64 a b d) (hp : PermIn a b d d') : Go.Sort.Below lt64 a b d' := by
  rcases h with h | h
  · exact Or.inl h
  · by_cases ha : a = 0
    · exact Or.inl ha
    · right
      rw [hp.2.1 (a - 1) (by omega)]
      exact Go.Sort.permIn_all d d' a b (fun x => lt64 x d[a - 1]! = false) hb hp h
theorem PQ.move {a0 b0 a b : Nat} {d0 d d' : Array Int} (h : PQ a0 b0 a b d0 d) (hb : b0 ≤ d0.size) (hp : PermIn a b d d') : PQ a0 b0 a b d0 d' :=
  ⟨h.a1, h.ab, h.b1, hp.1.trans h.sz, h.up hb hp, below_perm (by have := h.b1; rw [h.sz]; omega) h.bel hp, fun e h1 h2 => h.fin e (Go.Sort.permIn_trans _ _ _ _ _ hp h1) h2⟩
/-- Sorted left of the pivot, sorted right of it: sorted. -/
theorem sorted_parts {a b m : Nat} {d : Array Int} {p : Int} (hp : d[m]! = p) (hl : SortedIn lt64 a m d) (hr : SortedIn lt64 (m + 1) b d) (h1 : ∀ x, a ≤ x → x < m → lt64 d[x]! p = true) (h2 : ∀ x, m < x → x < b → lt64 d[x]! p = false) : SortedIn lt64 a b d := by
  have no : ∀ x y : Int, lt64 x p = true → lt64 y p = false → lt64 y x = false := fun x y k1 k2 => by
    cases k : lt64 y x with
    | false => rfl
    | true => rw [swo64.trans y x p k k1] at k2; cases k2
  intro i j hi hij hj
  by_cases c1 : j < m
  · exact hl i j hi hij c1
  · by_cases c2 : j = m
    · subst c2
      rw [hp]
      exact no _ _ (h1 i hi hij) (swo64.irrefl p)
    · by_cases c3 : i < m
      · exact no _ _ (h1 i hi c3) (h2 j (by omega) hj)
      · by_cases c4 : i = m
        · subst c4
          rw [hp]
          exact h2 j hij hj
        · exact hr i j (by omega) hij hj
theorem PQ.left {a0 b0 a b m : Nat} {d0 d d4 d5 : Array Int} (h : PQ a0 b0 a b d0 d) (hb : b0 ≤ d0.size) (hP : Parted d a b m d4) (hp : PermIn a m d4 d5) (hs : SortedIn lt64 a m d5) : PQ a0 b0 (m + 1) b d0 d5 := by
  have hsz := h.sz
  have hsz4 := hP.sz
  have hb1 := h.b1
  have hma := hP.ma
  have hmb := hP.mb
  have h4 := h.move hb hP.perm
  have e5 : ∀ x, m ≤ x → d5[x]! = d4[x]! := fun x hx => hp.2.1 x (Or.inr hx)
  have k5 : PermIn a b d4 d5 := Go.Sort.permIn_mono d4 d5 a m a b (Nat.le_refl _) (by omega) (by omega) hp
  have lo5 : ∀ x, a ≤ x → x < m → lt64 d5[x]! d4[m]! = true := Go.Sort.permIn_all d4 d5 a m (fun x => lt64 x d4[m]! = true) (by omega) hp hP.lo
  refine ⟨by have := h.a1; omega, by omega, hb1, hp.1.trans (hsz4.trans hsz), h4.up hb k5, Or.inr fun i h1 h2 => ?_, fun e h1 h2 => ?_⟩
  · rw [show m + 1 - 1 = m by omega, e5 i (by omega), e5 m (Nat.le_refl _)]
    exact hP.hi i (by omega) h2
  · have kk : PermIn a b d5 e := Go.Sort.permIn_mono d5 e (m + 1) b a b (by omega) (Nat.le_refl _) (by rw [hp.1]; omega) h1
    have ee : ∀ x, x < m + 1 → e[x]! = d5[x]! := fun x hx => h1.2.1 x (Or.inl hx)
    have hie : ∀ x, m + 1 ≤ x → x < b → lt64 e[x]! d4[m]! = false := Go.Sort.permIn_all d5 e (m + 1) b (fun x => lt64 x d4[m]! = false) (by rw [hp.1]; omega) h1 (fun i k1 k2 => by rw [e5 i (by omega)]; exact hP.hi i (by omega) k2)
    refine h4.fin e (Go.Sort.permIn_trans _ _ _ _ _ k5 kk) (sorted_parts (m := m) (p := d4[m]!) ?_ ?_ h2 ?_ ?_)
    · rw [ee m (by omega), e5 m (Nat.le_refl _)]
    · intro i j hi hij hj
      rw [ee i (by omega), ee j (by omega)]
      exact hs i j hi hij hj
    · intro x k1 k2
      rw [ee x (by omega)]
      exact lo5 x k1 k2
    · intro x k1 k2
      exact hie x (by omega) k2
theorem PQ.right {a0 b0 a b m : Nat} {d0 d d4 d5 : Array Int} (h : PQ a0 b0 a b d0 d) (hb : b0 ≤ d0.size) (hP : Parted d a b m d4) (hp : PermIn (m + 1) b d4 d5) (hs : SortedIn lt64 (m + 1) b d5) : PQ a0 b0 a m d0 d5 := by
  have hsz := h.sz
  have hsz4 := hP.sz
  have hb1 := h.b1
  have hma := hP.ma
  have hmb := hP.mb
  have h4 := h.move hb hP.perm
  have e5 : ∀ x, x < m + 1 → d5[x]! = d4[x]! := fun x hx => hp.2.1 x (Or.inl hx)
  have k5 : PermIn a b d4 d5 := Go.Sort.permIn_mono d4 d5 (m + 1) b a b (by omega) (Nat.le_refl _) (by omega) hp
  have hi5 : ∀ x, m + 1 ≤ x → x < b → lt64 d5[x]! d4[m]! = false := Go.Sort.permIn_all d4 d5 (m + 1) b (fun x => lt64 x d4[m]! = false) (by omega) hp (fun i k1 k2 => hP.hi i (by omega) k2)
  refine ⟨h.a1, hma, by omega, hp.1.trans (hsz4.trans hsz), h4.up hb k5, ?_, fun e h1 h2 => ?_⟩
  · rcases h4.bel with k | k
    · exact Or.inl k
    · right
      intro i h1 h2
      rw [e5 i (by omega), e5 (a - 1) (by omega)]
      exact k i h1 (by omega)
  · have kk : PermIn a b d5 e := Go.Sort.permIn_mono d5 e a m a b (Nat.le_refl _) (by omega) (by rw [hp.1]; omega) h1
    have ee : ∀ x, m ≤ x → e[x]! = d5[x]! := fun x hx => h1.2.1 x (Or.inr hx)
    have loe : ∀ x, a ≤ x → x < m → lt64 e[x]! d4[m]! = true := Go.Sort.permIn_all d5 e a m (fun x => lt64 x d4[m]! = true) (by rw [hp.1]; omega) h1 (fun i k1 k2 => by rw [e5 i (by omega)]; exact hP.lo i k1 k2)
    refine h4.fin e (Go.Sort.permIn_trans _ _ _ _ _ k5 kk) (sorted_parts (m := m) (p := d4[m]!) ?_ h2 ?_ loe ?_)
    · rw [ee m (Nat.le_refl _), e5 m (by omega)]
    · intro i j hi hij hj
      rw [ee i (by omega), ee j (by omega)]
      exact hs i j hi hij hj
    · intro x k1 k2
      rw [ee x (by omega)]
      exact hi5 x (by omega) k2
theorem PQ.eq {a0 b0 a b m q : Nat} {d0 d d4 : Array Int} (h : PQ a0 b0 a b d0 d) (hb : b0 ≤ d0.size) (ha : 0 < a) (hl : lt64 d[a - 1]! d[q]! = false) (hP : EqParted d a b m d[q]! d4) : PQ a0 b0 m b d0 d4 := by
  have hsz := h.sz
  have hsz4 := hP.sz
  have hb1 := h.b1
  have hma := hP.ma
  have hmb := hP.mb
  have h4 := h.move hb hP.perm
  have nl : ∀ i, a ≤ i → i < b → lt64 d[i]! d[q]! = false := fun i k1 k2 => by
    rcases h.bel with k | k
    · omega
    · exact swo64.ntrans _ _ _ (k i k1 k2) hl
  have nl4 : ∀ i, a ≤ i → i < b → lt64 d4[i]! d[q]! = false := Go.Sort.permIn_all d d4 a b (fun x => lt64 x d[q]! = false) (by omega) hP.perm nl
  have no : ∀ x y : Int, lt64 d[q]! y = true → lt64 d[q]! x = false → lt64 y x = false := fun x y k1 k2 => by
    cases k : lt64 y x with
    | false => rfl
    | true => rw [swo64.trans _ _ _ k1 k] at k2; cases k2
  refine ⟨by have := h.a1; omega, hmb, hb1, hsz4.trans hsz, h4.perm, Or.inr fun i h1 h2 => no _ _ (hP.hi i h1 h2) (hP.lo (m - 1) (by omega) (by omega)), fun e h1 h2 => ?_⟩
  have kk : PermIn a b d4 e := Go.Sort.permIn_mono d4 e m b a b (by omega) (Nat.le_refl _) (by omega) h1
  have ee : ∀ x, x < m → e[x]! = d4[x]! := fun x hx => h1.2.1 x (Or.inl hx)
  have hie : ∀ x, m ≤ x → x < b → lt64 d[q]! e[x]! = true := Go.Sort.permIn_all d4 e m b (fun x => lt64 d[q]! x = true) (by omega) h1 hP.hi
  refine h4.fin e kk fun i j hi hij hj => ?_
  by_cases c1 : j < m
  · rw [ee i (by omega), ee j c1]
    exact swo64.ntrans _ _ _ (nl4 j (by omega) hj) (hP.lo i hi (by omega))
  · by_cases c2 : i < m
    · rw [ee i c2]
      exact no _ _ (hie j (by omega) hj) (hP.lo i hi c2)
    · exact h2 i j (by omega) hij hj
end Go.Proofs.YtllcjmaecgfijaaDoor
