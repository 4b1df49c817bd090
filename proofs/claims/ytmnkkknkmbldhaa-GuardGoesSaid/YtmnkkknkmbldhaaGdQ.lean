/- Plain: tables, lists there and back, which automaton may be (guard). -/
import Derived.Test.YtmnkkknkmbldhaaGdP
namespace Go.Proofs.Ytmnkkknkmbldhaa

/-- The states that the first letters lead to. -/
def tabT (N : List Gd) (r : Int) : Nat → Option (List Int)
  | 0 => some []
  | k + 1 => (tabT N r k).bind fun l => (goG N k 8 r).map fun v => l ++ [v]
theorem tabT_ok {N : List Gd} {r : Int} {f : Nat → Int} : ∀ (k : Nat), (∀ x, x < k → goG N x 8 r = some (f x)) → tabT N r k = some ((List.range k).map f)
  | 0, _ => rfl
  | k + 1, h => by
    have h1 := tabT_ok k (fun x hx => h x (by omega))
    simp only [tabT, h1, h k (by omega), List.range_succ]
    simp
theorem tabT_none {N : List Gd} {r : Int} {i : Nat} (h : goG N i 8 r = none) : ∀ (k : Nat), i < k → tabT N r k = none
  | 0, hi => by omega
  | k + 1, hi => by
    by_cases e : i = k
    · subst e; simp only [tabT, h]; cases tabT N r i <;> rfl
    · have h1 := tabT_none h k (by omega)
      simp only [tabT, h1]; rfl
theorem tabT_len {N : List Gd} {r : Int} : ∀ {k : Nat} {l : List Int}, tabT N r k = some l → l.length = k
  | 0, l, h => by simp [tabT] at h; subst h; rfl
  | k + 1, l, h => by
    rcases h1 : tabT N r k with _ | l1
    · simp [tabT, h1] at h
    · rcases h2 : goG N k 8 r with _ | v
      · simp [tabT, h1, h2] at h
      · simp [tabT, h1, h2] at h
        subst h
        simp [tabT_len h1]
/-- A list as what letters lead to. -/
def fnL (l : List Nat) : Nat → Nat := fun i => l.getD i 0
theorem fnL_map (l : List Nat) {n : Nat} (h : l.length = n) : (List.range n).map (fun x => ((fnL l x : Nat) : Int)) = l.map Int.ofNat := by
  subst h
  apply List.ext_getElem (by simp)
  intro i h1 h2
  simp [fnL] at h1 h2 ⊢
  simp [h1]
theorem fnL_ext {l k : List Nat} {n : Nat} (hl : l.length = n) (hk : k.length = n) (h : ∀ x, x < n → fnL l x = fnL k x) : l = k := by
  apply List.ext_getElem (by omega)
  intro i h1 h2
  have := h i (by omega)
  simpa [fnL, h1, h2] using this
theorem fnL_lt {l : List Nat} {m : Nat} (h : ∀ v ∈ l, v < m) {i : Nat} (hi : i < l.length) : fnL l i < m := by
  simp only [fnL, List.getD_eq_getElem?_getD, List.getElem?_eq_getElem hi, Option.getD_some]
  exact h _ (List.getElem_mem hi)
/-- Lists that were added, with their references. -/
structure BkG (n m : Nat) (N : List Gd) (K : List (List Nat)) (R : List Int) : Prop where
  wf : WfG n m N
  len : R.length = K.length
  it : ∀ (i : Nat) (l : List Nat) (r : Int), K[i]? = some l → R[i]? = some r → l.length = 2 ^ n ∧ FitG m N N.length (-1) r ∧ (∀ (N2 : List Gd) (x : Nat), N <+: N2 → x < 2 ^ n → goG N2 x 8 r = some ((fnL l x : Nat) : Int)) ∧ ∀ N2 : List Gd, N <+: N2 → adM n 0 (fnL l) N2 = (r, N2)
  few : N.length ≤ K.length * 2 ^ n
theorem BkG.nil (n m : Nat) : BkG n m [] [] [] := ⟨WfG.nil n m, rfl, fun i l r h => by simp at h, by simp⟩
theorem BkG.add {n m : Nat} {N : List Gd} {K : List (List Nat)} {R : List Int} (h : BkG n m N K R) (hn : n ≤ 8) {l : List Nat} (hl : l.length = 2 ^ n) (hm : ∀ v ∈ l, v < m) {r : Int} {N' : List Gd} (e : adM n 0 (fnL l) N = (r, N')) : BkG n m N' (K ++ [l]) (R ++ [r]) := by
  have a := ad_ok hn n 0 (fnL l) N (by omega) (by omega) (fun i hi => fnL_lt hm (by omega)) h.wf
  rw [e] at a
  dsimp only at a
  refine ⟨a.wf, by simp [h.len], fun i k s hk hs => ?_, ?_⟩
  · by_cases hi : i < K.length
    · rw [List.getElem?_append_left hi] at hk
      rw [List.getElem?_append_left (by rw [h.len]; exact hi)] at hs
      obtain ⟨h1, h2, h3, h4⟩ := h.it i k s hk hs
      exact ⟨h1, h2.mono a.pre a.pre.length_le (Int.le_refl _), fun N2 x hN hx => h3 N2 x (a.pre.trans hN) hx, fun N2 hN => h4 N2 (a.pre.trans hN)⟩
    · have hz : i = K.length := by
        have := (List.getElem?_eq_some_iff.1 hk).1
        simp at this; omega
      subst hz
      rw [List.getElem?_append_right (Nat.le_refl _)] at hk
      rw [List.getElem?_append_right (by rw [h.len]; exact Nat.le_refl _)] at hs
      simp [h.len] at hk hs
      subst hk; subst hs
      refine ⟨hl, a.fit.mono List.prefix_rfl (Nat.le_refl _) (by omega), fun N2 x hN hx => ?_, a.again⟩
      have := a.goes N2 x 8 hN (by omega)
      simpa [Nat.mod_eq_of_lt hx] using this
  · have h1 := a.len
    have h2 := h.few
    simp only [List.length_append, List.length_cons, List.length_nil, Nat.add_mul]
    omega
theorem BkG.iff {n m : Nat} {N : List Gd} {K : List (List Nat)} {R : List Int} (h : BkG n m N K R) {i j : Nat} {l k : List Nat} {r s : Int} (hl : K[i]? = some l) (hr : R[i]? = some r) (hk : K[j]? = some k) (hs : R[j]? = some s) : r = s ↔ l = k := by
  obtain ⟨a1, _, a3, a4⟩ := h.it i l r hl hr
  obtain ⟨b1, _, b3, b4⟩ := h.it j k s hk hs
  constructor
  · intro e
    subst e
    refine fnL_ext a1 b1 fun x hx => ?_
    have := (a3 N x List.prefix_rfl hx).symm.trans (b3 N x List.prefix_rfl hx)
    simp at this; omega
  · intro e
    subst e
    have := (a4 N List.prefix_rfl).symm.trans (b4 N List.prefix_rfl)
    exact congrArg Prod.fst this
theorem BkG.tab {n m : Nat} {N : List Gd} {K : List (List Nat)} {R : List Int} (h : BkG n m N K R) {i : Nat} {l : List Nat} {r : Int} (hl : K[i]? = some l) (hr : R[i]? = some r) : tabT N r (2 ^ n) = some (l.map Int.ofNat) := by
  obtain ⟨a1, _, a3, _⟩ := h.it i l r hl hr
  rw [tabT_ok (2 ^ n) (fun x hx => a3 N x List.prefix_rfl hx), fnL_map l a1]
/-- An automaton that may be. -/
structure MayG (props : Int) (ns : Nat) (N : List Gd) (gs : List Int) : Prop where
  p0 : 0 ≤ props
  p8 : props ≤ 8
  s1 : 1 ≤ ns
  s2 : ns ≤ 256
  len : gs.length = ns
  few : N.length ≤ 4096
  node : ∀ (i : Nat) (P lo hi : Int), N[i]? = some (P, lo, hi) → 0 ≤ P ∧ P < props ∧ lo ≠ hi ∧ FitG ns N i P lo ∧ FitG ns N i P hi
  once : N.Nodup
  gd : ∀ g ∈ gs, FitG ns N N.length (-1) g
theorem FitG.more {m m' : Nat} {N : List Gd} {a : Nat} {p r : Int} (h : FitG m N a p r) (hm : m ≤ m') : FitG m' N a p r := by
  rcases h with ⟨h1, h2⟩ | h
  · exact .inl ⟨h1, by omega⟩
  · exact .inr h
theorem BkG.may {n m ns : Nat} {N : List Gd} {K : List (List Nat)} {R : List Int} (h : BkG n m N K R) (hn : n ≤ 8) (h1 : 1 ≤ ns) (h2 : ns ≤ 256) (hm : m ≤ ns) {gs : List Int} (hg : gs.length = ns) (hr : ∀ g ∈ gs, g = -1 ∨ g ∈ R) (hN : N.length ≤ 4096) : MayG n ns N gs := by
  refine ⟨by omega, by omega, h1, h2, hg, hN, fun i P lo hi e => ?_, h.wf.once, fun g hm1 => ?_⟩
  · obtain ⟨g0, g1, g2, g3, g4⟩ := h.wf.node i P lo hi e
    exact ⟨g0, g1, g2, g3.more hm, g4.more hm⟩
  · rcases hr g hm1 with rfl | hg1
    · exact .inl ⟨by omega, by omega⟩
    · obtain ⟨i, hi⟩ := List.mem_iff_getElem?.1 hg1
      have hi1 := (List.getElem?_eq_some_iff.1 hi).1
      have hi2 : i < K.length := by rw [← h.len]; exact hi1
      exact (h.it i _ g (List.getElem?_eq_getElem hi2) hi).2.1.more hm
/-- What Add answers, and the nodes then. -/
def addG (n : Nat) (N : List Gd) (l : List Int) : (Int × Int) × List Gd :=
  if l.length ≠ 2 ^ n ∨ ¬ ∀ v ∈ l, 0 ≤ v ∧ v ≤ 1048575 then ((0, 2), N)
  else if 4096 < (adM n 0 (fnL (l.map Int.toNat)) N).2.length then ((0, 11), N)
  else (((adM n 0 (fnL (l.map Int.toNat)) N).1, 0), (adM n 0 (fnL (l.map Int.toNat)) N).2)
/-- The halves of a list: those at even places, and those at odd ones. -/
def evL : List Nat → List Nat
  | a :: _ :: l => a :: evL l
  | [a] => [a]
  | [] => []
def odL : List Nat → List Nat
  | _ :: b :: l => b :: odL l
  | [_] => []
  | [] => []
theorem ev_len : ∀ (l : List Nat) (k : Nat), l.length = 2 * k → (evL l).length = k ∧ (odL l).length = k
  | a :: b :: l, k, h => by
    have h1 := ev_len l (k - 1) (by simp at h; omega)
    simp only [List.length_cons] at h
    exact ⟨by simp [evL, h1.1]; omega, by simp [odL, h1.2]; omega⟩
  | [a], k, h => by simp at h; omega
  | [], k, h => by
    have : k = 0 := by simp at h; omega
    subst this; exact ⟨rfl, rfl⟩
theorem ev_at : ∀ (l : List Nat) (i : Nat), fnL (evL l) i = fnL l (2 * i)
  | a :: b :: l, 0 => by simp [evL, fnL]
  | a :: b :: l, i + 1 => by
    have := ev_at l i
    simp only [fnL, List.getD_eq_getElem?_getD] at this
    simp [evL, fnL, Nat.mul_add, this]
  | [a], i => by cases i <;> simp [evL, fnL, Nat.mul_add]
  | [], i => by simp [evL, fnL]
theorem od_at : ∀ (l : List Nat) (i : Nat), fnL (odL l) i = fnL l (2 * i + 1)
  | a :: b :: l, 0 => by simp [odL, fnL]
  | a :: b :: l, i + 1 => by
    have := od_at l i
    simp only [fnL, List.getD_eq_getElem?_getD] at this
    simp [odL, fnL, Nat.mul_add, this]
  | [a], i => by simp [odL, fnL]
  | [], i => by simp [odL, fnL]
theorem adM_halves (k : Nat) (p : Int) (l : List Nat) (N : List Gd) {a b : Int} {N1 N2 : List Gd} (h1 : adM k (p + 1) (fnL (evL l)) N = (a, N1)) (h2 : adM k (p + 1) (fnL (odL l)) N1 = (b, N2)) :
    adM (k + 1) p (fnL l) N = if a = b then (a, N2) else ((N2.idxOf (p, a, b) : Int), if (p, a, b) ∈ N2 then N2 else N2 ++ [(p, a, b)]) := by
  have e1 : fnL (evL l) = fun i => fnL l (2 * i) := funext (ev_at l)
  have e2 : fnL (odL l) = fun i => fnL l (2 * i + 1) := funext (od_at l)
  rw [e1] at h1; rw [e2] at h2
  exact adM_succ k p (fnL l) N h1 h2
/-- Whatever the states, nodes are only added behind, and not more than so many. -/
theorem ad_pre : ∀ (k : Nat) (p : Int) (f : Nat → Nat) (N : List Gd), N <+: (adM k p f N).2 ∧ (adM k p f N).2.length + 1 ≤ N.length + 2 ^ k
  | 0, p, f, N => by simp [adM]
  | k + 1, p, f, N => by
    have hA := ad_pre k (p + 1) (fun i => f (2 * i)) N
    rcases e1 : adM k (p + 1) (fun i => f (2 * i)) N with ⟨a, N1⟩
    have hB := ad_pre k (p + 1) (fun i => f (2 * i + 1)) N1
    rcases e2 : adM k (p + 1) (fun i => f (2 * i + 1)) N1 with ⟨b, N2⟩
    rw [e1] at hA; rw [e2] at hB
    dsimp only at hA hB
    have e3 : 2 ^ (k + 1) = 2 * 2 ^ k := by rw [Nat.pow_succ]; omega
    rw [adM_succ k p f N e1 e2]
    split
    · exact ⟨hA.1.trans hB.1, by dsimp only; omega⟩
    · dsimp only
      split
      · exact ⟨hA.1.trans hB.1, by omega⟩
      · exact ⟨(hA.1.trans hB.1).trans (List.prefix_append _ _), by simp; omega⟩
end Go.Proofs.Ytmnkkknkmbldhaa
