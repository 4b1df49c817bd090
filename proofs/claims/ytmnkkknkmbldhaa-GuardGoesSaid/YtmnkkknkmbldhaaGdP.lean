/- Plain: where letters lead, as decisions (guard): the store, what is told again, each once. -/
import Derived.Test.YtmnkkknkmbldhaaKBase
namespace Go.Proofs.Ytmnkkknkmbldhaa

/-- A node: its proposition, Lo and Hi. -/
abbrev Gd := Int × Int × Int
/-- What adding makes: the reference and the nodes then; k propositions are left, the next is p. -/
def adM : Nat → Int → (Nat → Nat) → List Gd → Int × List Gd
  | 0, _, f, N => (-1 - (f 0 : Int), N)
  | k + 1, p, f, N =>
    let a := adM k (p + 1) (fun i => f (2 * i)) N
    let b := adM k (p + 1) (fun i => f (2 * i + 1)) a.2
    if a.1 = b.1 then (a.1, b.2)
    else ((b.2.idxOf (p, a.1, b.1) : Int), if (p, a.1, b.1) ∈ b.2 then b.2 else b.2 ++ [(p, a.1, b.1)])
theorem adM_zero (p : Int) (f : Nat → Nat) (N : List Gd) : adM 0 p f N = (-1 - (f 0 : Int), N) := rfl
theorem adM_succ (k : Nat) (p : Int) (f : Nat → Nat) (N : List Gd) {a b : Int} {N1 N2 : List Gd} (h1 : adM k (p + 1) (fun i => f (2 * i)) N = (a, N1)) (h2 : adM k (p + 1) (fun i => f (2 * i + 1)) N1 = (b, N2)) :
    adM (k + 1) p f N = if a = b then (a, N2) else ((N2.idxOf (p, a, b) : Int), if (p, a, b) ∈ N2 then N2 else N2 ++ [(p, a, b)]) := by
  simp only [adM, h1, h2]
theorem adM_congr : ∀ (k : Nat) (p : Int) (f g : Nat → Nat) (N : List Gd), (∀ i, i < 2 ^ k → f i = g i) → adM k p f N = adM k p g N
  | 0, p, f, g, N, h => by simp [adM, h 0 (by simp)]
  | k + 1, p, f, g, N, h => by
    have e : 2 ^ (k + 1) = 2 * 2 ^ k := by rw [Nat.pow_succ]; omega
    have h1 := adM_congr k (p + 1) (fun i => f (2 * i)) (fun i => g (2 * i)) N (fun i hi => h _ (by omega))
    have h2 := adM_congr k (p + 1) (fun i => f (2 * i + 1)) (fun i => g (2 * i + 1)) (adM k (p + 1) (fun i => g (2 * i)) N).2 (fun i hi => h _ (by omega))
    simp only [adM, h1, h2]
/-- Where a letter leads from a reference, by at most so many nodes. -/
def goG (N : List Gd) (x : Nat) : Nat → Int → Option Int
  | 0, r => if r < 0 then some (-1 - r) else none
  | k + 1, r => if r < 0 then some (-1 - r) else
    match N[r.toNat]? with
    | none => none
    | some (P, lo, hi) => if 0 ≤ P ∧ P ≤ 7 then goG N x k (if x.testBit P.toNat then hi else lo) else none
theorem goG_neg {N : List Gd} {x : Nat} {r : Int} (h : r < 0) : ∀ k, goG N x k r = some (-1 - r)
  | 0 => by simp [goG, h]
  | k + 1 => by simp [goG, h]
theorem goG_node {N : List Gd} {x k i : Nat} {P lo hi : Int} (h : N[i]? = some (P, lo, hi)) (h0 : 0 ≤ P) (h7 : P ≤ 7) : goG N x (k + 1) (i : Int) = goG N x k (if x.testBit P.toNat then hi else lo) := by
  have hi : ¬ (i : Int) < 0 := by omega
  simp [goG, hi, h, h0, h7]
/-- A reference that may stand in a node with the proposition p at the place a. -/
def FitG (m : Nat) (N : List Gd) (a : Nat) (p : Int) (r : Int) : Prop :=
  (r < 0 ∧ -(m : Int) ≤ r) ∨ ∃ i, r = ((i : Nat) : Int) ∧ i < a ∧ ∃ nd, N[i]? = some nd ∧ p < nd.1
/-- Nodes that may be. -/
structure WfG (n m : Nat) (N : List Gd) : Prop where
  node : ∀ (i : Nat) (P lo hi : Int), N[i]? = some (P, lo, hi) → 0 ≤ P ∧ P < n ∧ lo ≠ hi ∧ FitG m N i P lo ∧ FitG m N i P hi
  once : N.Nodup
theorem WfG.nil (n m : Nat) : WfG n m [] := ⟨fun i P lo hi h => by simp at h, by simp⟩
theorem pre_get {α : Type} {N N' : List α} (h : N <+: N') {i : Nat} {a : α} (e : N[i]? = some a) : N'[i]? = some a := by
  obtain ⟨t, rfl⟩ := h
  have := (List.getElem?_eq_some_iff.1 e).1
  rw [List.getElem?_append_left this]; exact e
theorem FitG.mono {m : Nat} {N N' : List Gd} {a a' : Nat} {p p' r : Int} (h : FitG m N a p r) (hN : N <+: N') (ha : a ≤ a') (hp : p' ≤ p) : FitG m N' a' p' r := by
  rcases h with h | ⟨i, e, hi, nd, hn, hq⟩
  · exact .inl h
  · exact .inr ⟨i, e, by omega, nd, pre_get hN hn, by omega⟩
theorem FitG.lt {m : Nat} {N : List Gd} {a : Nat} {p r : Int} (h : FitG m N a p r) : FitG m N N.length p r := by
  rcases h with h | ⟨i, e, hi, nd, hn, hq⟩
  · exact .inl h
  · exact .inr ⟨i, e, (List.getElem?_eq_some_iff.1 hn).1, nd, hn, hq⟩
theorem idx_get {N : List Gd} {nd : Gd} (h : nd ∈ N) : N[N.idxOf nd]? = some nd := by
  have hl := List.idxOf_lt_length_of_mem h
  rw [List.getElem?_eq_getElem hl]; simp
theorem idx_pre {N N' : List Gd} (h : N <+: N') {nd : Gd} (hm : nd ∈ N) : N'.idxOf nd = N.idxOf nd := by
  obtain ⟨t, rfl⟩ := h
  simp [List.idxOf_append, hm]
theorem idx_new {N : List Gd} {nd : Gd} (h : nd ∉ N) : (N ++ [nd]).idxOf nd = N.length := by
  simp [List.idxOf_append, h]
theorem idx_out {N : List Gd} {nd : Gd} (h : nd ∉ N) : N.idxOf nd = N.length := List.idxOf_eq_length h
theorem WfG.push {n m : Nat} {N : List Gd} (h : WfG n m N) {P lo hi : Int} (h0 : 0 ≤ P) (hn : P < n) (hd : lo ≠ hi) (hl : FitG m N N.length P lo) (hh : FitG m N N.length P hi) (ho : (P, lo, hi) ∉ N) : WfG n m (N ++ [(P, lo, hi)]) := by
  have hp : N <+: N ++ [(P, lo, hi)] := List.prefix_append _ _
  refine ⟨fun i P' lo' hi' e => ?_, ?_⟩
  · by_cases hi1 : i < N.length
    · rw [List.getElem?_append_left hi1] at e
      obtain ⟨g0, g1, g2, g3, g4⟩ := h.node i _ _ _ e
      exact ⟨g0, g1, g2, g3.mono hp (Nat.le_refl _) (Int.le_refl _), g4.mono hp (Nat.le_refl _) (Int.le_refl _)⟩
    · rw [List.getElem?_append_right (by omega)] at e
      have hz : i - N.length = 0 := by
        have := (List.getElem?_eq_some_iff.1 e).1
        simp at this; omega
      have hi2 : i = N.length := by omega
      subst hi2
      simp at e
      obtain ⟨rfl, rfl, rfl⟩ := e
      exact ⟨h0, hn, hd, hl.mono hp (Nat.le_refl _) (Int.le_refl _), hh.mono hp (Nat.le_refl _) (Int.le_refl _)⟩
  · rw [List.nodup_append]
    refine ⟨h.once, by simp, fun a ha b hb => ?_⟩
    simp at hb; subst hb
    intro e; exact ho (e ▸ ha)
/-- What adding makes, in all. -/
structure AdR (n m k : Nat) (p : Int) (f : Nat → Nat) (N : List Gd) (r : Int) (N' : List Gd) : Prop where
  pre : N <+: N'
  wf : WfG n m N'
  fit : FitG m N' N'.length (p - 1) r
  len : N'.length + 1 ≤ N.length + 2 ^ k
  goes : ∀ (N2 : List Gd) (x j : Nat), N' <+: N2 → k ≤ j → goG N2 x j r = some ((f (x / 2 ^ p.toNat % 2 ^ k) : Nat) : Int)
  again : ∀ N2 : List Gd, N' <+: N2 → adM k p f N2 = (r, N2)
theorem half_mod (y k : Nat) : y % 2 ^ (k + 1) = 2 * (y / 2 % 2 ^ k) + y % 2 := by
  rw [Nat.pow_succ, Nat.mul_comm, Nat.mod_mul]; omega
theorem ad_ok {n m : Nat} (hn : n ≤ 8) : ∀ (k : Nat) (p : Int) (f : Nat → Nat) (N : List Gd), 0 ≤ p → p + k = n → (∀ i, i < 2 ^ k → f i < m) → WfG n m N → AdR n m k p f N (adM k p f N).1 (adM k p f N).2
  | 0, p, f, N, h0, hp, hf, hw => by
    have := hf 0 (by simp)
    refine ⟨List.prefix_rfl, hw, .inl ⟨by simp [adM]; omega, by simp [adM]; omega⟩, by simp [adM], fun N2 x j _ _ => ?_, fun N2 _ => by simp [adM]⟩
    rw [adM_zero, goG_neg (by simp; omega)]
    simp [Nat.mod_one]; omega
  | k + 1, p, f, N, h0, hp, hf, hw => by
    have e2 : 2 ^ (k + 1) = 2 * 2 ^ k := by rw [Nat.pow_succ]; omega
    have hA := ad_ok hn k (p + 1) (fun i => f (2 * i)) N (by omega) (by omega) (fun i hi => hf _ (by omega)) hw
    rcases e1 : adM k (p + 1) (fun i => f (2 * i)) N with ⟨a, N1⟩
    rw [e1] at hA
    have hB := ad_ok hn k (p + 1) (fun i => f (2 * i + 1)) N1 (by omega) (by omega) (fun i hi => hf _ (by omega)) hA.wf
    rcases e3 : adM k (p + 1) (fun i => f (2 * i + 1)) N1 with ⟨b, N2⟩
    rw [e3] at hB
    dsimp only at hA hB
    rw [adM_succ k p f N e1 e3]
    have hpn : (p + 1).toNat = p.toNat + 1 := by omega
    have hx : ∀ x : Nat, x / 2 ^ p.toNat % 2 ^ (k + 1) = 2 * (x / 2 ^ (p + 1).toNat % 2 ^ k) + x / 2 ^ p.toNat % 2 := fun x => by
      rw [half_mod, hpn, Nat.pow_succ, ← Nat.div_div_eq_div_mul]
    have hA' := hA.fit.mono hB.pre hB.pre.length_le (Int.le_refl _)
    have hgA : ∀ (N3 : List Gd) (x j : Nat), N2 <+: N3 → k ≤ j → goG N3 x j a = some ((f (2 * (x / 2 ^ (p + 1).toNat % 2 ^ k)) : Nat) : Int) := fun N3 x j hN hj => hA.goes N3 x j (hB.pre.trans hN) hj
    have hgB : ∀ (N3 : List Gd) (x j : Nat), N2 <+: N3 → k ≤ j → goG N3 x j b = some ((f (2 * (x / 2 ^ (p + 1).toNat % 2 ^ k) + 1) : Nat) : Int) := fun N3 x j hN hj => hB.goes N3 x j hN hj
    have hlen : N2.length + 2 ≤ N.length + 2 ^ (k + 1) := by have := hA.len; have := hB.len; omega
    by_cases hab : a = b
    · rw [if_pos hab]
      subst hab
      refine ⟨hA.pre.trans hB.pre, hB.wf, hB.fit.mono List.prefix_rfl (Nat.le_refl _) (by omega), (by dsimp only; omega), fun N3 x j hN hj => ?_, fun N3 hN => ?_⟩
      · rw [hx]
        rcases Nat.mod_two_eq_zero_or_one (x / 2 ^ p.toNat) with h2 | h2 <;> rw [h2]
        · exact hgA N3 x j hN (by omega)
        · exact hgB N3 x j hN (by omega)
      · rw [adM_succ k p f N3 (hA.again N3 (hB.pre.trans hN)) (hB.again N3 hN), if_pos rfl]
    · rw [if_neg hab]
      generalize hnd : ((p, a, b) : Gd) = nd
      have hq : ∃ N', (if nd ∈ N2 then N2 else N2 ++ [nd]) = N' ∧ N2 <+: N' ∧ nd ∈ N' ∧ N'.idxOf nd = N2.idxOf nd ∧ N'.length + 1 ≤ N.length + 2 ^ (k + 1) ∧ WfG n m N' := by
        by_cases hm : nd ∈ N2
        · exact ⟨N2, if_pos hm, List.prefix_rfl, hm, rfl, by omega, hB.wf⟩
        · refine ⟨N2 ++ [nd], if_neg hm, List.prefix_append _ _, by simp, by rw [idx_new hm, idx_out hm], by simp; omega, ?_⟩
          subst hnd
          exact hB.wf.push h0 (by omega) hab (hA'.mono List.prefix_rfl (Nat.le_refl _) (by omega)) (hB.fit.mono List.prefix_rfl (Nat.le_refl _) (by omega)) hm
      obtain ⟨N', eN, hp1, hmm, hix, hl, hwf⟩ := hq
      dsimp only
      rw [eN, ← hix]
      have hget := idx_get hmm
      refine ⟨(hA.pre.trans hB.pre).trans hp1, hwf, .inr ⟨_, rfl, List.idxOf_lt_length_of_mem hmm, nd, hget, by subst hnd; simp; omega⟩, hl, fun N3 x j hN hj => ?_, fun N3 hN => ?_⟩
      · obtain ⟨j, rfl⟩ : ∃ j', j = j' + 1 := ⟨j - 1, by omega⟩
        have hg := pre_get hN hget
        subst hnd
        rw [goG_node hg h0 (by omega), hx, Nat.testBit_eq_decide_div_mod_eq]
        rcases Nat.mod_two_eq_zero_or_one (x / 2 ^ p.toNat) with h2 | h2 <;> rw [h2]
        · simpa using hgA N3 x j (hp1.trans hN) (by omega)
        · simpa using hgB N3 x j (hp1.trans hN) (by omega)
      · rw [adM_succ k p f N3 (hA.again N3 ((hB.pre.trans hp1).trans hN)) (hB.again N3 (hp1.trans hN)), if_neg hab, hnd]
        have hm3 : nd ∈ N3 := hN.subset hmm
        rw [if_pos hm3, idx_pre hN hmm]
end Go.Proofs.Ytmnkkknkmbldhaa
