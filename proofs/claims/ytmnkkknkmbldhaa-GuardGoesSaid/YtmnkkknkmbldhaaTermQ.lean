/- Formulas as lists of tokens, plain, on: what is read is trees; blocks. -/
import Derived.Test.YtmnkkknkmbldhaaTermP
namespace Go.Proofs.Ytmnkkknkmbldhaa

def stk : List Tr → Nat → List Pt
  | [], _ => []
  | t :: r, o => t.part o :: stk r (o + t.size)
def flatA (ts : List Tr) : List Tk := ts.flatMap Tr.flat
def sizeA : List Tr → Nat
  | [] => 0
  | t :: r => t.size + sizeA r
def partsA : List Tr → Nat → List Pt
  | [], _ => []
  | t :: r, o => t.parts o ++ partsA r (o + t.size)
theorem sizeA_append : ∀ (xs ys : List Tr), sizeA (xs ++ ys) = sizeA xs + sizeA ys
  | [], ys => by simp [sizeA]
  | t :: r, ys => by simp only [List.cons_append, sizeA, sizeA_append r ys]; omega
theorem stk_append : ∀ (xs ys : List Tr) (o : Nat), stk (xs ++ ys) o = stk xs o ++ stk ys (o + sizeA xs)
  | [], ys, o => by simp [stk, sizeA]
  | t :: r, ys, o => by simp only [List.cons_append, stk, stk_append r ys, sizeA, Nat.add_assoc]
theorem partsA_append : ∀ (xs ys : List Tr) (o : Nat), partsA (xs ++ ys) o = partsA xs o ++ partsA ys (o + sizeA xs)
  | [], ys, o => by simp [partsA, sizeA]
  | t :: r, ys, o => by simp only [List.cons_append, partsA, partsA_append r ys, sizeA, Nat.add_assoc, List.append_assoc]
theorem stk_len : ∀ (xs : List Tr) (o : Nat), (stk xs o).length = xs.length
  | [], _ => rfl
  | t :: r, o => by simp [stk, stk_len r]
theorem flatA_append (xs ys : List Tr) : flatA (xs ++ ys) = flatA xs ++ flatA ys := by simp [flatA]

/-- What is on the stack is trees, side by side. -/
theorem read_trees : ∀ (l : List Tk) (ts : List Tr) (all s : List Pt), (∀ t ∈ ts, t.WF) → readP l (sizeA ts) (stk ts 0) = some (all, s) →
    ∃ ts' : List Tr, (∀ t ∈ ts', t.WF) ∧ flatA ts' = flatA ts ++ l ∧ s = stk ts' 0 ∧ partsA ts' 0 = partsA ts 0 ++ all := by
  intro l
  induction l with
  | nil =>
    intro ts all s hw h
    unfold readP at h
    injection h with h
    injection h with h1 h2
    subst h1 h2
    exact ⟨ts, hw, by simp, rfl, by simp⟩
  | cons t r ih =>
    intro ts all s hw h
    rw [readP] at h
    cases ht : takesN t with
    | none => rw [ht] at h; cases h
    | some n =>
      rw [ht] at h
      simp only at h
      by_cases hl : (stk ts 0).length < n
      · rw [if_pos hl] at h; cases h
      · rw [if_neg hl] at h
        by_cases hf : fitsP t.1 ((stk ts 0).drop ((stk ts 0).length - n)) = true
        · rw [if_pos hf] at h
          cases hr : readP r (sizeA ts + 1) ((stk ts 0).take ((stk ts 0).length - n) ++ [putP t ((stk ts 0).drop ((stk ts 0).length - n)) (sizeA ts)]) with
          | none => rw [hr] at h; cases h
          | some x =>
            rw [hr] at h
            obtain ⟨all', s'⟩ := x
            injection h with h
            injection h with h1 h2
            subst h1 h2
            have hn := takesN_le ht
            rw [stk_len] at hl
            match n, hn with
            | 0, _ =>
              have hd : (stk ts 0).drop ((stk ts 0).length - 0) = [] := by simp
              have htk : (stk ts 0).take ((stk ts 0).length - 0) = stk ts 0 := by simp
              rw [hd] at hf hr ⊢
              rw [htk] at hr
              have e1 : stk ts 0 ++ [putP t [] (sizeA ts)] = stk (ts ++ [.leaf t]) 0 := by rw [stk_append]; simp [stk, Tr.part]
              have e2 : sizeA ts + 1 = sizeA (ts ++ [.leaf t]) := by rw [sizeA_append]; rfl
              rw [e1, e2] at hr
              obtain ⟨ts', h1, h2, h3, h4⟩ := ih (ts ++ [.leaf t]) _ _ (fun x hx => by
                rcases List.mem_append.1 hx with hx | hx
                · exact hw x hx
                · rw [List.mem_singleton.1 hx]; exact ⟨ht, hf⟩) hr
              refine ⟨ts', h1, by rw [h2, flatA_append]; simp [flatA, Tr.flat], h3, ?_⟩
              rw [h4, partsA_append]; simp [partsA, Tr.parts]
            | 1, _ =>
              rcases List.eq_nil_or_concat ts with h0 | ⟨ts0, c, h0⟩
              · subst h0; simp at hl
              · rw [List.concat_eq_append] at h0
                subst h0
                have es : stk (ts0 ++ [c]) 0 = stk ts0 0 ++ [c.part (sizeA ts0)] := by rw [stk_append]; simp [stk]
                rw [es, drop_snoc] at hf hr ⊢
                rw [take_snoc1] at hr
                have ez : sizeA (ts0 ++ [c]) = sizeA ts0 + c.size := by rw [sizeA_append]; rfl
                rw [ez] at hr ⊢
                have e1 : stk ts0 0 ++ [putP t [c.part (sizeA ts0)] (sizeA ts0 + c.size)] = stk (ts0 ++ [.un t c]) 0 := by rw [stk_append]; simp [stk, Tr.part]
                have e2 : sizeA ts0 + c.size + 1 = sizeA (ts0 ++ [.un t c]) := by rw [sizeA_append]; simp [sizeA, Tr.size]; omega
                rw [e1, e2] at hr
                obtain ⟨ts', h1, h2, h3, h4⟩ := ih (ts0 ++ [.un t c]) _ _ (fun x hx => by
                  rcases List.mem_append.1 hx with hx | hx
                  · exact hw x (List.mem_append_left _ hx)
                  · rw [List.mem_singleton.1 hx]; exact ⟨ht, by rw [fits_un] at hf; exact hf, hw c (by simp)⟩) hr
                refine ⟨ts', h1, by rw [h2, flatA_append, flatA_append]; simp [flatA, Tr.flat], h3, ?_⟩
                rw [h4, partsA_append, partsA_append]; simp [partsA, Tr.parts]
            | 2, _ =>
              rcases List.eq_nil_or_concat ts with h0 | ⟨ts1, d, h0⟩
              · subst h0; simp at hl
              · rw [List.concat_eq_append] at h0
                subst h0
                rcases List.eq_nil_or_concat ts1 with h0 | ⟨ts0, c, h0⟩
                · subst h0; simp at hl
                · rw [List.concat_eq_append] at h0
                  subst h0
                  have es : stk (ts0 ++ [c] ++ [d]) 0 = stk ts0 0 ++ [c.part (sizeA ts0)] ++ [d.part (sizeA ts0 + c.size)] := by rw [stk_append, stk_append]; simp [stk, sizeA_append, sizeA]
                  rw [es, drop_snoc2] at hf hr ⊢
                  rw [take_snoc2] at hr
                  have ez : sizeA (ts0 ++ [c] ++ [d]) = sizeA ts0 + c.size + d.size := by rw [sizeA_append, sizeA_append]; simp [sizeA]
                  rw [ez] at hr ⊢
                  have e1 : stk ts0 0 ++ [putP t [c.part (sizeA ts0), d.part (sizeA ts0 + c.size)] (sizeA ts0 + c.size + d.size)] = stk (ts0 ++ [.bin t c d]) 0 := by rw [stk_append]; simp [stk, Tr.part]
                  have e2 : sizeA ts0 + c.size + d.size + 1 = sizeA (ts0 ++ [.bin t c d]) := by rw [sizeA_append]; simp [sizeA, Tr.size]; omega
                  rw [e1, e2] at hr
                  obtain ⟨ts', h1, h2, h3, h4⟩ := ih (ts0 ++ [.bin t c d]) _ _ (fun x hx => by
                    rcases List.mem_append.1 hx with hx | hx
                    · exact hw x (List.mem_append_left _ (List.mem_append_left _ hx))
                    · rw [List.mem_singleton.1 hx]; exact ⟨ht, by rw [fits_bin] at hf; exact hf, hw c (by simp), hw d (by simp)⟩) hr
                  refine ⟨ts', h1, by rw [h2, flatA_append, flatA_append, flatA_append]; simp [flatA, Tr.flat], h3, ?_⟩
                  rw [h4, partsA_append, partsA_append, partsA_append]; simp [partsA, Tr.parts, sizeA_append, sizeA]
        · rw [if_neg hf] at h; cases h
/-- Tokens are one part's just if they are a tree's. -/
theorem read_one {l : List Tk} {all : List Pt} {p : Pt} : readP l 0 [] = some (all, [p]) ↔ ∃ t : Tr, t.WF ∧ l = t.flat ∧ all = t.parts 0 ∧ p = t.part 0 := by
  constructor
  · intro h
    obtain ⟨ts, h1, h2, h3, h4⟩ := read_trees l [] all [p] (fun t ht => by simp at ht) h
    match ts, h3 with
    | [], h3 => cases h3
    | [t], h3 =>
      injection h3 with h3 _
      refine ⟨t, h1 t (by simp), ?_, ?_, h3⟩
      · simpa [flatA] using h2.symm
      · simpa [partsA] using h4.symm
    | t :: t' :: r, h3 => simp [stk] at h3
  · rintro ⟨t, hw, rfl, rfl, rfl⟩
    have := read_flat t hw [] 0 []
    rw [List.append_nil] at this
    rw [this]; simp [readP]

theorem parts_last : ∀ (t : Tr) (o : Nat), ∃ q, t.parts o = q ++ [t.part o] ∧ q.length + 1 = t.size
  | .leaf t, o => ⟨[], rfl, rfl⟩
  | .un t c, o => ⟨c.parts o, rfl, by rw [parts_len]; rfl⟩
  | .bin t c d, o => ⟨c.parts o ++ d.parts (o + c.size), rfl, by rw [List.length_append, parts_len, parts_len]; rfl⟩
theorem parts_frm : ∀ (t : Tr) (o : Nat), ∀ q ∈ t.parts o, o ≤ q.frm
  | .leaf t, o => by intro q hq; simp [Tr.parts] at hq; subst hq; exact Nat.le_refl _
  | .un t c, o => by
    intro q hq
    rcases List.mem_append.1 hq with h | h
    · exact parts_frm c o q h
    · rw [List.mem_singleton.1 h]; show o ≤ (c.part o).frm; rw [part_frm]; exact Nat.le_refl _
  | .bin t c d, o => by
    intro q hq
    rcases List.mem_append.1 hq with h | h
    · rcases List.mem_append.1 h with h | h
      · exact parts_frm c o q h
      · have := parts_frm d (o + c.size) q h; omega
    · rw [List.mem_singleton.1 h]; show o ≤ (c.part o).frm; rw [part_frm]; exact Nat.le_refl _
theorem parts_dep : ∀ (t : Tr) (o : Nat), ∀ q ∈ t.parts o, q.dep ≤ (t.part o).dep
  | .leaf t, o => by intro q hq; simp [Tr.parts] at hq; subst hq; exact Nat.le_refl _
  | .un t c, o => by
    intro q hq
    rcases List.mem_append.1 hq with h | h
    · have h1 := parts_dep c o q h
      show _ ≤ max 1 ((c.part o).dep + 1); omega
    · rw [List.mem_singleton.1 h]; exact Nat.le_refl _
  | .bin t c d, o => by
    intro q hq
    rcases List.mem_append.1 hq with h | h
    · rcases List.mem_append.1 h with h | h
      · have h1 := parts_dep c o q h
        show _ ≤ max (max 1 ((c.part o).dep + 1)) ((d.part (o + c.size)).dep + 1); omega
      · have h1 := parts_dep d (o + c.size) q h
        show _ ≤ max (max 1 ((c.part o).dep + 1)) ((d.part (o + c.size)).dep + 1); omega
    · rw [List.mem_singleton.1 h]; exact Nat.le_refl _
/-- The block of the token at i is a tree's tokens. -/
theorem sub_at : ∀ (t : Tr), t.WF → ∀ (o i : Nat), i < t.size → ∃ (s : Tr) (pre post : List Tk) (qpre qpost : List Pt), s.WF ∧ t.flat = pre ++ s.flat ++ post ∧ t.parts o = qpre ++ s.parts (o + pre.length) ++ qpost ∧ qpre.length = pre.length ∧ pre.length + s.size = i + 1
  | .leaf t, h, o, i, hi => ⟨.leaf t, [], [], [], [], h, by simp, by simp, rfl, by simp [Tr.size] at hi ⊢; omega⟩
  | .un t c, h, o, i, hi => by
    by_cases hc : i < c.size
    · obtain ⟨s, pre, post, qp, qq, h1, h2, h3, h4, h5⟩ := sub_at c h.2.2 o i hc
      exact ⟨s, pre, post ++ [t], qp, qq ++ [putP t [c.part o] (o + c.size)], h1, by simp [Tr.flat, h2], by simp [Tr.parts, h3], h4, h5⟩
    · exact ⟨.un t c, [], [], [], [], h, by simp, by simp, rfl, by simp [Tr.size] at hi ⊢; omega⟩
  | .bin t c d, h, o, i, hi => by
    by_cases hc : i < c.size
    · obtain ⟨s, pre, post, qp, qq, h1, h2, h3, h4, h5⟩ := sub_at c h.2.2.1 o i hc
      exact ⟨s, pre, post ++ d.flat ++ [t], qp, qq ++ d.parts (o + c.size) ++ [putP t [c.part o, d.part (o + c.size)] (o + c.size + d.size)], h1, by simp [Tr.flat, h2], by simp [Tr.parts, h3], h4, h5⟩
    · by_cases hd : i < c.size + d.size
      · obtain ⟨s, pre, post, qp, qq, h1, h2, h3, h4, h5⟩ := sub_at d h.2.2.2 (o + c.size) (i - c.size) (by omega)
        refine ⟨s, c.flat ++ pre, post ++ [t], c.parts o ++ qp, qq ++ [putP t [c.part o, d.part (o + c.size)] (o + c.size + d.size)], h1, by simp [Tr.flat, h2], ?_, by simp [h4, flat_len, parts_len], by simp [flat_len]; omega⟩
        simp [Tr.parts, h3, flat_len, Nat.add_assoc]
      · exact ⟨.bin t c d, [], [], [], [], h, by simp, by simp, rfl, by simp [Tr.size] at hi ⊢; omega⟩
end Go.Proofs.Ytmnkkknkmbldhaa
