/- Plain: the words of texts put together. -/
import Derived.Test.YtnibcmmgnenfcaaDoorLexQ
namespace Go.Proofs.YtnibcmmgnenfcaaDoor

/-- The words of a text, places aside. -/
def Lex (s : Bytes) (l : List (Nat × ByteArray)) : Prop := ∃ ws, wat s 0 = .ok ws ∧ ws.map same2 = l
theorem wgo_place : ∀ (n p p' : Nat) (s : Bytes) (ws : List Wd), wgo n p s = .ok ws → ∃ ws', wgo n p' s = .ok ws' ∧ ws'.map same2 = ws.map same2
  | 0, p, p', s, ws, h => by
    simp only [wgo] at h ⊢; injection h with h; subst h; exact ⟨[], rfl, rfl⟩
  | n + 1, p, p', [], ws, h => by
    simp only [wgo] at h ⊢; injection h with h; subst h; exact ⟨[], rfl, rfl⟩
  | n + 1, p, p', b :: r, ws, h => by
    unfold wgo at h ⊢
    by_cases hb : b = 32
    · rw [if_pos hb] at h ⊢; exact wgo_place n _ _ r ws h
    · rw [if_neg hb] at h ⊢
      by_cases h0 : firstL (b :: r) = []
      · rw [if_pos h0] at h; cases h
      · rw [if_neg h0] at h ⊢
        cases hr : wgo n (p + (firstL (b :: r)).length) ((b :: r).drop (firstL (b :: r)).length) with
        | error e => rw [hr] at h; cases h
        | ok l =>
          rw [hr] at h
          injection h with h
          subst h
          obtain ⟨l', h1, h2⟩ := wgo_place n _ (p' + (firstL (b :: r)).length) _ l hr
          rw [h1]
          exact ⟨_, rfl, by simp [h2, same2]⟩
theorem lex_iff {s : Bytes} {l : List (Nat × ByteArray)} : Lex s l ↔ ∃ n p ws, s.length ≤ n ∧ wgo n p s = .ok ws ∧ ws.map same2 = l := by
  constructor
  · rintro ⟨ws, h1, h2⟩
    unfold wat at h1
    rw [List.drop_zero] at h1
    exact ⟨s.length, 0, ws, Nat.le_refl _, h1, h2⟩
  · rintro ⟨n, p, ws, hn, h1, h2⟩
    rw [wgo_fuel n s.length p s hn (Nat.le_refl _)] at h1
    obtain ⟨ws', h3, h4⟩ := wgo_place _ p 0 s ws h1
    exact ⟨ws', by unfold wat; rw [List.drop_zero]; exact h3, by rw [h4, h2]⟩
theorem Lex.nil : Lex [] [] := ⟨[], rfl, rfl⟩
theorem Lex.blank {s : Bytes} {l : List (Nat × ByteArray)} (h : Lex s l) : Lex (32 :: s) l := by
  obtain ⟨n, p, ws, hn, h1, h2⟩ := lex_iff.1 h
  obtain ⟨ws', h3, h4⟩ := wgo_place n p (0 + 1) s ws h1
  refine lex_iff.2 ⟨n + 1, 0, ws', by simp; omega, ?_, by rw [h4, h2]⟩
  unfold wgo; rw [if_pos rfl]; exact h3
theorem Lex.word {x s : Bytes} {l : List (Nat × ByteArray)} (hx : x ≠ []) (hb : x.headD 0 ≠ 32) (hf : firstL (x ++ s) = x) (h : Lex s l) : Lex (x ++ s) (((sortL x).1, mkB x) :: l) := by
  obtain ⟨n, p, ws, hn, h1, h2⟩ := lex_iff.1 h
  obtain ⟨b, r, rfl⟩ : ∃ b r, x = b :: r := by cases x with | nil => exact absurd rfl hx | cons b r => exact ⟨b, r, rfl⟩
  have hb' : b ≠ 32 := by simpa using hb
  obtain ⟨ws', h3, h4⟩ := wgo_place n p (0 + (b :: r).length) s ws h1
  have hn2 : s.length ≤ n + (b :: r).length := by omega
  rw [wgo_fuel n (n + (b :: r).length) _ s hn hn2] at h3
  refine lex_iff.2 ⟨n + (b :: r).length + 1, 0, ⟨(sortL (b :: r)).1, mkB (b :: r), ((0 : Nat) : Int)⟩ :: ws', by simp only [List.length_append]; omega, ?_, by simp [h4, h2, same2]⟩
  rw [List.cons_append] at hf ⊢
  unfold wgo
  rw [if_neg hb', hf, if_neg (by simp)]
  have hd : (b :: (r ++ s)).drop (b :: r).length = s := by rw [← List.cons_append, List.drop_left]
  rw [hd, h3]
/-- How a text's words begin. -/
theorem Lex.cases {s : Bytes} {l : List (Nat × ByteArray)} (h : Lex s l) : (s = [] ∧ l = []) ∨ (∃ s', s = 32 :: s' ∧ Lex s' l) ∨ ∃ s' l', firstL s ≠ [] ∧ s = firstL s ++ s' ∧ Lex s' l' ∧ l = ((sortL (firstL s)).1, mkB (firstL s)) :: l' ∧ s.headD 0 ≠ 32 := by
  obtain ⟨ws, h1, h2⟩ := h
  unfold wat at h1
  rw [List.drop_zero] at h1
  cases s with
  | nil => simp [wgo] at h1; subst h1; exact Or.inl ⟨rfl, by simpa using h2.symm⟩
  | cons b r =>
    right
    rw [List.length_cons] at h1
    unfold wgo at h1
    by_cases hb : b = 32
    · rw [if_pos hb] at h1
      subst hb
      exact Or.inl ⟨r, rfl, lex_iff.2 ⟨r.length, _, ws, Nat.le_refl _, h1, h2⟩⟩
    · rw [if_neg hb] at h1
      by_cases h0 : firstL (b :: r) = []
      · rw [if_pos h0] at h1; cases h1
      · rw [if_neg h0] at h1
        cases hr : wgo r.length (0 + (firstL (b :: r)).length) ((b :: r).drop (firstL (b :: r)).length) with
        | error e => rw [hr] at h1; cases h1
        | ok l' =>
          rw [hr] at h1
          injection h1 with h1
          subst h1
          have hp : 0 < (firstL (b :: r)).length := List.length_pos_iff.2 h0
          refine Or.inr ⟨(b :: r).drop (firstL (b :: r)).length, l'.map same2, h0, ?_, lex_iff.2 ⟨r.length, _, l', by rw [List.length_drop, List.length_cons]; omega, hr, rfl⟩, ?_, by simpa using hb⟩
          · conv => lhs; rw [← List.take_append_drop (firstL (b :: r)).length (b :: r)]
            rw [← first_pre]
          · rw [← h2]; simp [same2]
/-- A byte that ends every word. -/
def Brk (c : UInt8) : Prop := plnB c = false ∧ c ≠ 45
/-- A word of letters and digits, a sign. -/
theorem first_two {s : Bytes} (h : firstL s ≠ []) : ((firstL s).all plnB = true ∧ (sortL (firstL s)).2 = true ∧ runN s = (firstL s).length) ∨ (firstL s ∈ sgR ∧ runN s = 0) := by
  have h2 := first_sort h
  unfold firstL at h h2 ⊢
  by_cases hc : (decide (0 < runN s) && (sortL (s.take (runN s))).2) = true
  · rw [if_pos hc] at h h2 ⊢
    exact Or.inl ⟨runN_take s, h2, by rw [List.length_take]; have := runN_le s; omega⟩
  · rw [if_neg hc] at h h2 ⊢
    by_cases h0 : runN s = 0
    · rw [if_pos h0] at h h2 ⊢
      rcases hit_cases s with e | ⟨m, _⟩
      · exact absurd e h
      · exact Or.inr ⟨m, h0⟩
    · rw [if_neg h0] at h; exact absurd rfl h
theorem run_word {x : Bytes} (hx : x ≠ []) (hp : x.all plnB = true) (hs : (sortL x).2 = true) {r : Bytes} (hr : runN r = 0) : firstL (x ++ r) = x := by
  have hl : 0 < x.length := List.length_pos_iff.2 hx
  have e : runN (x ++ r) = x.length := by rw [runN_app x _ hp, hr]; rfl
  unfold firstL; rw [e, List.take_left, if_pos (by simp [hl, hs])]
/-- Every sign but < stands whatever follows; < too, where no -> follows. -/
theorem sign_stands {x : Bytes} (hx : x ∈ sgR) (h1 : x ≠ [60]) (r : Bytes) : firstL (x ++ r) = x := by
  simp only [sgR, List.mem_cons, List.not_mem_nil, or_false] at hx
  rcases hx with h | h | h | h | h | h | h | h | h | h | h | h | h | h | h | h | h <;> subst h <;> first | rfl | exact absurd rfl h1
theorem less_stands {r : Bytes} (h : r.take 2 ≠ [45, 62]) : firstL ([60] ++ r) = [60] := by
  have e0 : runN ([60] ++ r) = 0 := rfl
  unfold firstL
  rw [e0]
  simp only [Nat.lt_irrefl, decide_false, Bool.false_and, Bool.false_eq_true, if_false, if_true]
  have hp : pre [60, 45, 62] ([60] ++ r) = false := by
    show (([60, 45, 62] : Bytes) == (60 :: r.take 2)) = false
    simp only [beq_eq_false_iff_ne, ne_eq, List.cons.injEq, true_and]
    exact fun e => h e.symm
  unfold sgR hitGo
  rw [hp]
  rfl
theorem less_not {r : Bytes} (h : r.take 2 = [45, 62]) : firstL ([60] ++ r) = [60, 45, 62] := by
  obtain ⟨s, rfl⟩ : ∃ s, r = 45 :: 62 :: s := by
    cases r with
    | nil => simp at h
    | cons a r => cases r with
      | nil => simp at h
      | cons b r => simp at h; obtain ⟨rfl, rfl⟩ := h; exact ⟨r, rfl⟩
  rfl
theorem lex_dash {l : List (Nat × ByteArray)} : ¬ Lex [45] l := by
  rintro ⟨ws, h1, _⟩
  have e : wat [45] 0 = .error 0 := rfl
  rw [e] at h1; cases h1
/-- Words, then a byte that ends words. -/
theorem Lex.app {c : UInt8} (hc : Brk c) {rest : Bytes} {L : List (Nat × ByteArray)} (hL : Lex (c :: rest) L) : ∀ (n : Nat) (a : Bytes) (A : List (Nat × ByteArray)), a.length ≤ n → Lex a A → Lex (a ++ c :: rest) (A ++ L)
  | 0, a, A, hn, h => by
    have : a = [] := List.eq_nil_of_length_eq_zero (by omega)
    subst this
    rcases h.cases with ⟨_, rfl⟩ | ⟨s', e, _⟩ | ⟨s', l', h0, e, _⟩
    · simpa using hL
    · simp at e
    · exact absurd (List.append_eq_nil_iff.1 e.symm).1 h0
  | n + 1, a, A, hn, h => by
    rcases h.cases with ⟨rfl, rfl⟩ | ⟨s', rfl, h'⟩ | ⟨s', l', h0, e, h', rfl, hb⟩
    · simpa using hL
    · have := Lex.app hc hL n s' A (by simp at hn; omega) h'
      exact this.blank
    · have hp : 0 < (firstL a).length := List.length_pos_iff.2 h0
      have hl : a.length = (firstL a).length + s'.length := by conv => lhs; rw [e]
                                                               simp
      have ih := Lex.app hc hL n s' l' (by omega) h'
      have hx := first_two h0
      have hhd : (firstL a).headD 0 ≠ 32 := by
        rw [e] at hb
        cases hf : firstL a with
        | nil => exact absurd hf h0
        | cons b r => rw [hf] at hb; simpa using hb
      have key : firstL (firstL a ++ (s' ++ c :: rest)) = firstL a := by
        have e2 : firstL (firstL a ++ s') = firstL a := by rw [← e]
        rcases hx with ⟨x1, x2, x3⟩ | ⟨x1, _⟩
        · refine run_word h0 x1 x2 ?_
          cases hs : s' with
          | nil => exact runN_cons_f hc.1
          | cons d y =>
            have hd : plnB d = false := by
              cases hd : plnB d with
              | false => rfl
              | true =>
                have : runN a = (firstL a).length + runN s' := by conv => lhs; rw [e]
                                                                  exact runN_app _ _ x1
                rw [hs, runN_cons_t hd, x3] at this
                omega
            exact runN_cons_f hd
        · by_cases h60 : firstL a = [60]
          · rw [h60] at e2 ⊢
            refine less_stands fun ht => ?_
            have hno : s'.take 2 ≠ [45, 62] := fun h => by rw [less_not h] at e2; cases e2
            cases hs : s' with
            | nil =>
              rw [hs] at ht
              simp at ht
              exact hc.2 ht.1
            | cons d y =>
              cases hy : y with
              | nil =>
                rw [hs, hy] at ht h'
                simp at ht
                rw [ht.1] at h'
                exact lex_dash h'
              | cons d2 y2 =>
                rw [hs, hy] at ht hno
                simp at ht hno
                exact hno ht.1 ht.2
          · exact sign_stands x1 h60 _
      conv => lhs; rw [e]
      rw [List.append_assoc, List.cons_append]
      exact Lex.word h0 hhd key ih
theorem brk40 : Brk 40 := ⟨by decide, by decide⟩
theorem brk41 : Brk 41 := ⟨by decide, by decide⟩
theorem brk62 : Brk 62 := ⟨by decide, by decide⟩
theorem brk32 : Brk 32 := ⟨by decide, by decide⟩
theorem brk93 : Brk 93 := ⟨by decide, by decide⟩
end Go.Proofs.YtnibcmmgnenfcaaDoor
