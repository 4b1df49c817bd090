/- Plain: what ParseJoins and ParsePaths say, of what Formula and Path answer. -/
import Derived.Test.YtnibcmmgnenfcaaDoorPaU
namespace Go.Proofs.YtnibcmmgnenfcaaDoor

theorem split1 {W : List Wd} {x : Nat × ByteArray} {l : List (Nat × ByteArray)} (h : W.map same2 = x :: l) : ∃ w W', W = w :: W' ∧ same2 w = x ∧ W'.map same2 = l := by
  obtain ⟨w, W', h1, h2, h3⟩ := List.map_eq_cons_iff.1 h; exact ⟨w, W', h1, h2, h3⟩
theorem splitA {W A : List Wd} {l : List (Nat × ByteArray)} (h : W.map same2 = A.map same2 ++ l) : ∃ A' W', W = A' ++ W' ∧ A'.map same2 = A.map same2 ∧ W'.map same2 = l := by
  obtain ⟨A', W', h1, h2, h3⟩ := List.map_eq_append_iff.1 h; exact ⟨A', W', h1, h2, h3⟩
theorem same2_tx {w : Wd} {k : Nat} {s : Bytes} (h : same2 w = (k, mkB s)) : w.tx.toList = s := by
  unfold same2 at h; injection h with _ h; rw [h, mkB_toList]
theorem lex_of {s : Bytes} {ws : List Wd} (h : wat s 0 = .ok ws) : Lex s (ws.map same2) := ⟨ws, h, rfl⟩
/-- A formula in brackets is the formula. -/
theorem joins_one {ns : List Bytes} {a : Bytes} {t : List Tk5} (h : formL ns a = (t, 0, 0)) (hl : a.length ≤ 300) : formL ns (32 :: 32 :: 40 :: (a ++ [32, 41, 32])) = (t, 0, 0) := by
  obtain ⟨hc, _, A, hA, _, hr, hk⟩ := form_ok h rfl
  obtain ⟨W, hW, hm⟩ := lex_one (lex_of hA)
  obtain ⟨l, W1, rfl, hl1, hm⟩ := split1 hm
  obtain ⟨A', W2, rfl, hA', hm⟩ := splitA hm
  obtain ⟨r, W3, rfl, hr1, hm⟩ := split1 hm
  obtain rfl : W3 = [] := List.map_eq_nil_iff.1 hm
  have hj := join_one (fin' := ((32 :: 32 :: 40 :: (a ++ [32, 41, 32])).length : Nat)) hr hA' (same2_tx hl1) (same2_tx hr1)
  unfold formL
  rw [form_of hc (by simp; omega) hW hj, if_neg (by simp [hk])]
/-- The operators of two formulas. -/
def opsL : List (Bytes × Nat × Nat) := [([60, 45, 62], 14, 0), ([45, 62], 13, 1), ([124], 12, 2), ([38], 11, 3), ([85], 15, 4), ([82], 16, 4)]
theorem ops_facts : ∀ x ∈ opsL, x.1 ≠ [] ∧ x.1.headD 0 ≠ 32 ∧ 11 ≤ x.2.1 ∧ x.2.1 ≤ 16 ∧ x.2.2 ≤ 4 ∧ opOf x.2.2 x.1 = some x.2.1 ∧ x.1.length ≤ 3 := by decide
theorem ops_other : ∀ x ∈ opsL, ∀ i, i ≠ x.2.2 → opOf i x.1 = none := by
  intro x hx i hi
  simp only [opsL, List.mem_cons, List.not_mem_nil, or_false] at hx
  rcases hx with h | h | h | h | h | h <;> subst h <;> simp [opOf] at hi ⊢ <;> omega
theorem ops_first : ∀ x ∈ opsL, ∀ r, firstL (x.1 ++ 40 :: r) = x.1 := by
  intro x hx r
  simp only [opsL, List.mem_cons, List.not_mem_nil, or_false] at hx
  rcases hx with h | h | h | h | h | h <;> subst h
  · exact sign_stands (by decide) (by decide) _
  · exact sign_stands (by decide) (by decide) _
  · exact sign_stands (by decide) (by decide) _
  · exact sign_stands (by decide) (by decide) _
  · exact run_word (by simp) (by decide) (by decide) (runN_cons_f (by decide))
  · exact run_word (by simp) (by decide) (by decide) (runN_cons_f (by decide))
/-- Two in brackets with an operator between. -/
theorem joins_two {ns : List Bytes} {a b : Bytes} {t u : List Tk5} (h : formL ns a = (t, 0, 0)) (h' : formL ns b = (u, 0, 0)) (hl : a.length ≤ 300) (hl' : b.length ≤ 300) {x : Bytes × Nat × Nat} (hx : x ∈ opsL) :
    formL ns (40 :: (a ++ 41 :: (x.1 ++ 40 :: (b ++ [41])))) = (t ++ u ++ [(x.2.1, 0)], 0, 0) ∨ ∃ e : Int, (e = 3 ∨ e = 8) ∧ formL ns (40 :: (a ++ 41 :: (x.1 ++ 40 :: (b ++ [41])))) = ([], e, -1) := by
  obtain ⟨f1, f2, f3, f4, f5, f6, f7⟩ := ops_facts x hx
  obtain ⟨hc, _, A, hA, _, hr, hk⟩ := form_ok h rfl
  obtain ⟨_, _, B, hB, _, hr', hk'⟩ := form_ok h' rfl
  obtain ⟨W, hW, hm⟩ := lex_two (lex_of hA) (lex_of hB) f1 f2 (ops_first x hx)
  obtain ⟨l, W1, rfl, hl1, hm⟩ := split1 hm
  obtain ⟨A', W2, rfl, hA', hm⟩ := splitA hm
  obtain ⟨r, W3, rfl, hr1, hm⟩ := split1 hm
  obtain ⟨o, W4, rfl, ho1, hm⟩ := split1 hm
  obtain ⟨l2, W5, rfl, hl2, hm⟩ := split1 hm
  obtain ⟨B', W6, rfl, hB', hm⟩ := splitA hm
  obtain ⟨r2, W7, rfl, hr2, hm⟩ := split1 hm
  obtain rfl : W7 = [] := List.map_eq_nil_iff.1 hm
  have ho := same2_tx ho1
  have hj := join_two (fin' := ((40 :: (a ++ 41 :: (x.1 ++ 40 :: (b ++ [41])))).length : Nat)) hr hA' hr' hB' (same2_tx hl1) (same2_tx hr1) (same2_tx hl2) (same2_tx hr2) f5 (by rw [ho]; exact f6) (by rw [ho]; exact ops_other x hx)
  unfold formL
  rw [form_of hc (by simp; omega) hW hj]
  rcases look_two hk hk' f3 f4 with e | e | e
  · left; rw [if_neg (fun h => h e)]
  · right; rw [if_pos (by rw [e]; decide), e]; exact ⟨3, Or.inl rfl, rfl⟩
  · right; rw [if_pos (by rw [e]; decide), e]; exact ⟨8, Or.inr rfl, rfl⟩
/-- How a path's text begins. -/
theorem pat_head {ns : List Bytes} {fin : Int} : ∀ (n k : Nat) (ws : List Wd) (t : List Tk5) (r : List Wd), rd5 ns fin n (.pat k) ws = some (.ok (t, r)) → hdT ws = [123] ∨ hdT ws = [63] ∨ hdT ws = [40]
  | 0, _, _, _, _, h => by cases h
  | n + 1, k, ws, t, r, h => by
    unfold rd5 at h
    by_cases hk : 2 ≤ k
    · rw [if_pos hk] at h
      cases n with
      | zero => simp [rd5, andR] at h
      | succ n =>
        by_cases h1 : hdT ws = [123]
        · exact Or.inl h1
        · by_cases h2 : hdT ws = [63]
          · exact Or.inr (Or.inl h2)
          · by_cases h3 : hdT ws = [40]
            · exact Or.inr (Or.inr h3)
            · have : rd5 ns fin (n + 1) .bar ws = erR 150 (plc fin ws) := by
                conv => lhs; unfold rd5
                rw [if_neg h1, if_neg h2, if_neg h3]
              rw [this] at h
              simp [andR, erR] at h
    · rw [if_neg hk] at h
      cases hp : rd5 ns fin n (.pat (k + 1)) ws with
      | none => rw [hp] at h; simp [andR] at h
      | some a =>
        cases a with
        | error e => rw [hp] at h; simp [andR] at h
        | ok q => exact pat_head n (k + 1) ws q.1 q.2 hp
theorem path_text {ns : List Bytes} {s : Bytes} {A : List Wd} {t : List Tk5} {fin : Int} (hA : wat s 0 = .ok A) (hr : whole5 ns fin (.pat 0) A = .ok t) : s.take 2 ≠ [45, 62] ∧ s ≠ [] := by
  obtain ⟨n, hn⟩ := whole_ok.1 hr
  have hh := pat_head n 0 A t [] hn
  have hl := lex_of hA
  constructor
  · intro e
    obtain ⟨s', rfl⟩ : ∃ s', s = 45 :: 62 :: s' := by
      cases s with
      | nil => simp at e
      | cons a s => cases s with
        | nil => simp at e
        | cons b s => simp at e; obtain ⟨rfl, rfl⟩ := e; exact ⟨s, rfl⟩
    have hf : firstL (45 :: 62 :: s') = [45, 62] := rfl
    rcases hl.cases with ⟨e, _⟩ | ⟨s2, e, _⟩ | ⟨s2, l2, _, _, _, e, _⟩
    · cases e
    · injection e with e _; exact absurd e (by decide)
    · obtain ⟨w, W', rfl, hw, _⟩ := split1 e
      rw [hf] at hw
      have : hdT (w :: W') = [45, 62] := same2_tx hw
      rw [this] at hh
      rcases hh with h | h | h <;> cases h
  · rintro rfl
    have : A = [] := by
      have e : wat [] 0 = .ok [] := rfl
      rw [e] at hA; injection hA with hA; exact hA.symm
    subst this
    rcases hh with h | h | h <;> cases h
theorem look_same {a b : List Tk} : lookE (a ++ b ++ [(17, 0)]) 1 = 0 → lookE a 3 = 0 → lookE b 1 = 0 → lookE (a ++ b ++ [(18, 0)]) 1 = 0 := by
  intro h ha hb
  obtain ⟨_, c, hc, rfl, kc, _⟩ := lookE_zero.1 ha
  obtain ⟨_, d, hd, rfl, kd, _⟩ := lookE_zero.1 hb
  rw [kind_formula] at kd
  rw [kind_path] at kc
  have hw : ∀ op, op = 17 ∨ op = 18 → (Tr.bin (op, 0) c d).WF := fun op ho => by
    refine ⟨?_, ?_, hc, hd⟩
    · rcases ho with rfl | rfl <;> decide
    · unfold fitsP
      rw [if_pos (by simpa using ho)]
      simp at kd ⊢; exact ⟨kc, kd⟩
  have hlen : (c.flat ++ d.flat ++ [((18 : Nat), (0 : Nat))]).length = (c.flat ++ d.flat ++ [((17 : Nat), (0 : Nat))]).length := by simp
  unfold lookE at h ⊢
  rw [hlen]
  split at h
  · cases h
  · next hl =>
    rw [if_neg hl]
    have e17 : readP (c.flat ++ d.flat ++ [(17, 0)]) 0 [] = _ := read_one.2 ⟨Tr.bin (17, 0) c d, hw 17 (Or.inl rfl), rfl, rfl, rfl⟩
    have e18 : readP (c.flat ++ d.flat ++ [(18, 0)]) 0 [] = _ := read_one.2 ⟨Tr.bin (18, 0) c d, hw 18 (Or.inr rfl), rfl, rfl, rfl⟩
    rw [e17] at h
    rw [e18]
    exact h
/-- A path's text in its brackets, with something behind. -/
theorem paths_two {ns : List Bytes} {a : Bytes} {t : List Tk5} (h : pathL ns a = (t, 0, 0)) (hl : a.length ≤ 300) :
    (formL ns (60 :: (a ++ [62, 32, 116, 114, 117, 101])) = (t ++ [(0, 0)] ++ [(17, 0)], 0, 0) ∧ formL ns (91 :: 40 :: (a ++ [41, 93, 32, 116, 114, 117, 101])) = (t ++ [(0, 0)] ++ [(18, 0)], 0, 0)) ∨
    ∃ e : Int, (e = 3 ∨ e = 8) ∧ formL ns (60 :: (a ++ [62, 32, 116, 114, 117, 101])) = ([], e, -1) := by
  obtain ⟨hc, _, A, hA, _, hr, hk⟩ := form_ok h rfl
  obtain ⟨p1, p2⟩ := path_text hA hr
  have hd : formL ns (60 :: (a ++ [62, 32, 116, 114, 117, 101])) = if lookE (t ++ [(0, 0)] ++ [(17, 0)]) 1 ≠ 0 then ([], (lookE (t ++ [(0, 0)] ++ [(17, 0)]) 1 : Int), -1) else (t ++ [(0, 0)] ++ [(17, 0)], 0, 0) := by
    obtain ⟨W, hW, hm⟩ := lex_dia (lex_of hA) p1 p2
    obtain ⟨l, W1, rfl, hl1, hm⟩ := split1 hm
    obtain ⟨A', W2, rfl, hA', hm⟩ := splitA hm
    obtain ⟨r, W3, rfl, hr1, hm⟩ := split1 hm
    obtain ⟨v, W4, rfl, hv1, hm⟩ := split1 hm
    obtain rfl : W4 = [] := List.map_eq_nil_iff.1 hm
    unfold formL
    exact form_of hc (by simp; omega) hW (path_dia hr hA' (same2_tx hl1) (same2_tx hr1) (same2_tx hv1))
  have hb : formL ns (91 :: 40 :: (a ++ [41, 93, 32, 116, 114, 117, 101])) = if lookE (t ++ [(0, 0)] ++ [(18, 0)]) 1 ≠ 0 then ([], (lookE (t ++ [(0, 0)] ++ [(18, 0)]) 1 : Int), -1) else (t ++ [(0, 0)] ++ [(18, 0)], 0, 0) := by
    obtain ⟨W, hW, hm⟩ := lex_box (lex_of hA)
    obtain ⟨l, W1, rfl, hl1, hm⟩ := split1 hm
    obtain ⟨l2, W1, rfl, hl2, hm⟩ := split1 hm
    obtain ⟨A', W2, rfl, hA', hm⟩ := splitA hm
    obtain ⟨r2, W3, rfl, hr2, hm⟩ := split1 hm
    obtain ⟨r, W3, rfl, hr1, hm⟩ := split1 hm
    obtain ⟨v, W4, rfl, hv1, hm⟩ := split1 hm
    obtain rfl : W4 = [] := List.map_eq_nil_iff.1 hm
    unfold formL
    exact form_of hc (by simp; omega) hW (path_box hr hA' (same2_tx hl1) (same2_tx hl2) (same2_tx hr2) (same2_tx hr1) (same2_tx hv1))
  rcases look_modal (op := 17) hk look_true (Or.inl rfl) with e | e | e
  · left
    have e18 := look_same e hk look_true
    rw [hd, hb, if_neg (fun h => h e), if_neg (fun h => h e18)]
    exact ⟨rfl, rfl⟩
  · right; rw [hd, if_pos (by rw [e]; decide), e]; exact ⟨3, Or.inl rfl, rfl⟩
  · right; rw [hd, if_pos (by rw [e]; decide), e]; exact ⟨8, Or.inr rfl, rfl⟩
end Go.Proofs.YtnibcmmgnenfcaaDoor
