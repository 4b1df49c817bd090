/- Plain: the kernel formula of a formula, and of its negation: by trees, and by a stack of pairs over the tokens. -/
import Derived.Test.YtbfhbpibpmgblaaMnM
namespace Go.Proofs.Ytbfhbpibpmgblaa

abbrev Kq := List Tk × List Tk
/-- What a token makes of the pairs that it takes. -/
def kOp (op p : Nat) (a : List Kq) : Kq :=
  match a with
  | [] => if op = 0 then ([(0, 0)], [(1, 0)]) else if op = 1 then ([(1, 0)], [(0, 0)]) else if op = 2 then ([(2, p)], [(2, p), (6, 0)]) else if op = 3 then ([(4, 0), (1, 0), (8, 0), (11, 0)], [(5, 0), (0, 0), (7, 0), (12, 0)]) else if op = 4 then ([(4, 0)], [(5, 0)]) else ([(5, 0)], [(4, 0)])
  | [x] => if op = 6 then (x.2, x.1) else if op = 7 then (x.1 ++ [(7, 0)], x.2 ++ [(8, 0)]) else if op = 8 then (x.1 ++ [(8, 0)], x.2 ++ [(7, 0)])
    else if op = 9 then ([(0, 0)] ++ x.1 ++ [(15, 0)], [(1, 0)] ++ x.2 ++ [(16, 0)]) else if op = 10 then ([(1, 0)] ++ x.1 ++ [(16, 0)], [(0, 0)] ++ x.2 ++ [(15, 0)]) else (x.1 ++ [(op, 0)], x.1 ++ [(op, 0)])
  | x :: y :: _ => if op = 11 then (x.1 ++ y.1 ++ [(11, 0)], x.2 ++ y.2 ++ [(12, 0)]) else if op = 12 then (x.1 ++ y.1 ++ [(12, 0)], x.2 ++ y.2 ++ [(11, 0)])
    else if op = 13 then (x.2 ++ y.1 ++ [(12, 0)], x.1 ++ y.2 ++ [(11, 0)])
    else if op = 14 then ((x.1 ++ y.1 ++ [(11, 0)]) ++ (x.2 ++ y.2 ++ [(11, 0)]) ++ [(12, 0)], (x.1 ++ y.2 ++ [(11, 0)]) ++ (x.2 ++ y.1 ++ [(11, 0)]) ++ [(12, 0)])
    else if op = 15 then (x.1 ++ y.1 ++ [(15, 0)], x.2 ++ y.2 ++ [(16, 0)]) else if op = 16 then (x.1 ++ y.1 ++ [(16, 0)], x.2 ++ y.2 ++ [(15, 0)])
    else if op = 17 then (x.1 ++ y.1 ++ [(17, 0)], x.1 ++ y.2 ++ [(18, 0)]) else if op = 18 then (x.1 ++ y.1 ++ [(18, 0)], x.1 ++ y.2 ++ [(17, 0)])
    else (x.1 ++ y.1 ++ [(op, 0)], x.1 ++ y.1 ++ [(op, 0)])
def kStep (st : List Kq) (k : Tk) : List Kq := st.take (st.length - takC k) ++ [kOp k.1 k.2 (st.drop (st.length - takC k))]
def kS (ts : List Tk) (st : List Kq) : List Kq := ts.foldl kStep st
theorem kS_app (a b : List Tk) (st : List Kq) : kS (a ++ b) st = kS b (kS a st) := by unfold kS; rw [List.foldl_append]
/-- Both formulas of tokens. -/
def kL (ts : List Tk) : Kq := (kS ts []).getLast?.getD ([], [])
/-! ### trees -/
/-- K and K' of a tree (of a path both the same). -/
def kTr : Tr → Tr × Tr
  | .leaf (op, p) => if op = 0 then (.leaf (0, 0), .leaf (1, 0)) else if op = 1 then (.leaf (1, 0), .leaf (0, 0)) else if op = 2 then (.leaf (2, p), .un (6, 0) (.leaf (2, p)))
    else if op = 3 then (.bin (11, 0) (.leaf (4, 0)) (.un (8, 0) (.leaf (1, 0))), .bin (12, 0) (.leaf (5, 0)) (.un (7, 0) (.leaf (0, 0)))) else if op = 4 then (.leaf (4, 0), .leaf (5, 0)) else (.leaf (5, 0), .leaf (4, 0))
  | .un (op, _) c => if op = 6 then ((kTr c).2, (kTr c).1) else if op = 7 then (.un (7, 0) (kTr c).1, .un (8, 0) (kTr c).2) else if op = 8 then (.un (8, 0) (kTr c).1, .un (7, 0) (kTr c).2)
    else if op = 9 then (.bin (15, 0) (.leaf (0, 0)) (kTr c).1, .bin (16, 0) (.leaf (1, 0)) (kTr c).2) else if op = 10 then (.bin (16, 0) (.leaf (1, 0)) (kTr c).1, .bin (15, 0) (.leaf (0, 0)) (kTr c).2)
    else (.un (op, 0) (kTr c).1, .un (op, 0) (kTr c).1)
  | .bin (op, _) c d => if op = 11 then (.bin (11, 0) (kTr c).1 (kTr d).1, .bin (12, 0) (kTr c).2 (kTr d).2) else if op = 12 then (.bin (12, 0) (kTr c).1 (kTr d).1, .bin (11, 0) (kTr c).2 (kTr d).2)
    else if op = 13 then (.bin (12, 0) (kTr c).2 (kTr d).1, .bin (11, 0) (kTr c).1 (kTr d).2)
    else if op = 14 then (.bin (12, 0) (.bin (11, 0) (kTr c).1 (kTr d).1) (.bin (11, 0) (kTr c).2 (kTr d).2), .bin (12, 0) (.bin (11, 0) (kTr c).1 (kTr d).2) (.bin (11, 0) (kTr c).2 (kTr d).1))
    else if op = 15 then (.bin (15, 0) (kTr c).1 (kTr d).1, .bin (16, 0) (kTr c).2 (kTr d).2) else if op = 16 then (.bin (16, 0) (kTr c).1 (kTr d).1, .bin (15, 0) (kTr c).2 (kTr d).2)
    else if op = 17 then (.bin (17, 0) (kTr c).1 (kTr d).1, .bin (18, 0) (kTr c).1 (kTr d).2) else if op = 18 then (.bin (18, 0) (kTr c).1 (kTr d).1, .bin (17, 0) (kTr c).1 (kTr d).2)
    else (.bin (op, 0) (kTr c).1 (kTr d).1, .bin (op, 0) (kTr c).1 (kTr d).1)
def kFl (T : Tr) : Kq := ((kTr T).1.flat, (kTr T).2.flat)
theorem kFl_leaf (op p : Nat) : kFl (.leaf (op, p)) = kOp op p [] := by
  by_cases h0 : op = 0
  · subst h0; rfl
  by_cases h1 : op = 1
  · subst h1; rfl
  by_cases h2 : op = 2
  · subst h2; rfl
  by_cases h3 : op = 3
  · subst h3; rfl
  by_cases h4 : op = 4
  · subst h4; rfl
  simp [kFl, kTr, kOp, h0, h1, h2, h3, h4, Tr.flat]
theorem kFl_un (op p : Nat) (c : Tr) : kFl (.un (op, p) c) = kOp op p [kFl c] := by
  by_cases h6 : op = 6
  · subst h6; rfl
  by_cases h7 : op = 7
  · subst h7; rfl
  by_cases h8 : op = 8
  · subst h8; rfl
  by_cases h9 : op = 9
  · subst h9; rfl
  by_cases h10 : op = 10
  · subst h10; rfl
  simp [kFl, kTr, kOp, h6, h7, h8, h9, h10, Tr.flat]
theorem kFl_bin (op p : Nat) (c d : Tr) : kFl (.bin (op, p) c d) = kOp op p [kFl c, kFl d] := by
  by_cases h11 : op = 11
  · subst h11; rfl
  by_cases h12 : op = 12
  · subst h12; rfl
  by_cases h13 : op = 13
  · subst h13; rfl
  by_cases h14 : op = 14
  · subst h14; rfl
  by_cases h15 : op = 15
  · subst h15; rfl
  by_cases h16 : op = 16
  · subst h16; rfl
  by_cases h17 : op = 17
  · subst h17; rfl
  by_cases h18 : op = 18
  · subst h18; rfl
  simp [kFl, kTr, kOp, h11, h12, h13, h14, h15, h16, h17, h18, Tr.flat]
/-- A tree's tokens put both its formulas on any stack. -/
theorem kS_tree : ∀ T : Tr, T.WF → ∀ st, kS T.flat st = st ++ [kFl T]
  | .leaf (op, p), h, st => by
    have e := tak_of h.1
    have hd := drop_at st [] 0 rfl
    rw [List.append_nil] at hd
    show kStep st (op, p) = _
    unfold kStep
    rw [e, hd.1, hd.2, kFl_leaf]
  | .un (op, p) c, h, st => by
    have e := tak_of h.1
    have hd := drop_at st [kFl c] 1 rfl
    show kS (c.flat ++ [(op, p)]) st = _
    rw [kS_app, kS_tree c h.2.2]
    show kStep _ (op, p) = _
    unfold kStep
    rw [e, hd.1, hd.2, kFl_un]
  | .bin (op, p) c d, h, st => by
    have e := tak_of h.1
    have hd := drop_at st [kFl c, kFl d] 2 rfl
    show kS (c.flat ++ d.flat ++ [(op, p)]) st = _
    rw [kS_app, kS_app, kS_tree c h.2.2.1, kS_tree d h.2.2.2]
    show kStep _ (op, p) = _
    rw [show st ++ [kFl c] ++ [kFl d] = st ++ [kFl c, kFl d] by simp]
    unfold kStep
    rw [e, hd.1, hd.2, kFl_bin]
theorem kL_tree {T : Tr} (h : T.WF) : kL T.flat = kFl T := by
  unfold kL
  rw [kS_tree T h []]
  simp
/-! ### what K is like -/
def pathT (T : Tr) : Bool := (T.part 0).path
def plainT (T : Tr) : Bool := (T.part 0).plain
theorem path_leaf (k : Tk) : pathT (.leaf k) = isPathB k.1 := rfl
theorem path_un (k : Tk) (c : Tr) : pathT (.un k c) = isPathB k.1 := rfl
theorem path_bin (k : Tk) (c d : Tr) : pathT (.bin k c d) = isPathB k.1 := rfl
theorem plain_leaf (k : Tk) : plainT (.leaf k) = plainB k.1 := by simp [plainT, Tr.part, putP]
theorem plain_un (k : Tk) (c : Tr) : plainT (.un k c) = (plainB k.1 && plainT c) := by simp [plainT, Tr.part, putP]
theorem plain_bin (k : Tk) (c d : Tr) : plainT (.bin k c d) = (plainB k.1 && (plainT c && plainT d)) := by
  have := part_shift d (0 + c.size)
  simp [plainT, Tr.part, putP] at this ⊢
  rw [this.2.1]
/-- What a token may take, by trees. -/
def fit1T (op : Nat) (c : Tr) : Bool := if op = 19 then !pathT c && plainT c else if op = 23 then pathT c else !pathT c
def fit2T (op : Nat) (c d : Tr) : Bool := if op = 17 ∨ op = 18 then pathT c && !pathT d else if op = 21 ∨ op = 22 then pathT c && pathT d else !pathT c && !pathT d
theorem fits1 {op p : Nat} {c : Tr} (h : takesN (op, p) = some 1) : fitsP op [c.part 0] = fit1T op c := by
  have h1 : ¬ (op = 17 ∨ op = 18) ∧ ¬ (op = 21 ∨ op = 22) := by
    unfold takesN at h
    dsimp only at h
    split at h
    · cases h
    · split at h
      · cases h
      · split at h
        · omega
        · cases h
  unfold fitsP fit1T pathT plainT
  rw [if_neg h1.1]
  split
  · rfl
  · rw [if_neg h1.2]
    split
    · rfl
    · simp
theorem fits2 {op p : Nat} {c d : Tr} (h : takesN (op, p) = some 2) : fitsP op [c.part 0, d.part 0] = fit2T op c d := by
  have h1 : ¬ op = 19 ∧ ¬ op = 23 := by
    unfold takesN at h
    dsimp only at h
    split at h
    · cases h
    · split at h
      · cases h
      · split at h
        · cases h
        · omega
  unfold fitsP fit2T pathT
  split
  · rfl
  · rw [if_neg h1.1]
    split
    · rfl
    · rw [if_neg h1.2]
      simp
theorem wf_leaf {op p : Nat} (h : takesN (op, p) = some 0) (h2 : op ≤ 5) : (Tr.leaf (op, p)).WF := by
  refine ⟨h, ?_⟩
  unfold fitsP
  dsimp only
  rw [if_neg (by omega), if_neg (by omega), if_neg (by omega), if_neg (by omega)]
  rfl
theorem wf_un {op : Nat} {c : Tr} (h : takesN (op, 0) = some 1) (hf : fit1T op c = true) (hc : c.WF) : (Tr.un (op, 0) c).WF := ⟨h, (fits1 h).trans hf, hc⟩
theorem wf_bin {op : Nat} {c d : Tr} (h : takesN (op, 0) = some 2) (hf : fit2T op c d = true) (hc : c.WF) (hd : d.WF) : (Tr.bin (op, 0) c d).WF := ⟨h, (fits2 h).trans hf, hc, hd⟩
/-- K and K' are formulas; of what is plain they are plain; K of a path is a path. -/
structure KOk (T : Tr) : Prop where
  w1 : (kTr T).1.WF
  p1 : pathT (kTr T).1 = pathT T
  l1 : plainT T = true → plainT (kTr T).1 = true
  w2 : pathT T = false → (kTr T).2.WF
  p2 : pathT T = false → pathT (kTr T).2 = false
  l2 : pathT T = false → plainT T = true → plainT (kTr T).2 = true
end Go.Proofs.Ytbfhbpibpmgblaa
namespace Go.Proofs.Ytbfhbpibpmgblaa

theorem takes3 {op p m : Nat} (h : takesN (op, p) = some m) : (op ≤ 5 ∧ m = 0 ∧ (op ≠ 2 → p = 0) ∧ p ≤ 7) ∨ ((6 ≤ op ∧ op ≤ 10 ∨ op = 19 ∨ op = 20 ∨ op = 23) ∧ m = 1 ∧ p = 0) ∨ ((11 ≤ op ∧ op ≤ 18 ∨ op = 21 ∨ op = 22) ∧ m = 2 ∧ p = 0) := by
  unfold takesN at h
  dsimp only at h
  split at h
  · cases h
  · next h0 =>
    split at h
    · cases h; exact Or.inl ⟨by omega, rfl, by omega, by omega⟩
    · split at h
      · cases h; exact Or.inr (Or.inl ⟨by omega, rfl, by omega⟩)
      · cases h; exact Or.inr (Or.inr ⟨by omega, rfl, by omega⟩)
theorem takes_prop {p : Nat} (h : p ≤ 7) : takesN (2, p) = some 0 := by
  unfold takesN
  dsimp only
  rw [if_neg (by omega), if_pos (by omega)]
/-- The cases of a tree that may be. -/
theorem leaf_cases {op p : Nat} (h : (Tr.leaf (op, p)).WF) : (op = 2 ∧ p ≤ 7) ∨ (p = 0 ∧ (op = 0 ∨ op = 1 ∨ op = 3 ∨ op = 4 ∨ op = 5)) := by
  rcases takes3 h.1 with ⟨h1, _, h3, h4⟩ | ⟨_, h, _⟩ | ⟨_, h, _⟩
  · by_cases e : op = 2
    · exact Or.inl ⟨e, h4⟩
    · exact Or.inr ⟨h3 e, by omega⟩
  · cases h
  · cases h
theorem un_cases {op p : Nat} {c : Tr} (h : (Tr.un (op, p) c).WF) : p = 0 ∧ c.WF ∧ fit1T op c = true ∧ (op = 6 ∨ op = 7 ∨ op = 8 ∨ op = 9 ∨ op = 10 ∨ op = 19 ∨ op = 20 ∨ op = 23) := by
  have hf := (fits1 h.1).symm.trans h.2.1
  rcases takes3 h.1 with ⟨_, h, _⟩ | ⟨h1, _, h3⟩ | ⟨_, h, _⟩
  · cases h
  · exact ⟨h3, h.2.2, hf, by omega⟩
  · cases h
theorem bin_cases {op p : Nat} {c d : Tr} (h : (Tr.bin (op, p) c d).WF) : p = 0 ∧ c.WF ∧ d.WF ∧ fit2T op c d = true ∧ (op = 11 ∨ op = 12 ∨ op = 13 ∨ op = 14 ∨ op = 15 ∨ op = 16 ∨ op = 17 ∨ op = 18 ∨ op = 21 ∨ op = 22) := by
  have hf := (fits2 h.1).symm.trans h.2.1
  rcases takes3 h.1 with ⟨_, h, _⟩ | ⟨_, h, _⟩ | ⟨h1, _, h3⟩
  · cases h
  · cases h
  · exact ⟨h3, h.2.2.1, h.2.2.2, hf, by omega⟩
theorem kOk : ∀ T : Tr, T.WF → KOk T
  | .leaf (op, p), h => by
    rcases leaf_cases h with ⟨rfl, hp⟩ | ⟨rfl, rfl | rfl | rfl | rfl | rfl⟩
    · exact ⟨wf_leaf (takes_prop hp) (by decide), rfl, fun _ => rfl, fun _ => wf_un rfl rfl (wf_leaf (takes_prop hp) (by decide)), fun _ => rfl, fun _ _ => rfl⟩
    · exact ⟨wf_leaf rfl (by decide), rfl, fun _ => rfl, fun _ => wf_leaf rfl (by decide), fun _ => rfl, fun _ _ => rfl⟩
    · exact ⟨wf_leaf rfl (by decide), rfl, fun _ => rfl, fun _ => wf_leaf rfl (by decide), fun _ => rfl, fun _ _ => rfl⟩
    · exact ⟨wf_bin rfl rfl (wf_leaf rfl (by decide)) (wf_un rfl rfl (wf_leaf rfl (by decide))), rfl, fun h => (by cases h), fun _ => wf_bin rfl rfl (wf_leaf rfl (by decide)) (wf_un rfl rfl (wf_leaf rfl (by decide))), fun _ => rfl, fun _ h => (by cases h)⟩
    · exact ⟨wf_leaf rfl (by decide), rfl, fun h => (by cases h), fun _ => wf_leaf rfl (by decide), fun _ => rfl, fun _ h => (by cases h)⟩
    · exact ⟨wf_leaf rfl (by decide), rfl, fun h => (by cases h), fun _ => wf_leaf rfl (by decide), fun _ => rfl, fun _ h => (by cases h)⟩
  | .un (op, p) c, h => by
    obtain ⟨rfl, hc, hf, ho⟩ := un_cases h
    have ih := kOk c hc
    rcases ho with rfl | rfl | rfl | rfl | rfl | rfl | rfl | rfl
    · have hn : pathT c = false := by simpa [fit1T] using hf
      have q1 := ih.p1.trans hn
      have q2 := ih.p2 hn
      exact ⟨ih.w2 hn, q2, fun h => ih.l2 hn (by rw [plain_un] at h; simpa [plainB] using h), fun _ => ih.w1, fun _ => q1, fun _ h => ih.l1 (by rw [plain_un] at h; simpa [plainB] using h)⟩
    · have hn : pathT c = false := by simpa [fit1T] using hf
      have q1 := ih.p1.trans hn
      have q2 := ih.p2 hn
      exact ⟨wf_un (op := 7) rfl (by simp [fit1T, q1]) ih.w1, rfl, fun h => by rw [plain_un] at h; simp [plainB] at h, fun _ => wf_un (op := 8) rfl (by simp [fit1T, q2]) (ih.w2 hn), fun _ => rfl, fun _ h => by rw [plain_un] at h; simp [plainB] at h⟩
    · have hn : pathT c = false := by simpa [fit1T] using hf
      have q1 := ih.p1.trans hn
      have q2 := ih.p2 hn
      exact ⟨wf_un (op := 8) rfl (by simp [fit1T, q1]) ih.w1, rfl, fun h => by rw [plain_un] at h; simp [plainB] at h, fun _ => wf_un (op := 7) rfl (by simp [fit1T, q2]) (ih.w2 hn), fun _ => rfl, fun _ h => by rw [plain_un] at h; simp [plainB] at h⟩
    · have hn : pathT c = false := by simpa [fit1T] using hf
      have q1 := ih.p1.trans hn
      have q2 := ih.p2 hn
      exact ⟨wf_bin (op := 15) rfl (by simp [fit2T, q1, path_leaf, isPathB]) (wf_leaf (op := 0) rfl (by decide)) ih.w1, rfl, fun h => by rw [plain_un] at h; simp [plainB] at h, fun _ => wf_bin (op := 16) rfl (by simp [fit2T, q2, path_leaf, isPathB]) (wf_leaf (op := 1) rfl (by decide)) (ih.w2 hn), fun _ => rfl, fun _ h => by rw [plain_un] at h; simp [plainB] at h⟩
    · have hn : pathT c = false := by simpa [fit1T] using hf
      have q1 := ih.p1.trans hn
      have q2 := ih.p2 hn
      exact ⟨wf_bin (op := 16) rfl (by simp [fit2T, q1, path_leaf, isPathB]) (wf_leaf (op := 1) rfl (by decide)) ih.w1, rfl, fun h => by rw [plain_un] at h; simp [plainB] at h, fun _ => wf_bin (op := 15) rfl (by simp [fit2T, q2, path_leaf, isPathB]) (wf_leaf (op := 0) rfl (by decide)) (ih.w2 hn), fun _ => rfl, fun _ h => by rw [plain_un] at h; simp [plainB] at h⟩
    · have hn : pathT c = false ∧ plainT c = true := by simpa [fit1T] using hf
      have q1 := ih.p1.trans hn.1
      exact ⟨wf_un (op := 19) rfl (by simp [fit1T, q1, ih.l1 hn.2]) ih.w1, rfl, fun h => by rw [plain_un] at h; simp [plainB] at h, fun h => (by cases h), fun h => (by cases h), fun h => (by cases h)⟩
    · have hn : pathT c = false := by simpa [fit1T] using hf
      have q1 := ih.p1.trans hn
      exact ⟨wf_un (op := 20) rfl (by simp [fit1T, q1]) ih.w1, rfl, fun h => by rw [plain_un] at h; simp [plainB] at h, fun h => (by cases h), fun h => (by cases h), fun h => (by cases h)⟩
    · have hn : pathT c = true := by simpa [fit1T] using hf
      have q1 := ih.p1.trans hn
      exact ⟨wf_un (op := 23) rfl (by simp [fit1T, q1]) ih.w1, rfl, fun h => by rw [plain_un] at h; simp [plainB] at h, fun h => (by cases h), fun h => (by cases h), fun h => (by cases h)⟩
  | .bin (op, p) c d, h => by
    obtain ⟨rfl, hc, hd, hf, ho⟩ := bin_cases h
    have ih := kOk c hc
    have jh := kOk d hd
    rcases ho with rfl | rfl | rfl | rfl | rfl | rfl | rfl | rfl | rfl | rfl
    · have hn : pathT c = false ∧ pathT d = false := by simpa [fit2T] using hf
      have q1 := ih.p1.trans hn.1
      have q2 := ih.p2 hn.1
      have r1 := jh.p1.trans hn.2
      have r2 := jh.p2 hn.2
      have hp : plainT (.bin (11, 0) c d) = true → plainT c = true ∧ plainT d = true := fun h => by rw [plain_bin] at h; simpa [plainB] using h
      refine ⟨wf_bin (op := 11) rfl (by simp [fit2T, q1, r1]) ih.w1 jh.w1, rfl, fun h => ?_, fun _ => wf_bin (op := 12) rfl (by simp [fit2T, q2, r2]) (ih.w2 hn.1) (jh.w2 hn.2), fun _ => rfl, fun _ h => ?_⟩
      · obtain ⟨h1, h2⟩ := hp h
        have hp := And.intro h1 h2
        show plainT (.bin (11, 0) _ _) = true
        rw [plain_bin, ih.l1 hp.1, jh.l1 hp.2]; rfl
      · obtain ⟨h1, h2⟩ := hp h
        have hp := And.intro h1 h2
        show plainT (.bin (12, 0) _ _) = true
        rw [plain_bin, ih.l2 hn.1 hp.1, jh.l2 hn.2 hp.2]; rfl
    · have hn : pathT c = false ∧ pathT d = false := by simpa [fit2T] using hf
      have q1 := ih.p1.trans hn.1
      have q2 := ih.p2 hn.1
      have r1 := jh.p1.trans hn.2
      have r2 := jh.p2 hn.2
      have hp : plainT (.bin (12, 0) c d) = true → plainT c = true ∧ plainT d = true := fun h => by rw [plain_bin] at h; simpa [plainB] using h
      refine ⟨wf_bin (op := 12) rfl (by simp [fit2T, q1, r1]) ih.w1 jh.w1, rfl, fun h => ?_, fun _ => wf_bin (op := 11) rfl (by simp [fit2T, q2, r2]) (ih.w2 hn.1) (jh.w2 hn.2), fun _ => rfl, fun _ h => ?_⟩
      · obtain ⟨h1, h2⟩ := hp h
        have hp := And.intro h1 h2
        show plainT (.bin (12, 0) _ _) = true
        rw [plain_bin, ih.l1 hp.1, jh.l1 hp.2]; rfl
      · obtain ⟨h1, h2⟩ := hp h
        have hp := And.intro h1 h2
        show plainT (.bin (11, 0) _ _) = true
        rw [plain_bin, ih.l2 hn.1 hp.1, jh.l2 hn.2 hp.2]; rfl
    · have hn : pathT c = false ∧ pathT d = false := by simpa [fit2T] using hf
      have q1 := ih.p1.trans hn.1
      have q2 := ih.p2 hn.1
      have r1 := jh.p1.trans hn.2
      have r2 := jh.p2 hn.2
      have hp : plainT (.bin (13, 0) c d) = true → plainT c = true ∧ plainT d = true := fun h => by rw [plain_bin] at h; simpa [plainB] using h
      refine ⟨wf_bin (op := 12) rfl (by simp [fit2T, q2, r1]) (ih.w2 hn.1) jh.w1, rfl, fun h => ?_, fun _ => wf_bin (op := 11) rfl (by simp [fit2T, q1, r2]) ih.w1 (jh.w2 hn.2), fun _ => rfl, fun _ h => ?_⟩
      · obtain ⟨h1, h2⟩ := hp h
        have hp := And.intro h1 h2
        show plainT (.bin (12, 0) _ _) = true
        rw [plain_bin, ih.l2 hn.1 hp.1, jh.l1 hp.2]; rfl
      · obtain ⟨h1, h2⟩ := hp h
        have hp := And.intro h1 h2
        show plainT (.bin (11, 0) _ _) = true
        rw [plain_bin, ih.l1 hp.1, jh.l2 hn.2 hp.2]; rfl
    · have hn : pathT c = false ∧ pathT d = false := by simpa [fit2T] using hf
      have q1 := ih.p1.trans hn.1
      have q2 := ih.p2 hn.1
      have r1 := jh.p1.trans hn.2
      have r2 := jh.p2 hn.2
      have hp : plainT (.bin (14, 0) c d) = true → plainT c = true ∧ plainT d = true := fun h => by rw [plain_bin] at h; simpa [plainB] using h
      refine ⟨wf_bin (op := 12) rfl rfl (wf_bin (op := 11) rfl (by simp [fit2T, q1, r1]) ih.w1 jh.w1) (wf_bin (op := 11) rfl (by simp [fit2T, q2, r2]) (ih.w2 hn.1) (jh.w2 hn.2)), rfl, fun h => ?_, fun _ => wf_bin (op := 12) rfl rfl (wf_bin (op := 11) rfl (by simp [fit2T, q1, r2]) ih.w1 (jh.w2 hn.2)) (wf_bin (op := 11) rfl (by simp [fit2T, q2, r1]) (ih.w2 hn.1) jh.w1), fun _ => rfl, fun _ h => ?_⟩
      · obtain ⟨h1, h2⟩ := hp h
        have hp := And.intro h1 h2
        show plainT (.bin (12, 0) (.bin (11, 0) _ _) (.bin (11, 0) _ _)) = true
        rw [plain_bin, plain_bin, plain_bin, ih.l1 hp.1, jh.l1 hp.2, ih.l2 hn.1 hp.1, jh.l2 hn.2 hp.2]; rfl
      · obtain ⟨h1, h2⟩ := hp h
        have hp := And.intro h1 h2
        show plainT (.bin (12, 0) (.bin (11, 0) _ _) (.bin (11, 0) _ _)) = true
        rw [plain_bin, plain_bin, plain_bin, ih.l1 hp.1, jh.l2 hn.2 hp.2, ih.l2 hn.1 hp.1, jh.l1 hp.2]; rfl
    · have hn : pathT c = false ∧ pathT d = false := by simpa [fit2T] using hf
      have q1 := ih.p1.trans hn.1
      have q2 := ih.p2 hn.1
      have r1 := jh.p1.trans hn.2
      have r2 := jh.p2 hn.2
      exact ⟨wf_bin (op := 15) rfl (by simp [fit2T, q1, r1]) ih.w1 jh.w1, rfl, fun h => by rw [plain_bin] at h; simp [plainB] at h, fun _ => wf_bin (op := 16) rfl (by simp [fit2T, q2, r2]) (ih.w2 hn.1) (jh.w2 hn.2), fun _ => rfl, fun _ h => by rw [plain_bin] at h; simp [plainB] at h⟩
    · have hn : pathT c = false ∧ pathT d = false := by simpa [fit2T] using hf
      have q1 := ih.p1.trans hn.1
      have q2 := ih.p2 hn.1
      have r1 := jh.p1.trans hn.2
      have r2 := jh.p2 hn.2
      exact ⟨wf_bin (op := 16) rfl (by simp [fit2T, q1, r1]) ih.w1 jh.w1, rfl, fun h => by rw [plain_bin] at h; simp [plainB] at h, fun _ => wf_bin (op := 15) rfl (by simp [fit2T, q2, r2]) (ih.w2 hn.1) (jh.w2 hn.2), fun _ => rfl, fun _ h => by rw [plain_bin] at h; simp [plainB] at h⟩
    · have hn : pathT c = true ∧ pathT d = false := by simpa [fit2T] using hf
      have q1 := ih.p1.trans hn.1
      have r1 := jh.p1.trans hn.2
      have r2 := jh.p2 hn.2
      exact ⟨wf_bin (op := 17) rfl (by simp [fit2T, q1, r1]) ih.w1 jh.w1, rfl, fun h => by rw [plain_bin] at h; simp [plainB] at h, fun _ => wf_bin (op := 18) rfl (by simp [fit2T, q1, r2]) ih.w1 (jh.w2 hn.2), fun _ => rfl, fun _ h => by rw [plain_bin] at h; simp [plainB] at h⟩
    · have hn : pathT c = true ∧ pathT d = false := by simpa [fit2T] using hf
      have q1 := ih.p1.trans hn.1
      have r1 := jh.p1.trans hn.2
      have r2 := jh.p2 hn.2
      exact ⟨wf_bin (op := 18) rfl (by simp [fit2T, q1, r1]) ih.w1 jh.w1, rfl, fun h => by rw [plain_bin] at h; simp [plainB] at h, fun _ => wf_bin (op := 17) rfl (by simp [fit2T, q1, r2]) ih.w1 (jh.w2 hn.2), fun _ => rfl, fun _ h => by rw [plain_bin] at h; simp [plainB] at h⟩
    · have hn : pathT c = true ∧ pathT d = true := by simpa [fit2T] using hf
      have q1 := ih.p1.trans hn.1
      have r1 := jh.p1.trans hn.2
      exact ⟨wf_bin (op := 21) rfl (by simp [fit2T, q1, r1]) ih.w1 jh.w1, rfl, fun h => by rw [plain_bin] at h; simp [plainB] at h, fun h => (by cases h), fun h => (by cases h), fun h => (by cases h)⟩
    · have hn : pathT c = true ∧ pathT d = true := by simpa [fit2T] using hf
      have q1 := ih.p1.trans hn.1
      have r1 := jh.p1.trans hn.2
      exact ⟨wf_bin (op := 22) rfl (by simp [fit2T, q1, r1]) ih.w1 jh.w1, rfl, fun h => by rw [plain_bin] at h; simp [plainB] at h, fun h => (by cases h), fun h => (by cases h), fun h => (by cases h)⟩
end Go.Proofs.Ytbfhbpibpmgblaa
namespace Go.Proofs.Ytbfhbpibpmgblaa

section
variable {t : List Nat}
/-- K means what T means, K' just the opposite. -/
structure KMn (t : List Nat) (T : Tr) : Prop where
  f1 : pathT T = false → ∀ i, i ≤ t.length → ((semTr t (kTr T).1).1 i ↔ (semTr t T).1 i)
  f2 : pathT T = false → ∀ i, i ≤ t.length → ((semTr t (kTr T).2).1 i ↔ ¬ (semTr t T).1 i)
  w1 : pathT T = true → ∀ i, i ≤ t.length → ∀ k, ((semTr t (kTr T).1).2 i k ↔ (semTr t T).2 i k)
theorem not_un {n : Nat} {A A' : Nat → Prop} (h : ∀ i, i ≤ n → (A' i ↔ ¬ A i)) (i : Nat) : (unV n 7 A' i ↔ ¬ unV n 8 A i) ∧ (unV n 8 A' i ↔ ¬ unV n 7 A i) := by
  simp [unV]
  constructor
  · intro h1; exact h _ (by omega)
  · constructor
    · intro h1 h2; exact (h _ (by omega)).1 (h1 h2)
    · intro h1 h2; exact (h _ (by omega)).2 (h1 h2)
theorem same_un {n op : Nat} {A A' : Nat → Prop} (ho : op = 7 ∨ op = 8) (h : ∀ i, i ≤ n → (A' i ↔ A i)) (i : Nat) : unV n op A' i ↔ unV n op A i := by
  rcases ho with rfl | rfl
  · simp [unV]; intro h1; exact h _ (by omega)
  · simp [unV]
    constructor
    · intro h1 h2; exact (h _ (by omega)).1 (h1 h2)
    · intro h1 h2; exact (h _ (by omega)).2 (h1 h2)
theorem same_until {n : Nat} {x y x' y' : Sv} (hx : ∀ i, i ≤ n → (x'.1 i ↔ x.1 i)) (hy : ∀ i, i ≤ n → (y'.1 i ↔ y.1 i)) (i : Nat) : (binV n 15 x' y' i ↔ binV n 15 x y i) ∧ (binV n 16 x' y' i ↔ binV n 16 x y i) := by
  simp [binV]
  constructor
  · constructor
    · rintro ⟨j, h1, h2, h3, h4⟩; exact ⟨j, h1, h2, (hy j (by omega)).1 h3, fun k k1 k2 => (hx k (by omega)).1 (h4 k k1 k2)⟩
    · rintro ⟨j, h1, h2, h3, h4⟩; exact ⟨j, h1, h2, (hy j (by omega)).2 h3, fun k k1 k2 => (hx k (by omega)).2 (h4 k k1 k2)⟩
  · constructor
    · intro h j h1 h2
      rcases h j h1 h2 with h | ⟨k, k1, k2, k3⟩
      · exact Or.inl ((hy j (by omega)).1 h)
      · exact Or.inr ⟨k, k1, k2, (hx k (by omega)).1 k3⟩
    · intro h j h1 h2
      rcases h j h1 h2 with h | ⟨k, k1, k2, k3⟩
      · exact Or.inl ((hy j (by omega)).2 h)
      · exact Or.inr ⟨k, k1, k2, (hx k (by omega)).2 k3⟩
theorem not_until {n : Nat} {x y x' y' : Sv} (hx : ∀ i, i ≤ n → (x'.1 i ↔ ¬ x.1 i)) (hy : ∀ i, i ≤ n → (y'.1 i ↔ ¬ y.1 i)) (i : Nat) : (binV n 15 x' y' i ↔ ¬ binV n 16 x y i) ∧ (binV n 16 x' y' i ↔ ¬ binV n 15 x y i) := by
  simp [binV]
  constructor
  · constructor
    · rintro ⟨j, h1, h2, h3, h4⟩
      exact ⟨j, h1, h2, (hy j (by omega)).1 h3, fun k k1 k2 => (hx k (by omega)).1 (h4 k k1 k2)⟩
    · rintro ⟨j, h1, h2, h3, h4⟩
      exact ⟨j, h1, h2, (hy j (by omega)).2 h3, fun k k1 k2 => (hx k (by omega)).2 (h4 k k1 k2)⟩
  · constructor
    · intro h j h1 h2 h3
      rcases h j h1 h2 with h | ⟨k, k1, k2, k3⟩
      · exact absurd h3 ((hy j (by omega)).1 h)
      · exact ⟨k, k1, k2, (hx k (by omega)).1 k3⟩
    · intro h j h1 h2
      by_cases h3 : y.1 j
      · obtain ⟨k, k1, k2, k3⟩ := h j h1 h2 h3
        exact Or.inr ⟨k, k1, k2, (hx k (by omega)).2 k3⟩
      · exact Or.inl ((hy j (by omega)).2 h3)
end
theorem kMn (t : List Nat) : ∀ T : Tr, T.WF → KMn t T
  | .leaf (op, p), h => by
    rcases leaf_cases h with ⟨rfl, hp⟩ | ⟨rfl, rfl | rfl | rfl | rfl | rfl⟩
    · exact ⟨fun _ _ _ => Iff.rfl, fun _ i _ => by show (semT t 6 0 [semT t 2 p []]).1 i ↔ _; simp [semT, unV, semTr], fun h => (by cases h)⟩
    · exact ⟨fun _ _ _ => Iff.rfl, fun _ i _ => by show (semT t 1 0 []).1 i ↔ ¬ (semT t 0 0 []).1 i; simp [semT, leafV], fun h => (by cases h)⟩
    · exact ⟨fun _ _ _ => Iff.rfl, fun _ i _ => by show (semT t 0 0 []).1 i ↔ ¬ (semT t 1 0 []).1 i; simp [semT, leafV], fun h => (by cases h)⟩
    · refine ⟨fun _ i hi => (dual_last t i).symm, fun _ i hi => ?_, fun h => (by cases h)⟩
      show (semT t 12 0 [semT t 5 0 [], semT t 7 0 [semT t 0 0 []]]).1 i ↔ ¬ (semT t 3 0 []).1 i
      simp [semT, unV, binV, leafV]; omega
    · exact ⟨fun _ _ _ => Iff.rfl, fun _ i hi => by show (semT t 5 0 []).1 i ↔ ¬ (semT t 4 0 []).1 i; simp [semT, leafV]; omega, fun h => (by cases h)⟩
    · exact ⟨fun _ _ _ => Iff.rfl, fun _ i hi => by show (semT t 4 0 []).1 i ↔ ¬ (semT t 5 0 []).1 i; simp [semT, leafV]; omega, fun h => (by cases h)⟩
  | .un (op, p) c, h => by
    obtain ⟨rfl, hc, hf, ho⟩ := un_cases h
    have ih := kMn t c hc
    have hwi := ways_in t c hc
    rcases ho with rfl | rfl | rfl | rfl | rfl | rfl | rfl | rfl
    · have hn : pathT c = false := by simpa [fit1T] using hf
      have f1 := ih.f1 hn
      have f2 := ih.f2 hn
      refine ⟨fun _ i hi => ?_, fun _ i hi => ?_, fun h => (by cases h)⟩
      · show (semTr t (kTr c).2).1 i ↔ (semT t 6 0 [semTr t c]).1 i
        rw [f2 i hi]; simp [semT, unV]
      · show (semTr t (kTr c).1).1 i ↔ ¬ (semT t 6 0 [semTr t c]).1 i
        rw [f1 i hi]; simp [semT, unV]
    · have hn : pathT c = false := by simpa [fit1T] using hf
      exact ⟨fun _ i hi => same_un (Or.inl rfl) (ih.f1 hn) i, fun _ i hi => (not_un (ih.f2 hn) i).2, fun h => (by cases h)⟩
    · have hn : pathT c = false := by simpa [fit1T] using hf
      exact ⟨fun _ i hi => same_un (Or.inr rfl) (ih.f1 hn) i, fun _ i hi => (not_un (ih.f2 hn) i).1, fun h => (by cases h)⟩
    · have hn : pathT c = false := by simpa [fit1T] using hf
      refine ⟨fun _ i hi => ?_, fun _ i hi => ?_, fun h => (by cases h)⟩
      · exact (same_until (x := semT t 0 0 []) (x' := semT t 0 0 []) (fun _ _ => Iff.rfl) (ih.f1 hn) i).1.trans (dual_finally t _ i).symm
      · have := (not_until (n := t.length) (x := semT t 0 0 []) (x' := semT t 1 0 []) (fun j _ => by simp [semT, leafV]) (ih.f2 hn) i).2
        exact this.trans (not_congr (dual_finally t _ i).symm)
    · have hn : pathT c = false := by simpa [fit1T] using hf
      refine ⟨fun _ i hi => ?_, fun _ i hi => ?_, fun h => (by cases h)⟩
      · exact (same_until (x := semT t 1 0 []) (x' := semT t 1 0 []) (fun _ _ => Iff.rfl) (ih.f1 hn) i).2.trans (dual_globally t _ i).symm
      · have := (not_until (n := t.length) (x := semT t 1 0 []) (x' := semT t 0 0 []) (fun j _ => by simp [semT, leafV]) (ih.f2 hn) i).1
        exact this.trans (not_congr (dual_globally t _ i).symm)
    · have hn : pathT c = false ∧ plainT c = true := by simpa [fit1T] using hf
      refine ⟨fun h => (by cases h), fun h => (by cases h), fun _ i hi k => ?_⟩
      show unY t.length 19 (semTr t (kTr c).1) i k ↔ unY t.length 19 (semTr t c) i k
      simp only [unY, if_true]
      rw [ih.f1 hn.1 i hi]
    · have hn : pathT c = false := by simpa [fit1T] using hf
      refine ⟨fun h => (by cases h), fun h => (by cases h), fun _ i hi k => ?_⟩
      show unY t.length 20 (semTr t (kTr c).1) i k ↔ unY t.length 20 (semTr t c) i k
      simp only [unY, if_neg (show ¬ (20 = 19) by decide), if_true]
      rw [ih.f1 hn i hi]
    · have hn : pathT c = true := by simpa [fit1T] using hf
      refine ⟨fun h => (by cases h), fun h => (by cases h), fun _ i hi k => ?_⟩
      show unY t.length 23 (semTr t (kTr c).1) i k ↔ unY t.length 23 (semTr t c) i k
      simp only [unY, if_neg (show ¬ (23 = 19) by decide), if_neg (show ¬ (23 = 20) by decide)]
      have hst : ∀ m i k, i ≤ t.length → (stepsP (semTr t (kTr c).1).2 m i k ↔ stepsP (semTr t c).2 m i k) := by
        intro m
        induction m with
        | zero => intro i k _; exact Iff.rfl
        | succ m im =>
          intro i k hi
          constructor
          · rintro ⟨j, h1, h2⟩
            have h1' := (ih.w1 hn i hi j).1 h1
            exact ⟨j, h1', (im j k (hwi i j hi h1').2).1 h2⟩
          · rintro ⟨j, h1, h2⟩
            exact ⟨j, (ih.w1 hn i hi j).2 h1, (im j k (hwi i j hi h1).2).2 h2⟩
      exact exists_congr fun m => hst m i k hi
  | .bin (op, p) c d, h => by
    obtain ⟨rfl, hc, hd, hf, ho⟩ := bin_cases h
    have ih := kMn t c hc
    have jh := kMn t d hd
    have hwi := ways_in t c hc
    rcases ho with rfl | rfl | rfl | rfl | rfl | rfl | rfl | rfl | rfl | rfl
    · have hn : pathT c = false ∧ pathT d = false := by simpa [fit2T] using hf
      refine ⟨fun _ i hi => ?_, fun _ i hi => ?_, fun h => (by cases h)⟩
      · show binV t.length 11 (semTr t (kTr c).1) (semTr t (kTr d).1) i ↔ binV t.length 11 (semTr t c) (semTr t d) i
        simp only [binV, if_true]; rw [ih.f1 hn.1 i hi, jh.f1 hn.2 i hi]
      · show binV t.length 12 (semTr t (kTr c).2) (semTr t (kTr d).2) i ↔ ¬ binV t.length 11 (semTr t c) (semTr t d) i
        simp only [binV, if_neg (show ¬ (12 = 11) by decide), if_true]; rw [ih.f2 hn.1 i hi, jh.f2 hn.2 i hi]
        by_cases hx : (semTr t c).1 i <;> simp [hx]
    · have hn : pathT c = false ∧ pathT d = false := by simpa [fit2T] using hf
      refine ⟨fun _ i hi => ?_, fun _ i hi => ?_, fun h => (by cases h)⟩
      · show binV t.length 12 (semTr t (kTr c).1) (semTr t (kTr d).1) i ↔ binV t.length 12 (semTr t c) (semTr t d) i
        simp only [binV, if_neg (show ¬ (12 = 11) by decide), if_true]; rw [ih.f1 hn.1 i hi, jh.f1 hn.2 i hi]
      · show binV t.length 11 (semTr t (kTr c).2) (semTr t (kTr d).2) i ↔ ¬ binV t.length 12 (semTr t c) (semTr t d) i
        simp only [binV, if_neg (show ¬ (12 = 11) by decide), if_true]; rw [ih.f2 hn.1 i hi, jh.f2 hn.2 i hi]
        exact not_or.symm
    · have hn : pathT c = false ∧ pathT d = false := by simpa [fit2T] using hf
      refine ⟨fun _ i hi => ?_, fun _ i hi => ?_, fun h => (by cases h)⟩
      · show binV t.length 12 (semTr t (kTr c).2) (semTr t (kTr d).1) i ↔ binV t.length 13 (semTr t c) (semTr t d) i
        simp only [binV, if_neg (show ¬ (12 = 11) by decide), if_neg (show ¬ (13 = 11) by decide), if_neg (show ¬ (13 = 12) by decide), if_true]; rw [ih.f2 hn.1 i hi, jh.f1 hn.2 i hi]
        by_cases hx : (semTr t c).1 i <;> simp [hx]
      · show binV t.length 11 (semTr t (kTr c).1) (semTr t (kTr d).2) i ↔ ¬ binV t.length 13 (semTr t c) (semTr t d) i
        simp only [binV, if_neg (show ¬ (13 = 11) by decide), if_neg (show ¬ (13 = 12) by decide), if_true]; rw [ih.f1 hn.1 i hi, jh.f2 hn.2 i hi]
        by_cases hx : (semTr t c).1 i <;> simp [hx]
    · have hn : pathT c = false ∧ pathT d = false := by simpa [fit2T] using hf
      refine ⟨fun _ i hi => ?_, fun _ i hi => ?_, fun h => (by cases h)⟩
      · show binV t.length 12 (semT t 11 0 [semTr t (kTr c).1, semTr t (kTr d).1]) (semT t 11 0 [semTr t (kTr c).2, semTr t (kTr d).2]) i ↔ binV t.length 14 (semTr t c) (semTr t d) i
        simp only [semT, binV, if_neg (show ¬ (12 = 11) by decide), if_neg (show ¬ (14 = 11) by decide), if_neg (show ¬ (14 = 12) by decide), if_neg (show ¬ (14 = 13) by decide), if_true]
        rw [ih.f1 hn.1 i hi, jh.f1 hn.2 i hi, ih.f2 hn.1 i hi, jh.f2 hn.2 i hi]
        by_cases hx : (semTr t c).1 i <;> by_cases hy : (semTr t d).1 i <;> simp [hx, hy]
      · show binV t.length 12 (semT t 11 0 [semTr t (kTr c).1, semTr t (kTr d).2]) (semT t 11 0 [semTr t (kTr c).2, semTr t (kTr d).1]) i ↔ ¬ binV t.length 14 (semTr t c) (semTr t d) i
        simp only [semT, binV, if_neg (show ¬ (12 = 11) by decide), if_neg (show ¬ (14 = 11) by decide), if_neg (show ¬ (14 = 12) by decide), if_neg (show ¬ (14 = 13) by decide), if_true]
        rw [ih.f1 hn.1 i hi, jh.f1 hn.2 i hi, ih.f2 hn.1 i hi, jh.f2 hn.2 i hi]
        by_cases hx : (semTr t c).1 i <;> by_cases hy : (semTr t d).1 i <;> simp [hx, hy]
    · have hn : pathT c = false ∧ pathT d = false := by simpa [fit2T] using hf
      exact ⟨fun _ i hi => (same_until (ih.f1 hn.1) (jh.f1 hn.2) i).1, fun _ i hi => (not_until (ih.f2 hn.1) (jh.f2 hn.2) i).2, fun h => (by cases h)⟩
    · have hn : pathT c = false ∧ pathT d = false := by simpa [fit2T] using hf
      exact ⟨fun _ i hi => (same_until (ih.f1 hn.1) (jh.f1 hn.2) i).2, fun _ i hi => (not_until (ih.f2 hn.1) (jh.f2 hn.2) i).1, fun h => (by cases h)⟩
    · have hn : pathT c = true ∧ pathT d = false := by simpa [fit2T] using hf
      refine ⟨fun _ i hi => ?_, fun _ i hi => ?_, fun h => (by cases h)⟩
      · show binV t.length 17 (semTr t (kTr c).1) (semTr t (kTr d).1) i ↔ binV t.length 17 (semTr t c) (semTr t d) i
        simp [binV]
        constructor
        · rintro ⟨k, h1, h2⟩
          have h1' := (ih.w1 hn.1 i hi k).1 h1
          exact ⟨k, h1', (jh.f1 hn.2 k (hwi i k hi h1').2).1 h2⟩
        · rintro ⟨k, h1, h2⟩
          exact ⟨k, (ih.w1 hn.1 i hi k).2 h1, (jh.f1 hn.2 k (hwi i k hi h1).2).2 h2⟩
      · show binV t.length 18 (semTr t (kTr c).1) (semTr t (kTr d).2) i ↔ ¬ binV t.length 17 (semTr t c) (semTr t d) i
        simp [binV]
        constructor
        · intro h k h1
          exact (jh.f2 hn.2 k (hwi i k hi h1).2).1 (h k ((ih.w1 hn.1 i hi k).2 h1))
        · intro h k h1
          have h1' := (ih.w1 hn.1 i hi k).1 h1
          exact (jh.f2 hn.2 k (hwi i k hi h1').2).2 (h k h1')
    · have hn : pathT c = true ∧ pathT d = false := by simpa [fit2T] using hf
      refine ⟨fun _ i hi => ?_, fun _ i hi => ?_, fun h => (by cases h)⟩
      · show binV t.length 18 (semTr t (kTr c).1) (semTr t (kTr d).1) i ↔ binV t.length 18 (semTr t c) (semTr t d) i
        simp [binV]
        constructor
        · intro h k h1
          exact (jh.f1 hn.2 k (hwi i k hi h1).2).1 (h k ((ih.w1 hn.1 i hi k).2 h1))
        · intro h k h1
          have h1' := (ih.w1 hn.1 i hi k).1 h1
          exact (jh.f1 hn.2 k (hwi i k hi h1').2).2 (h k h1')
      · show binV t.length 17 (semTr t (kTr c).1) (semTr t (kTr d).2) i ↔ ¬ binV t.length 18 (semTr t c) (semTr t d) i
        simp [binV]
        constructor
        · rintro ⟨k, h1, h2⟩
          have h1' := (ih.w1 hn.1 i hi k).1 h1
          exact ⟨k, h1', (jh.f2 hn.2 k (hwi i k hi h1').2).1 h2⟩
        · rintro ⟨k, h1, h2⟩
          exact ⟨k, (ih.w1 hn.1 i hi k).2 h1, (jh.f2 hn.2 k (hwi i k hi h1).2).2 h2⟩
    · have hn : pathT c = true ∧ pathT d = true := by simpa [fit2T] using hf
      refine ⟨fun h => (by cases h), fun h => (by cases h), fun _ i hi k => ?_⟩
      show binY 21 (semTr t (kTr c).1) (semTr t (kTr d).1) i k ↔ binY 21 (semTr t c) (semTr t d) i k
      simp only [binY, if_true]; rw [ih.w1 hn.1 i hi k, jh.w1 hn.2 i hi k]
    · have hn : pathT c = true ∧ pathT d = true := by simpa [fit2T] using hf
      refine ⟨fun h => (by cases h), fun h => (by cases h), fun _ i hi k => ?_⟩
      show binY 22 (semTr t (kTr c).1) (semTr t (kTr d).1) i k ↔ binY 22 (semTr t c) (semTr t d) i k
      simp only [binY, if_neg (show ¬ (22 = 21) by decide)]
      constructor
      · rintro ⟨j, h1, h2⟩
        have h1' := (ih.w1 hn.1 i hi j).1 h1
        exact ⟨j, h1', (jh.w1 hn.2 j (hwi i j hi h1').2 k).1 h2⟩
      · rintro ⟨j, h1, h2⟩
        exact ⟨j, (ih.w1 hn.1 i hi j).2 h1, (jh.w1 hn.2 j (hwi i j hi h1).2 k).2 h2⟩
end Go.Proofs.Ytbfhbpibpmgblaa
namespace Go.Proofs.Ytbfhbpibpmgblaa

/-- Is a tree a kernel formula's, or a path's of one? -/
def kerT : Tr → Bool
  | .leaf (op, _) => op != 3
  | .un (op, _) c => if op = 6 then (match c with | .leaf (o, _) => o == 2 | _ => false) else (op == 7 || op == 8 || op == 19 || op == 20 || op == 23) && kerT c
  | .bin (op, _) c d => (op != 13 && op != 14) && (kerT c && kerT d)
theorem ker_k : ∀ T : Tr, T.WF → kerT (kTr T).1 = true ∧ (pathT T = false → kerT (kTr T).2 = true)
  | .leaf (op, p), h => by
    rcases leaf_cases h with ⟨rfl, hp⟩ | ⟨rfl, rfl | rfl | rfl | rfl | rfl⟩ <;> exact ⟨rfl, fun _ => rfl⟩
  | .un (op, p) c, h => by
    obtain ⟨rfl, hc, hf, ho⟩ := un_cases h
    have ih := ker_k c hc
    rcases ho with rfl | rfl | rfl | rfl | rfl | rfl | rfl | rfl
    · have hn : pathT c = false := by simpa [fit1T] using hf
      exact ⟨ih.2 hn, fun _ => ih.1⟩
    · have hn : pathT c = false := by simpa [fit1T] using hf
      exact ⟨by show kerT (.un (7, 0) _) = true; simp [kerT, ih.1], fun _ => by show kerT (.un (8, 0) _) = true; simp [kerT, ih.2 hn]⟩
    · have hn : pathT c = false := by simpa [fit1T] using hf
      exact ⟨by show kerT (.un (8, 0) _) = true; simp [kerT, ih.1], fun _ => by show kerT (.un (7, 0) _) = true; simp [kerT, ih.2 hn]⟩
    · have hn : pathT c = false := by simpa [fit1T] using hf
      exact ⟨by show kerT (.bin (15, 0) _ _) = true; simp [kerT, ih.1], fun _ => by show kerT (.bin (16, 0) _ _) = true; simp [kerT, ih.2 hn]⟩
    · have hn : pathT c = false := by simpa [fit1T] using hf
      exact ⟨by show kerT (.bin (16, 0) _ _) = true; simp [kerT, ih.1], fun _ => by show kerT (.bin (15, 0) _ _) = true; simp [kerT, ih.2 hn]⟩
    · exact ⟨by show kerT (.un (19, 0) _) = true; simp [kerT, ih.1], fun h => (by cases h)⟩
    · exact ⟨by show kerT (.un (20, 0) _) = true; simp [kerT, ih.1], fun h => (by cases h)⟩
    · exact ⟨by show kerT (.un (23, 0) _) = true; simp [kerT, ih.1], fun h => (by cases h)⟩
  | .bin (op, p) c d, h => by
    obtain ⟨rfl, hc, hd, hf, ho⟩ := bin_cases h
    have ih := ker_k c hc
    have jh := ker_k d hd
    rcases ho with rfl | rfl | rfl | rfl | rfl | rfl | rfl | rfl | rfl | rfl
    · have hn : pathT c = false ∧ pathT d = false := by simpa [fit2T] using hf
      exact ⟨by show kerT (.bin (11, 0) _ _) = true; simp [kerT, ih.1, jh.1], fun _ => by show kerT (.bin (12, 0) _ _) = true; simp [kerT, ih.2 hn.1, jh.2 hn.2]⟩
    · have hn : pathT c = false ∧ pathT d = false := by simpa [fit2T] using hf
      exact ⟨by show kerT (.bin (12, 0) _ _) = true; simp [kerT, ih.1, jh.1], fun _ => by show kerT (.bin (11, 0) _ _) = true; simp [kerT, ih.2 hn.1, jh.2 hn.2]⟩
    · have hn : pathT c = false ∧ pathT d = false := by simpa [fit2T] using hf
      exact ⟨by show kerT (.bin (12, 0) _ _) = true; simp [kerT, ih.2 hn.1, jh.1], fun _ => by show kerT (.bin (11, 0) _ _) = true; simp [kerT, ih.1, jh.2 hn.2]⟩
    · have hn : pathT c = false ∧ pathT d = false := by simpa [fit2T] using hf
      exact ⟨by show kerT (.bin (12, 0) (.bin (11, 0) _ _) (.bin (11, 0) _ _)) = true; simp [kerT, ih.1, jh.1, ih.2 hn.1, jh.2 hn.2], fun _ => by show kerT (.bin (12, 0) (.bin (11, 0) _ _) (.bin (11, 0) _ _)) = true; simp [kerT, ih.1, jh.1, ih.2 hn.1, jh.2 hn.2]⟩
    · have hn : pathT c = false ∧ pathT d = false := by simpa [fit2T] using hf
      exact ⟨by show kerT (.bin (15, 0) _ _) = true; simp [kerT, ih.1, jh.1], fun _ => by show kerT (.bin (16, 0) _ _) = true; simp [kerT, ih.2 hn.1, jh.2 hn.2]⟩
    · have hn : pathT c = false ∧ pathT d = false := by simpa [fit2T] using hf
      exact ⟨by show kerT (.bin (16, 0) _ _) = true; simp [kerT, ih.1, jh.1], fun _ => by show kerT (.bin (15, 0) _ _) = true; simp [kerT, ih.2 hn.1, jh.2 hn.2]⟩
    · have hn : pathT c = true ∧ pathT d = false := by simpa [fit2T] using hf
      exact ⟨by show kerT (.bin (17, 0) _ _) = true; simp [kerT, ih.1, jh.1], fun _ => by show kerT (.bin (18, 0) _ _) = true; simp [kerT, ih.1, jh.2 hn.2]⟩
    · have hn : pathT c = true ∧ pathT d = false := by simpa [fit2T] using hf
      exact ⟨by show kerT (.bin (18, 0) _ _) = true; simp [kerT, ih.1, jh.1], fun _ => by show kerT (.bin (17, 0) _ _) = true; simp [kerT, ih.1, jh.2 hn.2]⟩
    · exact ⟨by show kerT (.bin (21, 0) _ _) = true; simp [kerT, ih.1, jh.1], fun h => (by cases h)⟩
    · exact ⟨by show kerT (.bin (22, 0) _ _) = true; simp [kerT, ih.1, jh.1], fun h => (by cases h)⟩
/-- K of a kernel formula is itself; the negation of its negation is the formula. -/
theorem ker_same : ∀ T : Tr, T.WF → kerT T = true → (kTr T).1 = T ∧ (pathT T = false → (kTr (kTr T).2).2 = T)
  | .leaf (op, p), h, hk => by
    rcases leaf_cases h with ⟨rfl, hp⟩ | ⟨rfl, rfl | rfl | rfl | rfl | rfl⟩
    · exact ⟨rfl, fun _ => rfl⟩
    · exact ⟨rfl, fun _ => rfl⟩
    · exact ⟨rfl, fun _ => rfl⟩
    · cases hk
    · exact ⟨rfl, fun _ => rfl⟩
    · exact ⟨rfl, fun _ => rfl⟩
  | .un (op, p) c, h, hk => by
    obtain ⟨rfl, hc, hf, ho⟩ := un_cases h
    rcases ho with rfl | rfl | rfl | rfl | rfl | rfl | rfl | rfl
    · match c, hk with
      | .leaf (o, q), hk =>
        obtain rfl : o = 2 := by simpa [kerT] using hk
        exact ⟨rfl, fun _ => rfl⟩
    · have hn : pathT c = false := by simpa [fit1T] using hf
      have ih := ker_same c hc (by simpa [kerT] using hk)
      exact ⟨congrArg (Tr.un (7, 0)) ih.1, fun _ => congrArg (Tr.un (7, 0)) (ih.2 hn)⟩
    · have hn : pathT c = false := by simpa [fit1T] using hf
      have ih := ker_same c hc (by simpa [kerT] using hk)
      exact ⟨congrArg (Tr.un (8, 0)) ih.1, fun _ => congrArg (Tr.un (8, 0)) (ih.2 hn)⟩
    · simp [kerT] at hk
    · simp [kerT] at hk
    · have ih := ker_same c hc (by simpa [kerT] using hk)
      exact ⟨congrArg (Tr.un (19, 0)) ih.1, fun h => (by cases h)⟩
    · have ih := ker_same c hc (by simpa [kerT] using hk)
      exact ⟨congrArg (Tr.un (20, 0)) ih.1, fun h => (by cases h)⟩
    · have ih := ker_same c hc (by simpa [kerT] using hk)
      exact ⟨congrArg (Tr.un (23, 0)) ih.1, fun h => (by cases h)⟩
  | .bin (op, p) c d, h, hk => by
    obtain ⟨rfl, hc, hd, hf, ho⟩ := bin_cases h
    have hkk : kerT c = true ∧ kerT d = true := by
      have := hk
      simp [kerT] at this
      exact this.2
    have ih := ker_same c hc hkk.1
    have jh := ker_same d hd hkk.2
    have two : ∀ (op : Nat) {a b a' b' : Tr}, a = a' → b = b' → Tr.bin (op, 0) a b = Tr.bin (op, 0) a' b' := fun op a b a' b' h1 h2 => by rw [h1, h2]
    rcases ho with rfl | rfl | rfl | rfl | rfl | rfl | rfl | rfl | rfl | rfl
    · have hn : pathT c = false ∧ pathT d = false := by simpa [fit2T] using hf
      exact ⟨two 11 ih.1 jh.1, fun _ => two 11 (ih.2 hn.1) (jh.2 hn.2)⟩
    · have hn : pathT c = false ∧ pathT d = false := by simpa [fit2T] using hf
      exact ⟨two 12 ih.1 jh.1, fun _ => two 12 (ih.2 hn.1) (jh.2 hn.2)⟩
    · simp [kerT] at hk
    · simp [kerT] at hk
    · have hn : pathT c = false ∧ pathT d = false := by simpa [fit2T] using hf
      exact ⟨two 15 ih.1 jh.1, fun _ => two 15 (ih.2 hn.1) (jh.2 hn.2)⟩
    · have hn : pathT c = false ∧ pathT d = false := by simpa [fit2T] using hf
      exact ⟨two 16 ih.1 jh.1, fun _ => two 16 (ih.2 hn.1) (jh.2 hn.2)⟩
    · have hn : pathT c = true ∧ pathT d = false := by simpa [fit2T] using hf
      exact ⟨two 17 ih.1 jh.1, fun _ => two 17 (by rw [ih.1, ih.1]) (jh.2 hn.2)⟩
    · have hn : pathT c = true ∧ pathT d = false := by simpa [fit2T] using hf
      exact ⟨two 18 ih.1 jh.1, fun _ => two 18 (by rw [ih.1, ih.1]) (jh.2 hn.2)⟩
    · exact ⟨two 21 ih.1 jh.1, fun h => (by cases h)⟩
    · exact ⟨two 22 ih.1 jh.1, fun h => (by cases h)⟩
/-! ### what the functions answer -/
/-- Is it a kernel formula? -/
def IsKer (ts : List Tk) : Prop := ∃ T : Tr, T.WF ∧ pathT T = false ∧ kerT T = true ∧ ts = T.flat
open Classical in
noncomputable def chkE (ts : List Tk) : Nat := if 2048 < ts.length then 3 else if IsKer ts then 0 else 7
def ofE (ts : List Tk) : Nat := if lookE ts 1 ≠ 0 then lookE ts 1 else if 2048 < (kL ts).1.length then 3 else 0
noncomputable def negE (ts : List Tk) : Nat := if chkE ts ≠ 0 then chkE ts else if 2048 < (kL ts).2.length then 3 else 0
theorem chk_zero {ts : List Tk} : chkE ts = 0 ↔ ts.length ≤ 2048 ∧ IsKer ts := by
  unfold chkE
  split
  · exact ⟨fun h => (by cases h), fun h => absurd h.1 (by omega)⟩
  · split
    · next h1 h2 => exact ⟨fun _ => ⟨by omega, h2⟩, fun _ => rfl⟩
    · next h1 h2 => exact ⟨fun h => (by cases h), fun h => absurd h.2 h2⟩
/-- Of a formula: its tree, its K, its negation's. -/
structure KAll (t : List Nat) (ts : List Tk) : Prop where
  one : (kL ts).1.length ≤ 2048 → chkE (kL ts).1 = 0
  two : (kL (kL ts).1).2.length ≤ 2048 → chkE (kL (kL ts).1).2 = 0
  same : ∃ v, Cl t ts v ∧ (∃ u, Cl t (kL ts).1 u ∧ ∀ i, i ≤ t.length → (u.1 i ↔ v.1 i)) ∧ ∃ x, Cl t (kL (kL ts).1).2 x ∧ ∀ i, i ≤ t.length → (x.1 i ↔ ¬ v.1 i)
  again : (kL (kL ts).1).1 = (kL ts).1
  back : (kL (kL (kL ts).1).2).2 = (kL ts).1
theorem kAll (t : List Nat) {ts : List Tk} (h : lookE ts 1 = 0) : KAll t ts := by
  obtain ⟨_, T, hT, rfl, hk, _⟩ := lookE_zero.1 h
  have hp : pathT T = false := by
    cases hb : pathT T with
    | false => rfl
    | true => unfold isK kindOf at hk; unfold pathT at hb; rw [hb] at hk; cases hk
  have ok := kOk T hT
  have kk := ker_k T hT
  have hp1 := ok.p1.trans hp
  have ok2 := kOk _ ok.w1
  have kk2 := ker_k _ ok.w1
  have e1 : (kL T.flat).1 = (kTr T).1.flat := by rw [kL_tree hT]; rfl
  have e2 : (kL (kTr T).1.flat).2 = (kTr (kTr T).1).2.flat := by rw [kL_tree ok.w1]; rfl
  have s1 := ker_same _ ok.w1 kk.1
  refine ⟨?_, ?_, ?_, ?_, ?_⟩
  · intro hl
    rw [e1] at hl ⊢
    exact chk_zero.2 ⟨hl, _, ok.w1, hp1, kk.1, rfl⟩
  · intro hl
    rw [e1, e2] at hl ⊢
    exact chk_zero.2 ⟨hl, _, ok2.w2 hp1, ok2.p2 hp1, kk2.2 hp1, rfl⟩
  · have m1 := (kMn t T hT).f1 hp
    have m2 := (kMn t _ ok.w1).f2 hp1
    rw [e1, e2]
    exact ⟨_, cl_tree t T hT, ⟨_, cl_tree t _ ok.w1, m1⟩, _, cl_tree t _ (ok2.w2 hp1), fun i hi => (m2 i hi).trans (not_congr (m1 i hi))⟩
  · rw [e1, kL_tree ok.w1]
    show (kTr (kTr T).1).1.flat = _
    rw [s1.1]
  · rw [e1, e2, kL_tree (ok2.w2 hp1)]
    show (kTr (kTr (kTr T).1).2).2.flat = _
    rw [s1.2 hp1]
end Go.Proofs.Ytbfhbpibpmgblaa
namespace Go.Proofs.Ytbfhbpibpmgblaa

/-- What a token's kernel formula is made of: 24, 25 the first part's formula and its negation's, 26, 27 the second's. -/
def rOwn (op : Nat) : List Nat :=
  if op = 3 then [4, 1, 8, 11] else if op ≤ 5 then [op] else if op = 6 then [25] else if op = 7 then [24, 7] else if op = 8 then [24, 8]
  else if op = 9 then [0, 24, 15] else if op = 10 then [1, 24, 16] else if op = 13 then [25, 26, 12] else if op = 14 then [24, 26, 11, 25, 27, 11, 12]
  else if op = 19 ∨ op = 20 ∨ op = 23 then [24, op] else [24, 26, op]
def rNeg (op : Nat) : List Nat :=
  if op = 0 then [1] else if op = 1 then [0] else if op = 2 then [2, 6] else if op = 3 then [5, 0, 7, 12] else if op = 4 then [5] else if op = 5 then [4]
  else if op = 6 then [24] else if op = 7 then [25, 8] else if op = 8 then [25, 7] else if op = 9 then [1, 25, 16] else if op = 10 then [0, 25, 15]
  else if op = 11 then [25, 27, 12] else if op = 12 then [25, 27, 11] else if op = 13 then [24, 27, 11] else if op = 14 then [24, 27, 11, 25, 26, 11, 12]
  else if op = 15 then [25, 27, 16] else if op = 16 then [25, 27, 15] else if op = 17 then [24, 27, 18] else if op = 18 then [24, 27, 17] else []
def wr1 (k : Tk) (a : List Kq) (o : Nat) : List Tk :=
  if o = 24 then (a.getD 0 ([], [])).1 else if o = 25 then (a.getD 0 ([], [])).2 else if o = 26 then (a.getD 1 ([], [])).1 else if o = 27 then (a.getD 1 ([], [])).2
  else if o = 2 then [k] else [(o, 0)]
def wrS (ops : List Nat) (k : Tk) (a : List Kq) : List Tk := ops.flatMap (wr1 k a)
def jOp (k : Tk) (a : List Kq) : Kq := (wrS (rOwn k.1) k a, wrS (rNeg k.1) k a)
def jStep (st : List Kq) (k : Tk) : List Kq := st.take (st.length - takC k) ++ [jOp k (st.drop (st.length - takC k))]
def jS (ts : List Tk) (st : List Kq) : List Kq := ts.foldl jStep st
theorem jS_app (a b : List Tk) (st : List Kq) : jS (a ++ b) st = jS b (jS a st) := by unfold jS; rw [List.foldl_append]
theorem jS_next {ts : List Tk} {k : Nat} (h : k < ts.length) (st : List Kq) : jS (ts.take (k + 1)) st = jStep (jS (ts.take k) st) ts[k] := by
  rw [List.take_add_one, List.getElem?_eq_getElem h, jS_app]; rfl
def jFl (T : Tr) : Kq := ((kTr T).1.flat, if pathT T then [] else (kTr T).2.flat)
theorem jFl_leaf {op p : Nat} (h : (Tr.leaf (op, p)).WF) : jOp (op, p) [] = jFl (.leaf (op, p)) := by
  rcases leaf_cases h with ⟨rfl, hp⟩ | ⟨rfl, rfl | rfl | rfl | rfl | rfl⟩ <;> rfl
theorem jFl_un {op p : Nat} {c : Tr} (h : (Tr.un (op, p) c).WF) : jOp (op, p) [jFl c] = jFl (.un (op, p) c) := by
  obtain ⟨rfl, hc, hf, ho⟩ := un_cases h
  rcases ho with rfl | rfl | rfl | rfl | rfl | rfl | rfl | rfl <;> simp [fit1T] at hf <;> simp [jOp, wrS, wr1, rOwn, rNeg, jFl, kTr, Tr.flat, path_un, isPathB, hf]
theorem jFl_bin {op p : Nat} {c d : Tr} (h : (Tr.bin (op, p) c d).WF) : jOp (op, p) [jFl c, jFl d] = jFl (.bin (op, p) c d) := by
  obtain ⟨rfl, hc, hd, hf, ho⟩ := bin_cases h
  rcases ho with rfl | rfl | rfl | rfl | rfl | rfl | rfl | rfl | rfl | rfl <;> simp [fit2T] at hf <;> simp [jOp, wrS, wr1, rOwn, rNeg, jFl, kTr, Tr.flat, path_bin, isPathB, hf]
/-! ### how long they are -/
def s1 (T : Tr) : Nat := (kTr T).1.flat.length
def s2 (T : Tr) : Nat := (kTr T).2.flat.length
theorem s_leaf {op p : Nat} (h : (Tr.leaf (op, p)).WF) : s2 (.leaf (op, p)) ≤ 2 * s1 (.leaf (op, p)) ∧ s1 (.leaf (op, p)) ≤ 2 * s2 (.leaf (op, p)) := by
  rcases leaf_cases h with ⟨rfl, hp⟩ | ⟨rfl, rfl | rfl | rfl | rfl | rfl⟩ <;> simp [s1, s2, kTr, Tr.flat]
theorem dbl : ∀ T : Tr, T.WF → pathT T = false → s2 T ≤ 2 * s1 T ∧ s1 T ≤ 2 * s2 T
  | .leaf (op, p), h, _ => s_leaf h
  | .un (op, p) c, h, hp => by
    obtain ⟨rfl, hc, hf, ho⟩ := un_cases h
    have ih := dbl c hc
    unfold s1 s2 at ih ⊢
    rcases ho with rfl | rfl | rfl | rfl | rfl | rfl | rfl | rfl <;> simp [fit1T] at hf <;> simp [path_un, isPathB] at hp <;> (have ih := ih hf; simp [kTr, Tr.flat]; omega)
  | .bin (op, p) c d, h, hp => by
    obtain ⟨rfl, hc, hd, hf, ho⟩ := bin_cases h
    have ih := dbl c hc
    have jh := dbl d hd
    unfold s1 s2 at ih jh ⊢
    rcases ho with rfl | rfl | rfl | rfl | rfl | rfl | rfl | rfl | rfl | rfl <;> simp [fit2T] at hf <;> simp [path_bin, isPathB] at hp <;> simp only [hf, forall_const] at ih jh <;> (simp [kTr, Tr.flat]; omega)
def wt (T : Tr) : Nat := if pathT T then s1 T else min (s1 T) (s2 T)
theorem wt_un {op p : Nat} {c : Tr} (h : (Tr.un (op, p) c).WF) : wt c ≤ wt (.un (op, p) c) := by
  obtain ⟨rfl, hc, hf, ho⟩ := un_cases h
  unfold wt s1 s2
  rcases ho with rfl | rfl | rfl | rfl | rfl | rfl | rfl | rfl <;> simp [fit1T] at hf <;> (simp [path_un, isPathB, kTr, Tr.flat, hf]; try omega)
theorem wt_bin {op p : Nat} {c d : Tr} (h : (Tr.bin (op, p) c d).WF) : wt c ≤ wt (.bin (op, p) c d) ∧ wt d ≤ wt (.bin (op, p) c d) := by
  obtain ⟨rfl, hc, hd, hf, ho⟩ := bin_cases h
  unfold wt s1 s2
  rcases ho with rfl | rfl | rfl | rfl | rfl | rfl | rfl | rfl | rfl | rfl <;> simp [fit2T] at hf <;> (simp [path_bin, isPathB, kTr, Tr.flat, hf]; omega)
theorem wt_len {T : Tr} (h : T.WF) : (jFl T).1.length ≤ 2 * wt T ∧ (jFl T).2.length ≤ 2 * wt T := by
  unfold jFl wt
  cases hp : pathT T with
  | true => simp [s1]; omega
  | false =>
    have := dbl T h hp
    unfold s1 s2 at *
    simp
    omega
/-- A token that is worked off: it is one, it finds what it takes; what it makes is not too long. -/
structure JOk (B : Nat) (st : List Kq) (q : Tk) : Prop where
  tk : ∃ m, takesN q = some m
  le : takC q ≤ st.length
  l1 : (jOp q (st.drop (st.length - takC q))).1.length ≤ B
  l2 : (jOp q (st.drop (st.length - takC q))).2.length ≤ B
theorem j_tree : ∀ T : Tr, T.WF → ∀ (st : List Kq) (B : Nat), 2 * wt T ≤ B → jS T.flat st = st ++ [jFl T] ∧ ∀ k (h : k < T.flat.length), JOk B (jS (T.flat.take k) st) T.flat[k]
  | .leaf (op, p), hT, st, B, hB => by
    have e := tak_of hT.1
    have hd := drop_at st [] 0 rfl
    rw [List.append_nil] at hd
    have hw := wt_len hT
    refine ⟨?_, fun k h => ?_⟩
    · show jStep st (op, p) = _
      unfold jStep
      rw [e, hd.1, hd.2, jFl_leaf hT]
    · have hk : k = 0 := by simp [Tr.flat] at h; exact h
      subst hk
      show JOk B st (op, p)
      refine ⟨⟨0, hT.1⟩, by rw [e]; exact Nat.zero_le _, ?_, ?_⟩
      · rw [e, hd.1, jFl_leaf hT]; omega
      · rw [e, hd.1, jFl_leaf hT]; omega
  | .un (op, p) c, hT, st, B, hB => by
    have e := tak_of hT.1
    have hw := wt_len hT
    have hwc := wt_un hT
    obtain ⟨h1, h2⟩ := j_tree c hT.2.2 st B (by omega)
    have hd := drop_at st [jFl c] 1 rfl
    refine ⟨?_, ?_⟩
    · show jS (c.flat ++ [(op, p)]) st = _
      rw [jS_app, h1]
      show jStep _ (op, p) = _
      unfold jStep
      rw [e, hd.1, hd.2, jFl_un hT]
    · show ∀ k (h : k < (c.flat ++ [(op, p)]).length), JOk B (jS ((c.flat ++ [(op, p)]).take k) st) (c.flat ++ [(op, p)])[k]
      refine get_split (P := fun l x => JOk B (jS l st) x) h2 fun k h => ?_
      have hk : k = 0 := by simp at h; exact h
      subst hk
      show JOk B (jS (c.flat ++ []) st) (op, p)
      rw [List.append_nil, h1]
      refine ⟨⟨1, hT.1⟩, by rw [e]; simp, ?_, ?_⟩
      · rw [e, hd.1, jFl_un hT]; omega
      · rw [e, hd.1, jFl_un hT]; omega
  | .bin (op, p) c d, hT, st, B, hB => by
    have e := tak_of hT.1
    have hw := wt_len hT
    have hwc := wt_bin hT
    obtain ⟨h1, h2⟩ := j_tree c hT.2.2.1 st B (by omega)
    obtain ⟨h3, h4⟩ := j_tree d hT.2.2.2 (st ++ [jFl c]) B (by omega)
    have hd := drop_at st [jFl c, jFl d] 2 rfl
    rw [show st ++ [jFl c, jFl d] = st ++ [jFl c] ++ [jFl d] by simp] at hd
    have h5 : jS (c.flat ++ d.flat) st = st ++ [jFl c] ++ [jFl d] := by rw [jS_app, h1, h3]
    refine ⟨?_, ?_⟩
    · show jS (c.flat ++ d.flat ++ [(op, p)]) st = _
      rw [jS_app, h5]
      show jStep _ (op, p) = _
      unfold jStep
      rw [e, hd.1, hd.2, jFl_bin hT]
    · show ∀ k (h : k < (c.flat ++ d.flat ++ [(op, p)]).length), JOk B (jS ((c.flat ++ d.flat ++ [(op, p)]).take k) st) (c.flat ++ d.flat ++ [(op, p)])[k]
      refine get_split (P := fun l x => JOk B (jS l st) x) (get_split (P := fun l x => JOk B (jS l st) x) h2 fun k h => ?_) fun k h => ?_
      · show JOk B (jS (c.flat ++ d.flat.take k) st) d.flat[k]
        rw [jS_app, h1]; exact h4 k h
      · have hk : k = 0 := by simp at h; exact h
        subst hk
        show JOk B (jS (c.flat ++ d.flat ++ []) st) (op, p)
        rw [List.append_nil, h5]
        refine ⟨⟨2, hT.1⟩, by rw [e]; simp, ?_, ?_⟩
        · rw [e, hd.1, jFl_bin hT]; omega
        · rw [e, hd.1, jFl_bin hT]; omega
/-! ### the sum that stops at a limit -/
def mm (q : Kq) : Nat × Nat := (min q.1.length 2049, min q.2.length 2049)
def cn1 (a : List (Nat × Nat)) (o : Nat) : Nat :=
  if o = 24 then (a.getD 0 (0, 0)).1 else if o = 25 then (a.getD 0 (0, 0)).2 else if o = 26 then (a.getD 1 (0, 0)).1 else if o = 27 then (a.getD 1 (0, 0)).2 else 1
def cnF (ops : List Nat) (a : List (Nat × Nat)) (n : Nat) : Nat := ops.foldl (fun n o => min (n + cn1 a o) 2049) n
theorem cn1_wr (k : Tk) (a : List Kq) (o : Nat) : cn1 (a.map mm) o = min (wr1 k a o).length 2049 := by
  have h0 : (a.map mm).getD 0 (0, 0) = mm (a.getD 0 ([], [])) := by cases a <;> rfl
  have h1 : (a.map mm).getD 1 (0, 0) = mm (a.getD 1 ([], [])) := by
    match a with
    | [] => rfl
    | [_] => rfl
    | _ :: _ :: _ => rfl
  unfold cn1 wr1
  rw [h0, h1]
  split
  · rfl
  · split
    · rfl
    · split
      · rfl
      · split
        · rfl
        · split <;> rfl
theorem cnF_wr (k : Tk) (a : List Kq) : ∀ (ops : List Nat) (m : Nat), cnF ops (a.map mm) (min m 2049) = min (m + (wrS ops k a).length) 2049
  | [], m => rfl
  | o :: ops, m => by
    have ih := cnF_wr k a ops (m + (wr1 k a o).length)
    show cnF ops (a.map mm) (min (min m 2049 + cn1 (a.map mm) o) 2049) = _
    rw [cn1_wr k, show min (min m 2049 + min (wr1 k a o).length 2049) 2049 = min (m + (wr1 k a o).length) 2049 by omega, ih]
    unfold wrS
    rw [List.flatMap_cons, List.length_append, Nat.add_assoc]
theorem cn_wr (ops : List Nat) (k : Tk) (a : List Kq) : cnF ops (a.map mm) 0 = min (wrS ops k a).length 2049 := by
  have := cnF_wr k a ops 0
  simpa using this
theorem mm_op (k : Tk) (a : List Kq) : mm (jOp k a) = (cnF (rOwn k.1) (a.map mm) 0, cnF (rNeg k.1) (a.map mm) 0) := by
  rw [cn_wr _ k, cn_wr _ k]; rfl
theorem cnF_le (ops : List Nat) (a : List (Nat × Nat)) : ∀ n, n ≤ 2049 → cnF ops a n ≤ 2049 := by
  induction ops with
  | nil => intro n h; exact h
  | cons o ops ih => intro n _; exact ih _ (Nat.min_le_right _ _)
theorem cnF_snoc (ops : List Nat) (a : List (Nat × Nat)) (o n : Nat) : cnF (ops ++ [o]) a n = min (cnF ops a n + cn1 a o) 2049 := by unfold cnF; rw [List.foldl_append]; rfl
theorem wrS_snoc (ops : List Nat) (k : Tk) (a : List Kq) (o : Nat) : wrS (ops ++ [o]) k a = wrS ops k a ++ wr1 k a o := by simp [wrS]
theorem wrS_take (ops : List Nat) (k : Tk) (a : List Kq) (i : Nat) : (wrS (ops.take i) k a).length ≤ (wrS ops k a).length := by
  have : wrS ops k a = wrS (ops.take i) k a ++ wrS (ops.drop i) k a := by unfold wrS; rw [← List.flatMap_append, List.take_append_drop]
  rw [this, List.length_append]; omega
theorem rule_ok (op : Nat) (h : op ≤ 23) : (∀ o ∈ rOwn op, o < 28) ∧ (∀ o ∈ rNeg op, o < 28) ∧ (rOwn op).length ≤ 7 ∧ (rNeg op).length ≤ 7 := by
  rcases op_cases h with rfl | rfl | rfl | rfl | rfl | rfl | rfl | rfl | rfl | rfl | rfl | rfl | rfl | rfl | rfl | rfl | rfl | rfl | rfl | rfl | rfl | rfl | rfl | rfl <;> decide
/-- Which parts a rule asks for. -/
theorem rule_few {q : Tk} {m : Nat} (h : takesN q = some m) : ∀ o, o ∈ rOwn q.1 ∨ o ∈ rNeg q.1 → (o = 24 ∨ o = 25 → 1 ≤ m) ∧ (o = 26 ∨ o = 27 → 2 ≤ m) := by
  obtain ⟨op, p⟩ := q
  have hop : op ≤ 23 := by
    unfold takesN at h
    dsimp only at h
    split at h
    · cases h
    · omega
  rw [takesN_mayB] at h
  split at h
  · injection h with h
    subst h
    rcases op_cases hop with rfl | rfl | rfl | rfl | rfl | rfl | rfl | rfl | rfl | rfl | rfl | rfl | rfl | rfl | rfl | rfl | rfl | rfl | rfl | rfl | rfl | rfl | rfl | rfl <;> (intro o ho; simp [rOwn, rNeg] at ho; simp [takesK]; try omega)
  · cases h
end Go.Proofs.Ytbfhbpibpmgblaa
namespace Go.Proofs.Ytbfhbpibpmgblaa

/-- May a token stand in a kernel formula? (b: is the one ahead a proposition?) -/
def fewAt (b : Bool) (op p : Nat) : Bool :=
  if op = 2 then decide (p < 8) else if op = 3 ∨ op = 9 ∨ op = 10 ∨ op = 13 ∨ op = 14 then false else if op = 6 ∧ b = false then false else decide (op ≤ 23) && decide (p = 0)
def fewL : Bool → List Tk → Bool
  | _, [] => true
  | b, k :: r => fewAt b k.1 k.2 && fewL (decide (k.1 = 2)) r
def lastP (b : Bool) (l : List Tk) : Bool := match l.getLast? with | none => b | some k => decide (k.1 = 2)
theorem lastP_snoc (b : Bool) (l : List Tk) (k : Tk) : lastP b (l ++ [k]) = decide (k.1 = 2) := by simp [lastP]
theorem lastP_cons (b : Bool) (l : List Tk) (k : Tk) : lastP b (k :: l) = lastP (decide (k.1 = 2)) l := by
  cases l with
  | nil => rfl
  | cons x l =>
    have : ∃ y, (x :: l).getLast? = some y := ⟨_, List.getLast?_eq_some_getLast (by simp)⟩
    obtain ⟨y, hy⟩ := this
    simp [lastP, List.getLast?_cons_cons, hy]
theorem fewL_app : ∀ (b : Bool) (l r : List Tk), fewL b (l ++ r) = (fewL b l && fewL (lastP b l) r)
  | b, [], r => by simp [fewL, lastP]
  | b, k :: l, r => by
    show (fewAt b k.1 k.2 && fewL _ (l ++ r)) = ((fewAt b k.1 k.2 && fewL _ l) && _)
    rw [fewL_app, lastP_cons, Bool.and_assoc]
theorem fewL_one (b : Bool) (k : Tk) : fewL b [k] = fewAt b k.1 k.2 := by simp [fewL]
def rootP : Tr → Bool
  | .leaf k => decide (k.1 = 2)
  | .un k _ => decide (k.1 = 2)
  | .bin k _ _ => decide (k.1 = 2)
theorem few_tree : ∀ T : Tr, T.WF → ∀ b, fewL b T.flat = kerT T ∧ lastP b T.flat = rootP T
  | .leaf (op, p), h, b => by
    rcases leaf_cases h with ⟨rfl, hp⟩ | ⟨rfl, rfl | rfl | rfl | rfl | rfl⟩
    · refine ⟨?_, rfl⟩
      show fewL b [(2, p)] = true
      rw [fewL_one]; simp [fewAt]; omega
    all_goals exact ⟨by show fewL b [_] = _; rw [fewL_one]; simp [fewAt, kerT], rfl⟩
  | .un (op, p) c, h, b => by
    obtain ⟨rfl, hc, hf, ho⟩ := un_cases h
    have ih := few_tree c hc b
    refine ⟨?_, by show lastP b (c.flat ++ _) = _; rw [lastP_snoc]; rfl⟩
    show fewL b (c.flat ++ [(op, 0)]) = _
    rw [fewL_app, ih.1, ih.2, fewL_one]
    rcases ho with rfl | rfl | rfl | rfl | rfl | rfl | rfl | rfl
    · match c, hc with
      | .leaf (o, q), _ => by_cases e : o = 2 <;> simp [fewAt, kerT, rootP, e]
      | .un (o, q) c, hc =>
        obtain ⟨_, _, _, ho⟩ := un_cases hc
        have e : ¬ o = 2 := by omega
        simp [fewAt, kerT, rootP, e]
      | .bin (o, q) c d, hc =>
        obtain ⟨_, _, _, _, ho⟩ := bin_cases hc
        have e : ¬ o = 2 := by omega
        simp [fewAt, kerT, rootP, e]
    all_goals simp [fewAt, kerT]
  | .bin (op, p) c d, h, b => by
    obtain ⟨rfl, hc, hd, hf, ho⟩ := bin_cases h
    have ih := few_tree c hc b
    have jh := few_tree d hd
    refine ⟨?_, by show lastP b (c.flat ++ d.flat ++ _) = _; rw [lastP_snoc]; rfl⟩
    show fewL b (c.flat ++ d.flat ++ [(op, 0)]) = _
    rw [fewL_app, fewL_app, ih.1, (jh _).1, fewL_one]
    rcases ho with rfl | rfl | rfl | rfl | rfl | rfl | rfl | rfl | rfl | rfl <;> simp [fewAt, kerT]
/-! ### a stack of kinds: 0 a formula, 1 a plain one, 2 a path -/
def kd (p : Pt) : Nat := if p.path then 2 else if p.plain then 1 else 0
def isN (k want : Nat) : Bool := decide (k = want) || (decide (k = 1) && decide (want = 0))
/-- What a token makes, and whether it may. -/
def kiMade (op : Nat) (a : List Nat) : Nat :=
  if op ≤ 2 then 1 else if op ≤ 5 then 0 else if op = 6 then 1 else if op ≤ 8 then 0 else if op = 11 ∨ op = 12 then (if a.getD 0 0 = 1 ∧ a.getD 1 0 = 1 then 1 else 0) else if op ≤ 18 then 0 else 2
def kiFit (op : Nat) (a : List Nat) : Bool :=
  if op ≤ 5 then true else if op = 6 then decide (a.getD 0 0 = 1) else if op ≤ 8 then isN (a.getD 0 0) 0 else if op ≤ 16 then isN (a.getD 0 0) 0 && isN (a.getD 1 0) 0
  else if op ≤ 18 then decide (a.getD 0 0 = 2) && isN (a.getD 1 0) 0 else if op = 19 then decide (a.getD 0 0 = 1) else if op = 20 then isN (a.getD 0 0) 0 else if op = 23 then decide (a.getD 0 0 = 2)
  else decide (a.getD 0 0 = 2) && decide (a.getD 1 0 = 2)
def takO (op : Nat) : Nat := if op ≤ 5 then 0 else if op ≤ 10 ∨ op = 19 ∨ op = 20 ∨ op = 23 then 1 else 2
theorem takO_of {q : Tk} {m : Nat} (h : takesN q = some m) : takO q.1 = m := by
  unfold takesN at h
  unfold takO
  split at h
  · cases h
  · split at h
    · rename_i h1; rw [if_pos h1]; injection h
    · rename_i h1; rw [if_neg h1]
      split at h
      · rename_i h2; rw [if_pos h2]; injection h
      · rename_i h2; rw [if_neg h2]; injection h
theorem takO_cases (op : Nat) : (takO op = 0 ∧ op ≤ 5) ∨ (takO op = 1 ∧ 5 < op ∧ (op ≤ 10 ∨ op = 19 ∨ op = 20 ∨ op = 23)) ∨ (takO op = 2 ∧ 5 < op ∧ ¬ (op ≤ 10 ∨ op = 19 ∨ op = 20 ∨ op = 23)) := by
  unfold takO
  split
  · exact Or.inl ⟨rfl, by assumption⟩
  · split
    · exact Or.inr (Or.inl ⟨rfl, by omega, by assumption⟩)
    · exact Or.inr (Or.inr ⟨rfl, by omega, by assumption⟩)
theorem arm0 {op : Nat} (h : 0 = takO op) (n3 : op ≠ 3) : op = 0 ∨ op = 1 ∨ op = 2 ∨ op = 4 ∨ op = 5 := by rcases takO_cases op with ⟨h1, h2⟩ | ⟨h1, h2⟩ | ⟨h1, h2⟩ <;> omega
theorem arm1 {op : Nat} (h : 1 = takO op) (n6 : op ≠ 6) (n9 : op ≠ 9) (n10 : op ≠ 10) : op = 7 ∨ op = 8 ∨ op = 19 ∨ op = 20 ∨ op = 23 := by rcases takO_cases op with ⟨h1, h2⟩ | ⟨h1, h2⟩ | ⟨h1, h2⟩ <;> omega
theorem arm2 {op : Nat} (h : 2 = takO op) (h23 : op ≤ 23) (n13 : op ≠ 13) (n14 : op ≠ 14) : op = 11 ∨ op = 12 ∨ op = 15 ∨ op = 16 ∨ op = 17 ∨ op = 18 ∨ op = 21 ∨ op = 22 := by rcases takO_cases op with ⟨h1, h2⟩ | ⟨h1, h2⟩ | ⟨h1, h2⟩ <;> omega
theorem takO_le (op : Nat) : takO op ≤ 2 := by rcases takO_cases op with ⟨h1, h2⟩ | ⟨h1, h2⟩ | ⟨h1, h2⟩ <;> omega
def kiS : List Tk → List Nat → Option (List Nat)
  | [], st => some st
  | k :: r, st => if st.length < takO k.1 then none else if kiFit k.1 (st.drop (st.length - takO k.1)) = true then kiS r (st.take (st.length - takO k.1) ++ [kiMade k.1 (st.drop (st.length - takO k.1))]) else none
theorem few_takes {b : Bool} {op p : Nat} (h : fewAt b op p = true) : takesN (op, p) = some (takO op) ∧ op ≤ 23 ∧ op ≠ 3 ∧ op ≠ 9 ∧ op ≠ 10 ∧ op ≠ 13 ∧ op ≠ 14 ∧ (op = 6 → b = true) := by
  have hs : (op = 2 ∧ p < 8) ∨ (op ≠ 2 ∧ op ≤ 23 ∧ p = 0 ∧ op ≠ 3 ∧ op ≠ 9 ∧ op ≠ 10 ∧ op ≠ 13 ∧ op ≠ 14 ∧ (op = 6 → b = true)) := by
    unfold fewAt at h
    split at h
    · exact Or.inl ⟨by assumption, by simpa using h⟩
    · split at h
      · cases h
      · split at h
        · cases h
        · rename_i h1 h2 h3
          simp at h
          refine Or.inr ⟨h1, h.1, h.2, by omega, by omega, by omega, by omega, by omega, fun e => ?_⟩
          cases b with
          | true => rfl
          | false => exact absurd ⟨e, rfl⟩ h3
  have h1 : ¬ (23 < op ∨ (op ≠ 2 ∧ p ≠ 0) ∨ (op = 2 ∧ 7 < p)) := by rcases hs with ⟨h1, h2⟩ | ⟨h1, h2, h3, _⟩ <;> omega
  refine ⟨?_, by omega, ?_, ?_, ?_, ?_, ?_, ?_⟩
  · unfold takesN takO
    dsimp only
    rw [if_neg h1]
    split
    · rfl
    · split <;> rfl
  all_goals rcases hs with ⟨e1, e2⟩ | ⟨e1, e2, e3, e4, e5, e6, e7, e8, e9⟩ <;> first | assumption | omega
theorem kd_cases (p : Pt) (h : Sane p) : (kd p = 2 ∧ p.path = true ∧ p.plain = false) ∨ (kd p = 1 ∧ p.path = false ∧ p.plain = true) ∨ (kd p = 0 ∧ p.path = false ∧ p.plain = false) := by
  unfold Sane at h
  unfold kd
  cases h1 : p.path <;> cases h2 : p.plain <;> simp_all
theorem ki_one {op : Nat} {x : Pt} (h : Sane x) (ho : op = 7 ∨ op = 8 ∨ op = 19 ∨ op = 20 ∨ op = 23 ∨ (op = 6 ∧ kd x = 1)) (i p : Nat) : kiFit op [kd x] = fitsP op [x] ∧ (fitsP op [x] = true → kiMade op [kd x] = kd (putP (op, p) [x] i)) := by
  rcases kd_cases x h with ⟨e, e1, e2⟩ | ⟨e, e1, e2⟩ | ⟨e, e1, e2⟩ <;> rw [e] at ho ⊢ <;> rcases ho with rfl | rfl | rfl | rfl | rfl | ⟨rfl, h0⟩ <;> first | (exact absurd h0 (by decide)) | (simp [kiFit, kiMade, fitsP, putP, kd, isN, isPathB, plainB, e1, e2])
theorem ki_two {op : Nat} {x y : Pt} (h : Sane x) (h' : Sane y) (ho : op = 11 ∨ op = 12 ∨ op = 15 ∨ op = 16 ∨ op = 17 ∨ op = 18 ∨ op = 21 ∨ op = 22) (i p : Nat) : kiFit op [kd x, kd y] = fitsP op [x, y] ∧ (fitsP op [x, y] = true → kiMade op [kd x, kd y] = kd (putP (op, p) [x, y] i)) := by
  rcases kd_cases x h with ⟨e, e1, e2⟩ | ⟨e, e1, e2⟩ | ⟨e, e1, e2⟩ <;> rcases kd_cases y h' with ⟨f, f1, f2⟩ | ⟨f, f1, f2⟩ | ⟨f, f1, f2⟩ <;> rw [e, f] <;> rcases ho with rfl | rfl | rfl | rfl | rfl | rfl | rfl | rfl <;> simp [kiFit, kiMade, fitsP, putP, kd, isN, isPathB, plainB, e1, e2, f1, f2]
theorem ki_none {op p : Nat} (ho : op = 0 ∨ op = 1 ∨ op = 2 ∨ op = 4 ∨ op = 5) (i : Nat) : kiFit op [] = true ∧ fitsP op [] = true ∧ kiMade op [] = kd (putP (op, p) [] i) := by
  rcases ho with rfl | rfl | rfl | rfl | rfl <;> simp [kiFit, kiMade, fitsP, putP, kd, isPathB, plainB]
theorem ki_read : ∀ (l : List Tk) (b : Bool) (i : Nat) (st : List Pt), fewL b l = true → (∀ x ∈ st, Sane x) → (b = true → ∃ r x, st = r ++ [x] ∧ kd x = 1) → kiS l (st.map kd) = (readP l i st).map fun x => x.2.map kd
  | [], _, _, st, _, _, _ => rfl
  | (op, p) :: r, b, i, st, hf, hs, hb => by
    have hf' : (fewAt b op p && fewL (decide (op = 2)) r) = true := hf
    rw [Bool.and_eq_true] at hf'
    obtain ⟨hf1, hf2⟩ := hf'
    obtain ⟨ht, h23, n3, n9, n10, n13, n14, n6⟩ := few_takes hf1
    unfold kiS readP
    rw [ht]
    dsimp only
    rw [List.length_map]
    by_cases hl : st.length < takO op
    · rw [if_pos hl, if_pos hl]; rfl
    rw [if_neg hl, if_neg hl, ← List.map_drop, ← List.map_take]
    have hsd : ∀ x ∈ st.drop (st.length - takO op), Sane x := fun x hx => hs x (List.mem_of_mem_drop hx)
    have hst : ∀ x ∈ st.take (st.length - takO op), Sane x := fun x hx => hs x (List.mem_of_mem_take hx)
    have hal : (st.drop (st.length - takO op)).length = takO op := by simp; omega
    have h6 : op = 6 → ∃ x, st.drop (st.length - takO op) = [x] ∧ kd x = 1 := fun e => by
      obtain ⟨r', x, e1, e2⟩ := hb (n6 e)
      refine ⟨x, ?_, e2⟩
      subst e1 e
      exact (drop_at r' [x] 1 rfl).1
    generalize st.drop (st.length - takO op) = a at *
    generalize st.take (st.length - takO op) = rest at *
    have key : kiFit op (a.map kd) = fitsP op a ∧ (fitsP op a = true → kiMade op (a.map kd) = kd (putP (op, p) a i)) := by
      match a, hal, hsd, h6 with
      | [], hal, _, _ =>
        have := ki_none (p := p) (arm0 hal n3) i
        exact ⟨this.1.trans this.2.1.symm, fun _ => this.2.2⟩
      | [x], hal, hsd, h6 =>
        have h7 : op = 7 ∨ op = 8 ∨ op = 19 ∨ op = 20 ∨ op = 23 ∨ (op = 6 ∧ kd x = 1) := by
          by_cases e : op = 6
          · obtain ⟨y, e1, e2⟩ := h6 e
            injection e1 with e1 _
            subst e1
            exact Or.inr (Or.inr (Or.inr (Or.inr (Or.inr ⟨e, e2⟩))))
          · rcases arm1 hal e n9 n10 with e | e | e | e | e
            · exact Or.inl e
            · exact Or.inr (Or.inl e)
            · exact Or.inr (Or.inr (Or.inl e))
            · exact Or.inr (Or.inr (Or.inr (Or.inl e)))
            · exact Or.inr (Or.inr (Or.inr (Or.inr (Or.inl e))))
        exact ki_one (hsd x (by simp)) h7 i p
      | [x, y], hal, hsd, _ =>
        exact ki_two (hsd x (by simp)) (hsd y (by simp)) (arm2 hal h23 n13 n14) i p
      | _ :: _ :: _ :: _, hal, _, _ => have := takO_le op; simp at hal; omega
    rw [key.1]
    by_cases hfit : fitsP op a = true
    · rw [if_pos hfit, if_pos hfit, key.2 hfit, show rest.map kd ++ [kd (putP (op, p) a i)] = (rest ++ [putP (op, p) a i]).map kd by simp]
      rw [ki_read r _ (i + 1) (rest ++ [putP (op, p) a i]) hf2 ?_ ?_]
      · cases readP r (i + 1) (rest ++ [putP (op, p) a i]) <;> rfl
      · intro x hx
        rcases List.mem_append.1 hx with hx | hx
        · exact hst x hx
        · simp at hx; subst hx; exact putP_sane _ _ _
      · intro e
        simp at e
        subst e
        refine ⟨rest, _, rfl, ?_⟩
        match a, hal with
        | [], _ => rfl
    · rw [if_neg hfit, if_neg hfit]; rfl
/-- Is what the stack of kinds ends in one formula? -/
def kiOk (ts : List Tk) : Bool := match kiS ts [] with | some [x] => isN x 0 | _ => false
theorem isKer_iff (ts : List Tk) : IsKer ts ↔ fewL false ts = true ∧ kiOk ts = true := by
  constructor
  · rintro ⟨T, hT, hp, hk, rfl⟩
    have h1 : fewL false T.flat = true := ((few_tree T hT false).1).trans hk
    refine ⟨h1, ?_⟩
    unfold kiOk
    have := ki_read T.flat false 0 [] h1 (fun x hx => (by simp at hx)) (fun h => (by cases h))
    rw [read_one.2 ⟨T, hT, rfl, rfl, rfl⟩] at this
    rw [show kiS T.flat [] = some [kd (T.part 0)] from this]
    have hp' : (T.part 0).path = false := hp
    simp [kd, hp', isN]
  · rintro ⟨h1, h2⟩
    unfold kiOk at h2
    have := ki_read ts false 0 [] h1 (fun x hx => (by simp at hx)) (fun h => (by cases h))
    rw [show kiS ts [] = _ from this] at h2
    cases hr : readP ts 0 [] with
    | none => rw [hr] at h2; simp at h2
    | some x =>
      obtain ⟨all, st⟩ := x
      rw [hr] at h2
      match st, h2, hr with
      | [], h2, _ => simp at h2
      | [p], h2, hr =>
        obtain ⟨T, hT, rfl, rfl, rfl⟩ := read_one.1 hr
        refine ⟨T, hT, ?_, ?_, rfl⟩
        · cases hb : pathT T with
          | false => rfl
          | true =>
            unfold pathT at hb
            simp [kd, hb, isN] at h2
        · rw [← (few_tree T hT false).1]; exact h1
      | _ :: _ :: _, h2, _ => simp at h2
end Go.Proofs.Ytbfhbpibpmgblaa
namespace Go.Proofs.Ytbfhbpibpmgblaa

def mkT (k : Tk) (a : List Tr) : Tr :=
  match a with
  | [] => .leaf k
  | [c] => .un k c
  | c :: d :: _ => .bin k c d
def gStep (st : List Tr) (k : Tk) : List Tr := st.take (st.length - takC k) ++ [mkT k (st.drop (st.length - takC k))]
def gS (ts : List Tk) (st : List Tr) : List Tr := ts.foldl gStep st
theorem gS_app (a b : List Tk) (st : List Tr) : gS (a ++ b) st = gS b (gS a st) := by unfold gS; rw [List.foldl_append]
theorem gS_next {ts : List Tk} {k : Nat} (h : k < ts.length) (st : List Tr) : gS (ts.take (k + 1)) st = gStep (gS (ts.take k) st) ts[k] := by
  rw [List.take_add_one, List.getElem?_eq_getElem h, gS_app]; rfl
theorem gS_tree : ∀ T : Tr, T.WF → ∀ st, gS T.flat st = st ++ [T]
  | .leaf (op, p), h, st => by
    have e := tak_of h.1
    have hd := drop_at st [] 0 rfl
    rw [List.append_nil] at hd
    show gStep st (op, p) = _
    unfold gStep
    rw [e, hd.1, hd.2]; rfl
  | .un (op, p) c, h, st => by
    have e := tak_of h.1
    have hd := drop_at st [c] 1 rfl
    show gS (c.flat ++ [(op, p)]) st = _
    rw [gS_app, gS_tree c h.2.2]
    show gStep _ (op, p) = _
    unfold gStep
    rw [e, hd.1, hd.2]; rfl
  | .bin (op, p) c d, h, st => by
    have e := tak_of h.1
    have hd := drop_at st [c, d] 2 rfl
    show gS (c.flat ++ d.flat ++ [(op, p)]) st = _
    rw [gS_app, gS_app, gS_tree c h.2.2.1, gS_tree d h.2.2.2]
    show gStep _ (op, p) = _
    rw [show st ++ [c] ++ [d] = st ++ [c, d] by simp]
    unfold gStep
    rw [e, hd.1, hd.2]; rfl
theorem gS_len : ∀ (ts : List Tk) (st : List Tr) (js : List Kq), st.length = js.length → (gS ts st).length = (jS ts js).length
  | [], st, js, h => h
  | k :: ts, st, js, h => by
    show (gS ts (gStep st k)).length = (jS ts (jStep js k)).length
    refine gS_len ts _ _ ?_
    unfold gStep jStep
    simp [h]
/-- Checked tokens: what the stack of trees is like. -/
structure GGood (ts : List Tk) (T : Tr) : Prop where
  few : ts.length ≤ 2048
  ok : ∀ k (h : k < ts.length), (∃ m, takesN ts[k] = some m) ∧ takC ts[k] ≤ (gS (ts.take k) []).length
  fin : gS ts [] = [T]
theorem ggood {T : Tr} (h : T.WF) (hl : T.flat.length ≤ 2048) : GGood T.flat T := by
  obtain ⟨_, h2⟩ := j_tree T h [] (2 * wt T) (Nat.le_refl _)
  refine ⟨hl, fun k hk => ⟨(h2 k hk).tk, ?_⟩, gS_tree T h []⟩
  rw [gS_len _ [] [] rfl]
  exact (h2 k hk).le
/-! ### both formulas of a tree -/
def kB (T : Tr) (b : Bool) : List Tk := if b then (kTr T).2.flat else (kTr T).1.flat
def tn (x y : Nat) (b : Bool) : Nat := if b then y else x
theorem kB_6 (c : Tr) (b : Bool) : kB (.un (6, 0) c) b = kB c (!b) := by cases b <;> rfl
theorem kB_7 (c : Tr) (b : Bool) : kB (.un (7, 0) c) b = kB c b ++ [] ++ [(tn 7 8 b, 0)] := by cases b <;> simp [kB, kTr, Tr.flat, tn]
theorem kB_8 (c : Tr) (b : Bool) : kB (.un (8, 0) c) b = kB c b ++ [] ++ [(tn 8 7 b, 0)] := by cases b <;> simp [kB, kTr, Tr.flat, tn]
theorem kB_9 (c : Tr) (b : Bool) : kB (.un (9, 0) c) b = [(tn 0 1 b, 0)] ++ kB c b ++ [(tn 15 16 b, 0)] := by cases b <;> simp [kB, kTr, Tr.flat, tn]
theorem kB_10 (c : Tr) (b : Bool) : kB (.un (10, 0) c) b = [(tn 1 0 b, 0)] ++ kB c b ++ [(tn 16 15 b, 0)] := by cases b <;> simp [kB, kTr, Tr.flat, tn]
theorem kB_19 (c : Tr) (b : Bool) : kB (.un (19, 0) c) b = kB c false ++ [] ++ [(19, 0)] := by cases b <;> simp [kB, kTr, Tr.flat]
theorem kB_20 (c : Tr) (b : Bool) : kB (.un (20, 0) c) b = kB c false ++ [] ++ [(20, 0)] := by cases b <;> simp [kB, kTr, Tr.flat]
theorem kB_23 (c : Tr) (b : Bool) : kB (.un (23, 0) c) b = kB c false ++ [] ++ [(23, 0)] := by cases b <;> simp [kB, kTr, Tr.flat]
theorem kB_11 (c d : Tr) (b : Bool) : kB (.bin (11, 0) c d) b = kB c b ++ kB d b ++ [(tn 11 12 b, 0)] := by cases b <;> simp [kB, kTr, Tr.flat, tn]
theorem kB_12 (c d : Tr) (b : Bool) : kB (.bin (12, 0) c d) b = kB c b ++ kB d b ++ [(tn 12 11 b, 0)] := by cases b <;> simp [kB, kTr, Tr.flat, tn]
theorem kB_13 (c d : Tr) (b : Bool) : kB (.bin (13, 0) c d) b = kB c (!b) ++ kB d b ++ [(tn 12 11 b, 0)] := by cases b <;> simp [kB, kTr, Tr.flat, tn]
theorem kB_14 (c d : Tr) (b : Bool) : kB (.bin (14, 0) c d) b = (kB c false ++ kB d b ++ [(11, 0)]) ++ (kB c true ++ kB d (!b) ++ [(11, 0)]) ++ [(12, 0)] := by cases b <;> simp [kB, kTr, Tr.flat]
theorem kB_15 (c d : Tr) (b : Bool) : kB (.bin (15, 0) c d) b = kB c b ++ kB d b ++ [(tn 15 16 b, 0)] := by cases b <;> simp [kB, kTr, Tr.flat, tn]
theorem kB_16 (c d : Tr) (b : Bool) : kB (.bin (16, 0) c d) b = kB c b ++ kB d b ++ [(tn 16 15 b, 0)] := by cases b <;> simp [kB, kTr, Tr.flat, tn]
theorem kB_17 (c d : Tr) (b : Bool) : kB (.bin (17, 0) c d) b = kB c false ++ kB d b ++ [(tn 17 18 b, 0)] := by cases b <;> simp [kB, kTr, Tr.flat, tn]
theorem kB_18 (c d : Tr) (b : Bool) : kB (.bin (18, 0) c d) b = kB c false ++ kB d b ++ [(tn 18 17 b, 0)] := by cases b <;> simp [kB, kTr, Tr.flat, tn]
theorem kB_21 (c d : Tr) (b : Bool) : kB (.bin (21, 0) c d) b = kB c false ++ kB d false ++ [(21, 0)] := by cases b <;> simp [kB, kTr, Tr.flat]
theorem kB_22 (c d : Tr) (b : Bool) : kB (.bin (22, 0) c d) b = kB c false ++ kB d false ++ [(22, 0)] := by cases b <;> simp [kB, kTr, Tr.flat]
theorem path_same {T : Tr} (h : T.WF) (hp : pathT T = true) : (kTr T).2 = (kTr T).1 := by
  match T, h, hp with
  | .leaf (op, p), h, hp => rcases leaf_cases h with ⟨rfl, _⟩ | ⟨rfl, rfl | rfl | rfl | rfl | rfl⟩ <;> cases hp
  | .un (op, p) c, h, hp =>
    obtain ⟨rfl, _, _, ho⟩ := un_cases h
    rcases ho with rfl | rfl | rfl | rfl | rfl | rfl | rfl | rfl <;> first | rfl | cases hp
  | .bin (op, p) c d, h, hp =>
    obtain ⟨rfl, _, _, _, ho⟩ := bin_cases h
    rcases ho with rfl | rfl | rfl | rfl | rfl | rfl | rfl | rfl | rfl | rfl <;> first | rfl | cases hp
theorem kB_len {T : Tr} (h : T.WF) (b : Bool) : (kB T b).length ≤ 2 * wt T := by
  cases hp : pathT T with
  | false =>
    have := wt_len h
    have e : (jFl T).2 = (kTr T).2.flat := by show (if pathT T then [] else _) = _; rw [hp]; rfl
    rw [e] at this
    cases b with
    | false => exact this.1
    | true => exact this.2
  | true =>
    have e : kB T b = (kTr T).1.flat := by
      cases b with
      | false => rfl
      | true => show (kTr T).2.flat = _; rw [path_same h hp]
    rw [e]
    have := (wt_len h).1
    exact this
theorem kB_ok {T : Tr} (h : T.WF) (b : Bool) : ∀ t ∈ kB T b, t.1 < 24 ∧ t.2 < 8 := by
  have ok := kOk T h
  have key : ∀ S : Tr, S.WF → ∀ t ∈ S.flat, t.1 < 24 ∧ t.2 < 8 := by
    intro S
    induction S with
    | leaf k =>
      intro hS t ht
      obtain ⟨op, p⟩ := k
      simp [Tr.flat] at ht
      subst ht
      rcases leaf_cases hS with ⟨rfl, hp⟩ | ⟨rfl, ho⟩
      · exact ⟨by show 2 < 24; decide, by show p < 8; omega⟩
      · exact ⟨by show op < 24; omega, by show 0 < 8; decide⟩
    | un k c ih =>
      intro hS t ht
      obtain ⟨op, p⟩ := k
      obtain ⟨rfl, hc, _, ho⟩ := un_cases hS
      rcases List.mem_append.1 ht with ht | ht
      · exact ih hc t ht
      · simp at ht; subst ht; exact ⟨by show op < 24; omega, by show 0 < 8; decide⟩
    | bin k c d ih jh =>
      intro hS t ht
      obtain ⟨op, p⟩ := k
      obtain ⟨rfl, hc, hd, _, ho⟩ := bin_cases hS
      rcases List.mem_append.1 ht with ht | ht
      · rcases List.mem_append.1 ht with ht | ht
        · exact ih hc t ht
        · exact jh hd t ht
      · simp at ht; subst ht; exact ⟨by show op < 24; omega, by show 0 < 8; decide⟩
  cases hp : pathT T with
  | false =>
    cases b with
    | false => exact key _ ok.w1
    | true => exact key _ (ok.w2 hp)
  | true =>
    cases b with
    | false => exact key _ ok.w1
    | true => show ∀ t ∈ (kTr T).2.flat, _; rw [path_same h hp]; exact key _ ok.w1
end Go.Proofs.Ytbfhbpibpmgblaa
