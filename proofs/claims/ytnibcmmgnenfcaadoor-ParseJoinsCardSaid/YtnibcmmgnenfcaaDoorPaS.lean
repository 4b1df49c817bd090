/- Plain: a formula in brackets is the formula; two in brackets with an operator between; a path in its brackets. -/
import Derived.Test.YtnibcmmgnenfcaaDoorPaQ
import Derived.Test.YtnibcmmgnenfcaaDoorPaR
namespace Go.Proofs.YtnibcmmgnenfcaaDoor

theorem rd_una {ns : List Bytes} {fin : Int} {ws r : List Wd} {t : List Tk5} (h : ∃ n, rd5 ns fin n .ato ws = some (.ok (t, r))) (h1 : unOf (hdT ws) = none) (h2 : mdOf (hdT ws) = none) : ∃ n, rd5 ns fin n .una ws = some (.ok (t, r)) := by
  obtain ⟨n, h⟩ := h
  refine ⟨n + 1, ?_⟩
  unfold rd5; rw [h1, h2]; exact h
theorem rd_more {ns : List Bytes} {fin : Int} {ws : List Wd} {k : Nat} (h : opOf k (hdT ws) = none) (n : Nat) : rd5 ns fin (n + 1) (.more k) ws = some (.ok ([], ws)) := by
  unfold rd5; rw [h]; rfl
theorem rd_pmore {ns : List Bytes} {fin : Int} {ws : List Wd} {k : Nat} (h : pOf k (hdT ws) = none) (n : Nat) : rd5 ns fin (n + 1) (.pmore k) ws = some (.ok ([], ws)) := by
  unfold rd5; rw [h]; rfl
theorem op_high {k : Nat} (h : 5 ≤ k) (s : Bytes) : opOf k s = none := by
  unfold opOf
  simp [show k ≠ 0 by omega, show k ≠ 1 by omega, show k ≠ 2 by omega, show k ≠ 3 by omega, show k ≠ 4 by omega]
/-- From what stands behind ! up to a level at which nothing goes on. -/
theorem rd_lev {ns : List Bytes} {fin : Int} {ws r : List Wd} {t : List Tk5} (h : ∃ n, rd5 ns fin n .una ws = some (.ok (t, r))) : ∀ (d j : Nat), j + d = 5 → (∀ i, j ≤ i → opOf i (hdT r) = none) → ∃ n, rd5 ns fin n (.lev j) ws = some (.ok (t, r))
  | 0, j, hj, _ => by
    obtain ⟨n, h⟩ := h
    refine ⟨n + 1, ?_⟩
    unfold rd5; rw [if_pos (by omega)]; exact h
  | d + 1, j, hj, ho => by
    obtain ⟨n, ih⟩ := rd_lev h d (j + 1) (by omega) (fun i hi => ho i (by omega))
    refine ⟨n + 2, ?_⟩
    unfold rd5
    rw [if_neg (by omega), rd5_mono (by omega : n ≤ n + 1) _ ih]
    simp only [andR]
    rw [rd_more (ho j (Nat.le_refl _))]
    simp [okR]
/-- Down from level j to level 0, where nothing is left. -/
theorem rd_down {ns : List Bytes} {fin : Int} {ws : List Wd} {t : List Tk5} : ∀ (j : Nat), j ≤ 5 → (∃ n, rd5 ns fin n (.lev j) ws = some (.ok (t, []))) → ∃ n, rd5 ns fin n (.lev 0) ws = some (.ok (t, []))
  | 0, _, h => h
  | j + 1, hj, ⟨n, h⟩ => by
    refine rd_down j (by omega) ⟨n + 2, ?_⟩
    unfold rd5
    rw [if_neg (by omega), rd5_mono (by omega : n ≤ n + 1) _ h]
    simp only [andR]
    rw [rd_more (nil_op j)]
    simp [okR]
theorem lp_no : unOf [40] = none ∧ mdOf [40] = none := by decide
/-- A formula in brackets is the formula. -/
theorem join_one {ns : List Bytes} {fin fin' : Int} {A A' : List Wd} {t : List Tk5} (h : whole5 ns fin (.lev 0) A = .ok t) (hA : A'.map same2 = A.map same2) {l r : Wd} (hl : lpW l) (hr : rpW r) : whole5 ns fin' (.lev 0) (l :: (A' ++ [r])) = .ok t := by
  refine whole_ok.2 ?_
  have h1 := at_brackets (fin' := fin') h hA hl hr []
  have e : hdT (l :: (A' ++ [r])) = [40] := hl
  exact rd_lev (rd_una h1 (by rw [e]; exact lp_no.1) (by rw [e]; exact lp_no.2)) 5 0 (by omega) (fun i _ => nil_op i)
/-- Two of them with an operator between. -/
theorem join_two {ns : List Bytes} {fin fin' : Int} {A A' B B' : List Wd} {t u : List Tk5} (h : whole5 ns fin (.lev 0) A = .ok t) (hA : A'.map same2 = A.map same2) {fin2 : Int} (h' : whole5 ns fin2 (.lev 0) B = .ok u) (hB : B'.map same2 = B.map same2)
    {l r l2 r2 o : Wd} (hl : lpW l) (hr : rpW r) (hl2 : lpW l2) (hr2 : rpW r2) {j op : Nat} (hj : j ≤ 4) (ho : opOf j o.tx.toList = some op) (hno : ∀ i, i ≠ j → opOf i o.tx.toList = none) :
    whole5 ns fin' (.lev 0) (l :: (A' ++ r :: o :: l2 :: (B' ++ [r2]))) = .ok (t ++ u ++ [(op, 0)]) := by
  refine whole_ok.2 ?_
  have h1 := at_brackets (fin' := fin') h hA hl hr (o :: l2 :: (B' ++ [r2]))
  have h2 := at_brackets (fin' := fin') h' hB hl2 hr2 []
  have e1 : hdT (l :: (A' ++ r :: o :: l2 :: (B' ++ [r2]))) = [40] := hl
  have e2 : hdT (l2 :: (B' ++ [r2])) = [40] := hl2
  have u1 := rd_una h1 (by rw [e1]; exact lp_no.1) (by rw [e1]; exact lp_no.2)
  have u2 := rd_una h2 (by rw [e2]; exact lp_no.1) (by rw [e2]; exact lp_no.2)
  obtain ⟨n1, a1⟩ := rd_lev u1 (5 - (j + 1)) (j + 1) (by omega) (fun i hi => hno i (by omega))
  obtain ⟨n2, a2⟩ := rd_lev u2 (5 - j) j (by omega) (fun i _ => nil_op i)
  obtain ⟨n3, a3⟩ := rd_lev u2 (5 - (j + 1)) (j + 1) (by omega) (fun i _ => nil_op i)
  have hm : ∃ n, rd5 ns fin' n (.more j) (o :: l2 :: (B' ++ [r2])) = some (.ok (u ++ [(op, 0)], [])) := by
    have eo : hdT (o :: l2 :: (B' ++ [r2])) = o.tx.toList := rfl
    by_cases hr : rightB j = true
    · refine ⟨n2 + 1, ?_⟩
      unfold rd5
      rw [eo, ho]
      simp only [hr, if_true, List.tail_cons]
      rw [a2]; rfl
    · refine ⟨n3 + 2, ?_⟩
      unfold rd5
      rw [eo, ho]
      simp only [hr, List.tail_cons]
      rw [rd5_mono (by omega : n3 ≤ n3 + 1) _ a3]
      simp only [andR, Bool.false_eq_true, if_false]
      rw [rd_more (nil_op j)]
      simp [okR]
  obtain ⟨n4, a4⟩ := hm
  refine rd_down j (by omega) ⟨n1 + n4 + 1, ?_⟩
  unfold rd5
  rw [if_neg (by omega), rd5_mono (by omega : n1 ≤ n1 + n4) _ a1]
  simp only [andR]
  rw [rd5_mono (by omega : n4 ≤ n1 + n4) _ a4]
  simp [okR]
/-- A path, with a closing word behind. -/
theorem pat_closed {ns : List Bytes} {fin fin' : Int} {A A' : List Wd} {t : List Tk5} (h : whole5 ns fin (.pat 0) A = .ok t) (hA : A'.map same2 = A.map same2) {r : Wd} (hr : Closer r.tx.toList) (X : List Wd) :
    ∃ n, rd5 ns fin' n (.pat 0) (A' ++ r :: X) = some (.ok (t, r :: X)) := by
  obtain ⟨n, hn⟩ := whole_ok.1 h
  have hs : Sim (r :: X) A (A' ++ r :: X) := by unfold Sim; rw [List.map_append, hA]
  obtain ⟨q, h1, h2⟩ := rd5_sim ns fin fin' (X := r :: X) (Or.inr hr) n (.pat 0) A (A' ++ r :: X) hs t [] hn
  have hq : q = r :: X := by
    obtain ⟨p, hp⟩ := rd5_rest ns fin' n (.pat 0) (A' ++ r :: X) t q h1
    have hlen : q.length = (r :: X).length := by have := congrArg List.length h2; simpa using this
    have e1 : (p ++ q).length = (A' ++ r :: X).length := by rw [hp]
    have hpl : p.length = A'.length := by simp at e1 hlen ⊢; omega
    exact (List.append_inj hp.symm hpl.symm).2.symm
  subst hq
  exact ⟨n, h1⟩
theorem una_true {ns : List Bytes} {fin : Int} {w : Wd} (hw : w.tx.toList = [116, 114, 117, 101]) (n : Nat) : rd5 ns fin (n + 2) .una [w] = some (.ok ([(0, 0)], [])) := by
  have e : hdT [w] = [116, 114, 117, 101] := hw
  have e1 : unOf [116, 114, 117, 101] = none := by decide
  have e2 : mdOf [116, 114, 117, 101] = none := by decide
  have e3 : atOf [116, 114, 117, 101] = some 0 := by decide
  unfold rd5
  rw [e, e1, e2]
  simp only
  unfold rd5
  rw [e, e3]; rfl
/-- < r > true. -/
theorem path_dia {ns : List Bytes} {fin fin' : Int} {A A' : List Wd} {t : List Tk5} (h : whole5 ns fin (.pat 0) A = .ok t) (hA : A'.map same2 = A.map same2) {l r w : Wd} (hl : l.tx.toList = [60]) (hr : r.tx.toList = [62]) (hw : w.tx.toList = [116, 114, 117, 101]) :
    whole5 ns fin' (.lev 0) (l :: (A' ++ [r, w])) = .ok (t ++ [(0, 0)] ++ [(17, 0)]) := by
  refine whole_ok.2 ?_
  obtain ⟨n, hn⟩ := pat_closed (fin' := fin') h hA (r := r) (by rw [hr]; exact Or.inr (Or.inl rfl)) [w]
  refine rd_lev (r := []) ⟨n + 3, ?_⟩ 5 0 (by omega) (fun i _ => nil_op i)
  have e : hdT (l :: (A' ++ [r, w])) = [60] := hl
  have e1 : unOf [60] = none := by decide
  have e2 : mdOf [60] = some ([62], 17) := by decide
  unfold rd5
  rw [e, e1, e2]
  simp only [List.tail_cons]
  rw [rd5_mono (by omega : n ≤ n + 2) _ hn]
  simp only [andR]
  have e3 : hdT [r, w] = [62] := hr
  rw [if_pos e3]
  simp only [List.tail_cons]
  rw [una_true hw]
  simp [okR]
/-- [ ( r ) ] true. -/
theorem path_box {ns : List Bytes} {fin fin' : Int} {A A' : List Wd} {t : List Tk5} (h : whole5 ns fin (.pat 0) A = .ok t) (hA : A'.map same2 = A.map same2) {l l2 r2 r w : Wd} (hl : l.tx.toList = [91]) (hl2 : lpW l2) (hr2 : rpW r2) (hr : r.tx.toList = [93]) (hw : w.tx.toList = [116, 114, 117, 101]) :
    whole5 ns fin' (.lev 0) (l :: l2 :: (A' ++ [r2, r, w])) = .ok (t ++ [(0, 0)] ++ [(18, 0)]) := by
  refine whole_ok.2 ?_
  obtain ⟨n, hn⟩ := pat_closed (fin' := fin') h hA (r := r2) (by rw [show r2.tx.toList = [41] from hr2]; exact Or.inl rfl) [r, w]
  have hb : rd5 ns fin' (n + 1) .bar (l2 :: (A' ++ [r2, r, w])) = some (.ok (t, [r, w])) := by
    have e : hdT (l2 :: (A' ++ [r2, r, w])) = [40] := hl2
    unfold rd5
    rw [e]
    simp only [List.tail_cons]
    rw [if_neg (by decide), if_neg (by decide), if_pos trivial, hn]
    simp only [andR]
    have e3 : hdT [r2, r, w] = [41] := hr2
    rw [if_pos e3]; rfl
  have hc : Closer (hdT [r, w]) := by rw [show hdT [r, w] = [93] from hr]; exact Or.inr (Or.inr (Or.inl rfl))
  have hp2 : rd5 ns fin' (n + 2) (.pat 2) (l2 :: (A' ++ [r2, r, w])) = some (.ok (t, [r, w])) := by
    unfold rd5
    rw [if_pos (by omega), hb]
    simp only [andR]
    rw [rd_pmore (closer_p hc 2)]; simp [okR]
  have hp1 : rd5 ns fin' (n + 3) (.pat 1) (l2 :: (A' ++ [r2, r, w])) = some (.ok (t, [r, w])) := by
    unfold rd5
    rw [if_neg (by omega), hp2]
    simp only [andR]
    rw [rd_pmore (closer_p hc 1)]; simp [okR]
  have hp0 : rd5 ns fin' (n + 4) (.pat 0) (l2 :: (A' ++ [r2, r, w])) = some (.ok (t, [r, w])) := by
    unfold rd5
    rw [if_neg (by omega), hp1]
    simp only [andR]
    rw [rd_pmore (closer_p hc 0)]; simp [okR]
  refine rd_lev (r := []) ⟨n + 5, ?_⟩ 5 0 (by omega) (fun i _ => nil_op i)
  have e : hdT (l :: l2 :: (A' ++ [r2, r, w])) = [91] := hl
  have e1 : unOf [91] = none := by decide
  have e2 : mdOf [91] = some ([93], 18) := by decide
  unfold rd5
  rw [e, e1, e2]
  simp only [List.tail_cons]
  rw [hp0]
  simp only [andR]
  have e3 : hdT [r, w] = [93] := hr
  rw [if_pos e3]
  simp only [List.tail_cons]
  rw [show n + 4 = (n + 2) + 2 by omega, una_true hw]
  simp [okR]

/-! ### the texts -/
theorem lp_lex {s : Bytes} {l : List (Nat × ByteArray)} (h : Lex s l) : Lex (40 :: s) ((0, mkB [40]) :: l) := Lex.word (x := [40]) (by simp) (by simp) (sign_stands (by decide) (by decide) s) h
theorem rp_lex {s : Bytes} {l : List (Nat × ByteArray)} (h : Lex s l) : Lex (41 :: s) ((0, mkB [41]) :: l) := Lex.word (x := [41]) (by simp) (by simp) (sign_stands (by decide) (by decide) s) h
theorem gt_lex {s : Bytes} {l : List (Nat × ByteArray)} (h : Lex s l) : Lex (62 :: s) ((0, mkB [62]) :: l) := Lex.word (x := [62]) (by simp) (by simp) (sign_stands (by decide) (by decide) s) h
theorem rb_lex {s : Bytes} {l : List (Nat × ByteArray)} (h : Lex s l) : Lex (93 :: s) ((0, mkB [93]) :: l) := Lex.word (x := [93]) (by simp) (by simp) (sign_stands (by decide) (by decide) s) h
theorem lb_lex {s : Bytes} {l : List (Nat × ByteArray)} (h : Lex s l) : Lex (91 :: s) ((0, mkB [91]) :: l) := Lex.word (x := [91]) (by simp) (by simp) (sign_stands (by decide) (by decide) s) h
/-- "  (" a " ) " -/
theorem lex_one {a : Bytes} {A : List (Nat × ByteArray)} (h : Lex a A) : Lex (32 :: 32 :: 40 :: (a ++ [32, 41, 32])) ((0, mkB [40]) :: (A ++ [(0, mkB [41])])) := by
  have h1 : Lex [32, 41, 32] [(0, mkB [41])] := (rp_lex Lex.nil.blank).blank
  exact (lp_lex (Lex.app brk32 h1 _ a A (Nat.le_refl _) h)).blank.blank
/-- "(" a ")" op "(" b ")" -/
theorem lex_two {a b o : Bytes} {A B : List (Nat × ByteArray)} (h : Lex a A) (h' : Lex b B) (ho : o ≠ []) (hb : o.headD 0 ≠ 32) (hf : ∀ r, firstL (o ++ 40 :: r) = o) :
    Lex (40 :: (a ++ 41 :: (o ++ 40 :: (b ++ [41])))) ((0, mkB [40]) :: (A ++ (0, mkB [41]) :: ((sortL o).1, mkB o) :: (0, mkB [40]) :: (B ++ [(0, mkB [41])]))) := by
  have h1 : Lex (40 :: (b ++ [41])) ((0, mkB [40]) :: (B ++ [(0, mkB [41])])) := lp_lex (Lex.app brk41 (rp_lex Lex.nil) _ b B (Nat.le_refl _) h')
  have h2 := Lex.word ho hb (hf _) h1
  exact lp_lex (Lex.app brk41 (rp_lex h2) _ a A (Nat.le_refl _) h)
theorem true_lex : Lex [32, 116, 114, 117, 101] [(1, mkB [116, 114, 117, 101])] := ⟨_, rfl, rfl⟩
/-- "<" r "> true" -/
theorem lex_dia {a : Bytes} {A : List (Nat × ByteArray)} (h : Lex a A) (ha : a.take 2 ≠ [45, 62]) (hn : a ≠ []) : Lex (60 :: (a ++ [62, 32, 116, 114, 117, 101])) ((0, mkB [60]) :: (A ++ [(0, mkB [62]), (1, mkB [116, 114, 117, 101])])) := by
  have h1 := Lex.app brk62 (gt_lex true_lex) _ a A (Nat.le_refl _) h
  refine Lex.word (x := [60]) (by simp) (by simp) (less_stands fun e => ?_) h1
  cases a with
  | nil => exact hn rfl
  | cons b r => cases r with
    | nil => simp at e; rw [e] at h; exact lex_dash h
    | cons c r => simp at e ha; exact ha e.1 e.2
/-- "[(" r ")] true" -/
theorem lex_box {a : Bytes} {A : List (Nat × ByteArray)} (h : Lex a A) : Lex (91 :: 40 :: (a ++ [41, 93, 32, 116, 114, 117, 101])) ((0, mkB [91]) :: (0, mkB [40]) :: (A ++ [(0, mkB [41]), (0, mkB [93]), (1, mkB [116, 114, 117, 101])])) :=
  lb_lex (lp_lex (Lex.app brk41 (rp_lex (rb_lex true_lex)) _ a A (Nat.le_refl _) h))
end Go.Proofs.YtnibcmmgnenfcaaDoor
