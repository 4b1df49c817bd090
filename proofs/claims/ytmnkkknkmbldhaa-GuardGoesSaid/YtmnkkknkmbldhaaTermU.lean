/- Formulas as lists of tokens, plain: a formula is built up of what its last token takes; each block is a part. -/
import Derived.Test.YtmnkkknkmbldhaaTermR
namespace Go.Proofs.Ytmnkkknkmbldhaa

/-- What Un and Bin answer. -/
def unE (op : Nat) (ts : List Tk) : Nat :=
  if (takesK op).length = 1 then (if refE ts ((takesK op).getD 0 0) = 0 then lookE (ts ++ [(op, 0)]) 4 else refE ts ((takesK op).getD 0 0)) else 2
def binE (op : Nat) (us bs : List Tk) : Nat :=
  if (takesK op).length = 2 then
    (if refE us ((takesK op).getD 0 0) = 0 then (if refE bs ((takesK op).getD 1 0) = 0 then lookE (us ++ bs ++ [(op, 0)]) 4 else refE bs ((takesK op).getD 1 0)) else refE us ((takesK op).getD 0 0))
  else 2
theorem part_sane : ∀ (t : Tr) (o : Nat), Sane (t.part o)
  | .leaf _, _ => putP_sane _ _ _
  | .un _ _, _ => putP_sane _ _ _
  | .bin _ _ _, _ => putP_sane _ _ _
theorem isK_want {k w : Nat} (h : isK k w = true) (hw : w = 1 ∨ w = 2 ∨ w = 3) : isK k (if w = 3 then 3 else 1) = true := by
  rcases hw with rfl | rfl | rfl
  · exact h
  · have : k = 2 := by simpa [isK] using h
    subst this; rfl
  · exact h
theorem takesK_vals (op : Nat) : ∀ w ∈ takesK op, w = 1 ∨ w = 2 ∨ w = 3 := by
  unfold takesK
  repeat' split
  all_goals simp
theorem kind_is (t : Tr) : isK (kindOf (t.part 0)) 1 = true ∨ isK (kindOf (t.part 0)) 3 = true := by
  rw [kind_formula, kind_path]; cases (t.part 0).path <;> simp
theorem look_tree {t : Tr} {want : Nat} (hw : t.WF) (hl : t.size ≤ 512) (hk : isK (kindOf (t.part 0)) want = true) (hd : (t.part 0).dep ≤ 64) : lookE t.flat want = 0 :=
  lookE_zero.2 ⟨by rw [flat_len]; exact hl, t, hw, rfl, hk, hd⟩
theorem ref_tree {t : Tr} {w : Nat} (hw : t.WF) (hl : t.size ≤ 512) (hk : isK (kindOf (t.part 0)) w = true) (hv : w = 1 ∨ w = 2 ∨ w = 3) (hd : (t.part 0).dep ≤ 64) : refE t.flat w = 0 :=
  look_tree hw hl (isK_want hk hv) hd
theorem takes_p {op p n : Nat} (h : takesN (op, p) = some n) (hn : 0 < n) : p = 0 ∧ (takesK op).length = n ∧ op ≤ 23 := by
  rw [takesN_mayB] at h
  split at h
  · next hm =>
    injection h with h
    unfold mayB at hm
    split at hm
    · next h2 => subst h2; simp [takesK] at h; omega
    · simp at hm; exact ⟨hm.2, h, hm.1⟩
  · cases h
/-- The last token, and the tree. -/
theorem look_any_tree {ts : List Tk} (h : lookE ts 1 = 0 ∨ lookE ts 3 = 0 ∨ lookE ts 4 = 0) : ∃ t : Tr, t.WF ∧ ts = t.flat ∧ ts.length ≤ 512 ∧ (t.part 0).dep ≤ 64 := by
  rcases h with h | h | h
  all_goals
    obtain ⟨h1, t, h2, h3, _, h5⟩ := lookE_zero.1 h
    exact ⟨t, h2, h3, h1, h5⟩
theorem look4 {ts : List Tk} (h : lookE ts 1 = 0 ∨ lookE ts 3 = 0) : lookE ts 4 = 0 := by
  obtain ⟨t, h1, rfl, h3, h4⟩ := look_any_tree (by rcases h with h | h; exact Or.inl h; exact Or.inr (Or.inl h))
  exact look_tree h1 (by rw [← flat_len]; exact h3) rfl h4
theorem look13 {ts : List Tk} (h : lookE ts 4 ≠ 0) : lookE ts 1 ≠ 0 ∧ lookE ts 3 ≠ 0 := ⟨fun e => h (look4 (Or.inl e)), fun e => h (look4 (Or.inr e))⟩
/-- What TermUp asks. -/
theorem up_plain {ts : List Tk} (h : lookE ts 1 = 0 ∨ lookE ts 3 = 0) (n : Nat) (hn : ts.length = n + 1) (hn1 : 0 < n) :
    lookE ts 4 = 0 ∧ frmAt ts (n - 1) ≤ n ∧ ∃ op, ts[n]? = some (op, 0) ∧ op < 256 ∧
    (frmAt ts (n - 1) = 0 → unE op (ts.take n) = 0 ∧ ts.take n ++ [(op, 0)] = ts) ∧
    (frmAt ts (n - 1) ≠ 0 → binE op (ts.take (frmAt ts (n - 1))) ((ts.drop (frmAt ts (n - 1))).take (n - frmAt ts (n - 1))) = 0 ∧ ts.take (frmAt ts (n - 1)) ++ (ts.drop (frmAt ts (n - 1))).take (n - frmAt ts (n - 1)) ++ [(op, 0)] = ts) := by
  have h4 := look4 h
  refine ⟨h4, ?_, ?_⟩
  · have := frmAt_le h4 (k := n - 1) (by omega); omega
  obtain ⟨t, hw, rfl, hl, hd⟩ := look_any_tree (by rcases h with h | h; exact Or.inl h; exact Or.inr (Or.inl h))
  rw [flat_len] at hl hn
  match t, hw, hn, hl, hd with
  | .leaf t, _, hn, _, _ => simp [Tr.size] at hn; omega
  | .un (op, p) c, hw, hn, hl, hd =>
    obtain ⟨ht, hf, hc⟩ := hw
    obtain ⟨rfl, hk, hop⟩ := takes_p ht (by decide)
    have hcn : c.size = n := by simp [Tr.size] at hn; exact hn
    have hcl := flat_len c
    have hpl := parts_len c 0
    obtain ⟨q, hq, hql⟩ := parts_last c 0
    have hfr : frmAt (Tr.un (op, 0) c).flat (n - 1) = 0 := by
      unfold frmAt
      rw [allP_tree (t := Tr.un (op, 0) c) ⟨ht, hf, hc⟩]
      show (((c.parts 0 ++ _)[n - 1]?).map _).getD 0 = 0
      rw [List.getElem?_append_left (by omega), hq, List.getElem?_append_right (by omega)]
      have : n - 1 - q.length = 0 := by omega
      rw [this]; simp [part_frm]
    have htk : (Tr.un (op, 0) c).flat.take n = c.flat := by
      show (c.flat ++ [(op, 0)]).take n = _
      rw [← hcn, ← hcl, List.take_left]
    refine ⟨op, ?_, by omega, fun _ => ?_, fun h0 => absurd hfr h0⟩
    · show (c.flat ++ [(op, 0)])[n]? = _
      rw [List.getElem?_append_right (by omega)]
      have : n - c.flat.length = 0 := by omega
      rw [this]; rfl
    · rw [htk]
      refine ⟨?_, rfl⟩
      obtain ⟨w, hws⟩ := List.length_eq_one_iff.1 hk
      have hfk : fitsK (takesK op) [kp (c.part 0)] = true := by
        rw [← hf]; exact fitsK_fitsP (args := [c.part 0]) ht rfl (fun x hx => by rw [List.mem_singleton.1 hx]; exact part_sane c 0)
      rw [hws] at hfk
      have hik : isK (kindOf (c.part 0)) w = true := by simpa [fitsK, kp] using hfk
      have hdc : (c.part 0).dep ≤ 64 := by
        have h2 : max 1 ((c.part 0).dep + 1) ≤ 64 := hd
        omega
      have hr : refE c.flat w = 0 := ref_tree hc (by simp [Tr.size] at hl; omega) hik (takesK_vals op w (by rw [hws]; simp)) hdc
      unfold unE
      rw [if_pos hk, hws]
      show (if refE c.flat w = 0 then _ else _) = 0
      rw [if_pos hr]; exact h4
  | .bin (op, p) c d, hw, hn, hl, hd =>
    obtain ⟨ht, hf, hc, hdw⟩ := hw
    obtain ⟨rfl, hk, hop⟩ := takes_p ht (by decide)
    have hcn : c.size + d.size = n := by simp [Tr.size] at hn; exact hn
    have hcl := flat_len c
    have hdl := flat_len d
    have hpl := parts_len c 0
    have hpd := parts_len d (0 + c.size)
    have hcp := size_pos c
    have hdp := size_pos d
    obtain ⟨q, hq, hql⟩ := parts_last d (0 + c.size)
    have hfr : frmAt (Tr.bin (op, 0) c d).flat (n - 1) = c.size := by
      unfold frmAt
      rw [allP_tree (t := Tr.bin (op, 0) c d) ⟨ht, hf, hc, hdw⟩]
      show (((c.parts 0 ++ d.parts (0 + c.size) ++ _)[n - 1]?).map _).getD 0 = c.size
      rw [List.getElem?_append_left (by rw [List.length_append]; omega), List.getElem?_append_right (by omega), hq, List.getElem?_append_right (by omega)]
      have : n - 1 - (c.parts 0).length - q.length = 0 := by omega
      rw [this]; simp [part_frm]
    have hfl : (Tr.bin (op, 0) c d).flat = c.flat ++ (d.flat ++ [(op, 0)]) := by show c.flat ++ d.flat ++ [(op, 0)] = _; rw [List.append_assoc]
    rw [hfr]
    have ht1 : (Tr.bin (op, 0) c d).flat.take c.size = c.flat := by rw [hfl, ← hcl, List.take_left]
    have ht2 : ((Tr.bin (op, 0) c d).flat.drop c.size).take (n - c.size) = d.flat := by
      rw [hfl, ← hcl, List.drop_left]
      have : n - c.flat.length = d.flat.length := by omega
      rw [this, List.take_left]
    rw [ht1, ht2]
    refine ⟨op, ?_, by omega, fun h0 => by omega, fun _ => ?_⟩
    · show (c.flat ++ d.flat ++ [(op, 0)])[n]? = _
      rw [List.getElem?_append_right (by rw [List.length_append]; omega)]
      have : n - (c.flat ++ d.flat).length = 0 := by rw [List.length_append]; omega
      rw [this]; rfl
    · refine ⟨?_, rfl⟩
      obtain ⟨w1, w2, hws⟩ : ∃ w1 w2, takesK op = [w1, w2] := by
        match hq : takesK op, hk with
        | [w1, w2], _ => exact ⟨w1, w2, rfl⟩
      have hfk : fitsK (takesK op) [kp (c.part 0), kp (d.part 0)] = true := by
        rw [← hf]; exact fitsK_fitsP (args := [c.part 0, d.part 0]) ht rfl (fun x hx => by
          simp at hx
          rcases hx with rfl | rfl
          · exact part_sane c 0
          · exact part_sane d 0)
      rw [hws] at hfk
      have hik : isK (kindOf (c.part 0)) w1 = true ∧ isK (kindOf (d.part 0)) w2 = true := by simpa [fitsK, kp] using hfk
      have hdd : (d.part (0 + c.size)).dep = (d.part 0).dep := (part_shift d _).2.2
      have hdc : (c.part 0).dep ≤ 64 ∧ (d.part 0).dep ≤ 64 := by
        have h2 : max (max 1 ((c.part 0).dep + 1)) ((d.part (0 + c.size)).dep + 1) ≤ 64 := hd
        omega
      have hr1 : refE c.flat w1 = 0 := ref_tree hc (by simp [Tr.size] at hl; omega) hik.1 (takesK_vals op w1 (by rw [hws]; simp)) hdc.1
      have hr2 : refE d.flat w2 = 0 := ref_tree hdw (by simp [Tr.size] at hl; omega) hik.2 (takesK_vals op w2 (by rw [hws]; simp)) hdc.2
      unfold binE
      rw [if_pos hk, hws]
      show (if refE c.flat w1 = 0 then (if refE d.flat w2 = 0 then _ else _) else _) = 0
      rw [if_pos hr1, if_pos hr2]; exact h4
/-- What TermBlocks asks. -/
def depAt (ts : List Tk) (k : Nat) : Nat := ((allP ts)[k]?.map (·.dep)).getD 0
theorem blocks_plain {ts : List Tk} (h : lookE ts 4 = 0) (i : Nat) (hi : i < ts.length) :
    frmAt ts i ≤ i ∧ depAt ts i ≤ depAt ts (ts.length - 1) ∧
    ((lookE ((ts.drop (frmAt ts i)).take (i + 1 - frmAt ts i)) 1 = 0 ∧ lookE ((ts.drop (frmAt ts i)).take (i + 1 - frmAt ts i)) 3 ≠ 0) ∨ (lookE ((ts.drop (frmAt ts i)).take (i + 1 - frmAt ts i)) 1 ≠ 0 ∧ lookE ((ts.drop (frmAt ts i)).take (i + 1 - frmAt ts i)) 3 = 0)) ∧
    (∀ k, frmAt ts i ≤ k → k < i → frmAt ts i ≤ frmAt ts k) ∧
    putE ts (i : Int) ((ts.drop (frmAt ts i)).take (i + 1 - frmAt ts i)) = 0 ∧ putTs ts (i : Int) ((ts.drop (frmAt ts i)).take (i + 1 - frmAt ts i)) = ts := by
  have hle := frmAt_le h hi
  obtain ⟨t, hw, rfl, hl, hd⟩ := look_any_tree (Or.inr (Or.inr h))
  have his : i < t.size := by rw [← flat_len]; exact hi
  obtain ⟨s, pre, post, hs, hfl, hsz, hat, hfr⟩ := at_part hw his
  have hsp := size_pos s
  have hf : frmAt t.flat i = pre.length := by
    unfold frmAt; rw [allP_tree hw, hat]; simp [part_frm]
  have hpt : (t.flat.drop (frmAt t.flat i)).take (i + 1 - frmAt t.flat i) = s.flat := by
    rw [hf, hfl, List.append_assoc, List.drop_left]
    have : i + 1 - pre.length = s.flat.length := by rw [flat_len]; omega
    rw [this, List.take_left]
  have hdep : (s.part 0).dep ≤ (t.part 0).dep := by
    have := parts_dep t 0 _ (List.mem_of_getElem? hat)
    rw [(part_shift s pre.length).2.2] at this; exact this
  have hssz : s.size ≤ 512 := by rw [flat_len] at hl; omega
  have hkd : kindAt t.flat i = kindOf (s.part 0) := by
    unfold kindAt; rw [allP_tree hw, hat]
    show kindOf (s.part pre.length) = _
    unfold kindOf; rw [(part_shift s pre.length).1, (part_shift s pre.length).2.1]
  have hput : putTs t.flat (i : Int) s.flat = t.flat := by
    unfold putTs
    rw [Int.toNat_natCast, hf]
    have e1 : t.flat.take pre.length = pre := by rw [hfl, List.append_assoc, List.take_left]
    have e2 : t.flat.drop (i + 1) = post := by
      rw [hfl]
      have : i + 1 = (pre ++ s.flat).length := by rw [List.length_append, flat_len]; omega
      rw [this, List.drop_left]
    rw [e1, e2]; exact hfl.symm
  refine ⟨hle, ?_, ?_, ?_, ?_, ?_⟩
  · have e1 : depAt t.flat i = (s.part 0).dep := by
      unfold depAt; rw [allP_tree hw, hat]; simp [(part_shift s pre.length).2.2]
    have e2 : depAt t.flat (t.flat.length - 1) = (t.part 0).dep := by
      unfold depAt
      obtain ⟨q, hq, hql⟩ := parts_last t 0
      rw [allP_tree hw, hq, List.getElem?_append_right (by rw [flat_len]; omega)]
      have : t.flat.length - 1 - q.length = 0 := by rw [flat_len]; omega
      rw [this]; simp
    rw [e1, e2]; exact hdep
  · rw [hpt]
    have hdd : (s.part 0).dep ≤ 64 := by omega
    cases hp : (s.part 0).path with
    | true =>
      refine Or.inr ⟨fun h1 => ?_, look_tree hs hssz (by rw [kind_path]; exact hp) hdd⟩
      obtain ⟨_, s', h2, h3, h4, _⟩ := lookE_zero.1 h1
      have h5 := read_one.2 ⟨s, hs, rfl, rfl, rfl⟩
      rw [h3, read_one.2 ⟨s', h2, rfl, rfl, rfl⟩] at h5
      injection h5 with h5
      injection h5 with _ h6
      injection h6 with h6
      rw [h6, kind_formula, hp] at h4; cases h4
    | false =>
      refine Or.inl ⟨look_tree hs hssz (by rw [kind_formula, hp]; rfl) hdd, fun h1 => ?_⟩
      obtain ⟨_, s', h2, h3, h4, _⟩ := lookE_zero.1 h1
      have h5 := read_one.2 ⟨s, hs, rfl, rfl, rfl⟩
      rw [h3, read_one.2 ⟨s', h2, rfl, rfl, rfl⟩] at h5
      injection h5 with h5
      injection h5 with _ h6
      injection h6 with h6
      rw [h6, kind_path, hp] at h4; cases h4
  · intro k hk1 hk2
    rw [hf] at hk1 ⊢
    have hkl : k < (t.parts 0).length := by rw [parts_len]; omega
    have := hfr k hk1 (by omega) _ (List.getElem?_eq_getElem hkl)
    unfold frmAt
    rw [allP_tree hw, List.getElem?_eq_getElem hkl]; exact this
  · rw [hpt]
    unfold putE
    rw [if_pos h, if_neg (by omega), Int.toNat_natCast, hkd, hput, if_pos]
    · exact h
    · refine ref_tree hs hssz ?_ ?_ (by omega)
      · unfold kindOf isK; cases (s.part 0).path <;> cases (s.part 0).plain <;> rfl
      · unfold kindOf; cases (s.part 0).path <;> cases (s.part 0).plain <;> simp
  · rw [hpt]; exact hput
theorem last_frm {ts : List Tk} (h : lookE ts 4 = 0) : 0 < ts.length ∧ frmAt ts (ts.length - 1) = 0 := by
  obtain ⟨t, hw, rfl, hl, hd⟩ := look_any_tree (Or.inr (Or.inr h))
  have := size_pos t
  refine ⟨by rw [flat_len]; exact this, ?_⟩
  unfold frmAt
  obtain ⟨q, hq, hql⟩ := parts_last t 0
  rw [allP_tree hw, hq, List.getElem?_append_right (by rw [flat_len]; omega)]
  have : t.flat.length - 1 - q.length = 0 := by rw [flat_len]; omega
  rw [this]; simp [part_frm]
end Go.Proofs.Ytmnkkknkmbldhaa
