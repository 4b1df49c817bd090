/- Formulas as lists of tokens, plain: what a token takes, the part that it puts, the stack; and the same by trees. -/
import Derived.WalkKit
namespace Go.Proofs.Ytbfhbpibpmgblaa

/-- A token: its Op, its P. -/
abbrev Tk := Nat × Nat
/-- A part: is it a path, is it plain, how deep it is, where its block begins. -/
structure Pt where
  path : Bool
  plain : Bool
  dep : Nat
  frm : Nat
/-- How many parts a token takes; none: there is no such token. -/
def takesN (t : Tk) : Option Nat :=
  if 23 < t.1 ∨ (t.1 ≠ 2 ∧ t.2 ≠ 0) ∨ (t.1 = 2 ∧ 7 < t.2) then none
  else if t.1 ≤ 5 then some 0
  else if t.1 ≤ 10 ∨ t.1 = 19 ∨ t.1 = 20 ∨ t.1 = 23 then some 1
  else some 2
theorem takesN_le {t : Tk} {n : Nat} (h : takesN t = some n) : n ≤ 2 := by
  unfold takesN at h
  split at h
  · cases h
  · split at h
    · cases h; decide
    · split at h <;> (cases h; decide)
def isPathB (op : Nat) : Bool := decide (19 ≤ op)
def plainB (op : Nat) : Bool := decide (op ≤ 2) || decide (op = 6) || (decide (11 ≤ op) && decide (op ≤ 14))
/-- May a token take these parts? -/
def fitsP (op : Nat) (a : List Pt) : Bool :=
  if op = 17 ∨ op = 18 then (match a with | [x, y] => x.path && !y.path | _ => false)
  else if op = 19 then (match a with | [x] => !x.path && x.plain | _ => false)
  else if op = 21 ∨ op = 22 then (match a with | [x, y] => x.path && y.path | _ => false)
  else if op = 23 then (match a with | [x] => x.path | _ => false)
  else a.all fun x => !x.path
/-- The part that a token puts. -/
def putP (t : Tk) (a : List Pt) (i : Nat) : Pt :=
  ⟨isPathB t.1, plainB t.1 && a.all (·.plain), a.foldl (fun d x => max d (x.dep + 1)) 1, match a with | [] => i | x :: _ => x.frm⟩
/-- Of each token its part, and what is on the stack in the end. -/
def readP : List Tk → Nat → List Pt → Option (List Pt × List Pt)
  | [], _, st => some ([], st)
  | t :: r, i, st =>
    match takesN t with
    | none => none
    | some n =>
      if st.length < n then none
      else if fitsP t.1 (st.drop (st.length - n)) then
        (readP r (i + 1) (st.take (st.length - n) ++ [putP t (st.drop (st.length - n)) i])).map fun x => (putP t (st.drop (st.length - n)) i :: x.1, x.2)
      else none

/-! ### trees -/
inductive Tr where
  | leaf (t : Tk) : Tr
  | un (t : Tk) (c : Tr) : Tr
  | bin (t : Tk) (c d : Tr) : Tr
namespace Tr
def flat : Tr → List Tk
  | leaf t => [t]
  | un t c => c.flat ++ [t]
  | bin t c d => c.flat ++ d.flat ++ [t]
def size : Tr → Nat
  | leaf _ => 1
  | un _ c => c.size + 1
  | bin _ c d => c.size + d.size + 1
def part : Tr → Nat → Pt
  | leaf t, o => putP t [] o
  | un t c, o => putP t [c.part o] (o + c.size)
  | bin t c d, o => putP t [c.part o, d.part (o + c.size)] (o + c.size + d.size)
def parts : Tr → Nat → List Pt
  | leaf t, o => [putP t [] o]
  | un t c, o => c.parts o ++ [putP t [c.part o] (o + c.size)]
  | bin t c d, o => c.parts o ++ d.parts (o + c.size) ++ [putP t [c.part o, d.part (o + c.size)] (o + c.size + d.size)]
def WF : Tr → Prop
  | leaf t => takesN t = some 0 ∧ fitsP t.1 [] = true
  | un t c => takesN t = some 1 ∧ fitsP t.1 [c.part 0] = true ∧ c.WF
  | bin t c d => takesN t = some 2 ∧ fitsP t.1 [c.part 0, d.part 0] = true ∧ c.WF ∧ d.WF
end Tr
theorem flat_len : ∀ t : Tr, t.flat.length = t.size
  | .leaf _ => rfl
  | .un _ c => by simp [Tr.flat, Tr.size, flat_len c]
  | .bin _ c d => by simp [Tr.flat, Tr.size, flat_len c, flat_len d]; omega
theorem parts_len : ∀ (t : Tr) (o : Nat), (t.parts o).length = t.size
  | .leaf _, _ => rfl
  | .un _ c, o => by simp [Tr.parts, Tr.size, parts_len c]
  | .bin _ c d, o => by simp [Tr.parts, Tr.size, parts_len c, parts_len d]; omega
theorem size_pos : ∀ t : Tr, 0 < t.size
  | .leaf _ => Nat.one_pos
  | .un _ _ => Nat.succ_pos _
  | .bin _ _ _ => Nat.succ_pos _
/-- A part by what counts: where it begins hangs on the place alone. -/
theorem part_frm : ∀ (t : Tr) (o : Nat), (t.part o).frm = o
  | .leaf _, _ => rfl
  | .un _ c, o => part_frm c o
  | .bin _ c _, o => part_frm c o
theorem part_shift : ∀ (t : Tr) (o : Nat), (t.part o).path = (t.part 0).path ∧ (t.part o).plain = (t.part 0).plain ∧ (t.part o).dep = (t.part 0).dep
  | .leaf _, _ => ⟨rfl, rfl, rfl⟩
  | .un t c, o => by
    have h := part_shift c o
    simp [Tr.part, putP, h.2.1, h.2.2]
  | .bin t c d, o => by
    have h := part_shift c o
    have h2 := part_shift d (o + c.size)
    have h3 := part_shift d (0 + c.size)
    simp [Tr.part, putP, h.2.1, h.2.2, h2.2.1, h2.2.2]
    simp at h3
    simp [h3.2.1, h3.2.2]
theorem fits_same {op : Nat} {a b : List Pt} (h : a.map (fun x => (x.path, x.plain)) = b.map (fun x => (x.path, x.plain))) : fitsP op a = fitsP op b := by
  have hl : a.length = b.length := by simpa using congrArg List.length h
  match a, b, hl with
  | [], [], _ => rfl
  | [x], [y], _ => simp at h; simp [fitsP, h.1, h.2]
  | [x, x'], [y, y'], _ => simp at h; simp [fitsP, h.1.1, h.2.1]
  | x :: x' :: x'' :: r, y :: y' :: y'' :: r', _ =>
    unfold fitsP
    split
    · rfl
    · split
      · rfl
      · split
        · rfl
        · split
          · rfl
          · have : ∀ l : List Pt, l.all (fun x => !x.path) = (l.map (fun x => (x.path, x.plain))).all (fun q => !q.1) := fun l => by simp [List.all_map, Function.comp_def]
            rw [this, this, h]
theorem fits_un {t : Tk} {c : Tr} (o : Nat) : fitsP t.1 [c.part o] = fitsP t.1 [c.part 0] := fits_same (by simp [(part_shift c o).1, (part_shift c o).2.1])
theorem fits_bin {t : Tk} {c d : Tr} (o o' : Nat) : fitsP t.1 [c.part o, d.part o'] = fitsP t.1 [c.part 0, d.part 0] := fits_same (by simp [(part_shift c o).1, (part_shift c o).2.1, (part_shift d o').1, (part_shift d o').2.1])

theorem drop_snoc (st : List Pt) (x : Pt) : (st ++ [x]).drop ((st ++ [x]).length - 1) = [x] := by
  rw [List.length_append]; simp
theorem take_snoc1 (st : List Pt) (x : Pt) : (st ++ [x]).take ((st ++ [x]).length - 1) = st := by
  rw [List.length_append]; simp
theorem drop_snoc2 (st : List Pt) (x y : Pt) : (st ++ [x] ++ [y]).drop ((st ++ [x] ++ [y]).length - 2) = [x, y] := by
  have : (st ++ [x] ++ [y]).length - 2 = st.length := by simp
  rw [this, List.append_assoc, List.drop_left]; rfl
theorem take_snoc2 (st : List Pt) (x y : Pt) : (st ++ [x] ++ [y]).take ((st ++ [x] ++ [y]).length - 2) = st := by
  have : (st ++ [x] ++ [y]).length - 2 = st.length := by simp
  rw [this, List.append_assoc, List.take_left]
/-- A tree's tokens put its part, from whatever stack. -/
theorem read_flat : ∀ (t : Tr), t.WF → ∀ (r : List Tk) (i : Nat) (st : List Pt), readP (t.flat ++ r) i st = (readP r (i + t.size) (st ++ [t.part i])).map fun x => (t.parts i ++ x.1, x.2)
  | .leaf t, h, r, i, st => by
    show readP (t :: r) i st = _
    rw [readP, h.1]
    have hd : st.drop (st.length - 0) = [] := by simp
    have ht : st.take (st.length - 0) = st := by simp
    simp only [hd, ht, h.2, if_true]
    rw [if_neg (by omega)]
    rfl
  | .un t c, h, r, i, st => by
    show readP (c.flat ++ [t] ++ r) i st = _
    rw [List.append_assoc, read_flat c h.2.2]
    show Option.map _ (readP (t :: r) _ _) = _
    rw [readP, h.1]
    simp only [drop_snoc, take_snoc1]
    rw [if_neg (by simp), fits_un, if_pos h.2.1, Option.map_map]
    simp only [Tr.size, Tr.part, Tr.parts, Nat.add_assoc]
    congr 1
    funext x
    simp
  | .bin t c d, h, r, i, st => by
    show readP (c.flat ++ d.flat ++ [t] ++ r) i st = _
    rw [List.append_assoc, List.append_assoc, read_flat c h.2.2.1, read_flat d h.2.2.2]
    show Option.map _ (Option.map _ (readP (t :: r) _ _)) = _
    rw [readP, h.1]
    simp only [drop_snoc2, take_snoc2]
    rw [if_neg (by simp), fits_bin, if_pos h.2.1, Option.map_map, Option.map_map]
    simp only [Tr.size, Tr.part, Tr.parts, Nat.add_assoc]
    congr 1
    funext x
    simp
end Go.Proofs.Ytbfhbpibpmgblaa
namespace Go.Proofs.Ytbfhbpibpmgblaa

def stk : List Tr → Nat → List Pt
  | [], _ => []
  | t :: r, o => t.part o :: stk r (o + t.size)
def flatA (ts : List Tr) : List Tk := ts.flatMap Tr.flat
def sizeA : List Tr → Nat
  | [] => 0
  | t :: r => t.size + sizeA r
def partsA : List Tr → Nat → List Pt
  | [], _ => []
  | t :: r, o => t.parts o ++ partsA r (o + t.size)
theorem sizeA_append : ∀ (xs ys : List Tr), sizeA (xs ++ ys) = sizeA xs + sizeA ys
  | [], ys => by simp [sizeA]
  | t :: r, ys => by simp only [List.cons_append, sizeA, sizeA_append r ys]; omega
theorem stk_append : ∀ (xs ys : List Tr) (o : Nat), stk (xs ++ ys) o = stk xs o ++ stk ys (o + sizeA xs)
  | [], ys, o => by simp [stk, sizeA]
  | t :: r, ys, o => by simp only [List.cons_append, stk, stk_append r ys, sizeA, Nat.add_assoc]
theorem partsA_append : ∀ (xs ys : List Tr) (o : Nat), partsA (xs ++ ys) o = partsA xs o ++ partsA ys (o + sizeA xs)
  | [], ys, o => by simp [partsA, sizeA]
  | t :: r, ys, o => by simp only [List.cons_append, partsA, partsA_append r ys, sizeA, Nat.add_assoc, List.append_assoc]
theorem stk_len : ∀ (xs : List Tr) (o : Nat), (stk xs o).length = xs.length
  | [], _ => rfl
  | t :: r, o => by simp [stk, stk_len r]
theorem flatA_append (xs ys : List Tr) : flatA (xs ++ ys) = flatA xs ++ flatA ys := by simp [flatA]

/-- What is on the stack is trees, side by side. -/
theorem read_trees : ∀ (l : List Tk) (ts : List Tr) (all s : List Pt), (∀ t ∈ ts, t.WF) → readP l (sizeA ts) (stk ts 0) = some (all, s) →
    ∃ ts' : List Tr, (∀ t ∈ ts', t.WF) ∧ flatA ts' = flatA ts ++ l ∧ s = stk ts' 0 ∧ partsA ts' 0 = partsA ts 0 ++ all := by
  intro l
  induction l with
  | nil =>
    intro ts all s hw h
    unfold readP at h
    injection h with h
    injection h with h1 h2
    subst h1 h2
    exact ⟨ts, hw, by simp, rfl, by simp⟩
  | cons t r ih =>
    intro ts all s hw h
    rw [readP] at h
    cases ht : takesN t with
    | none => rw [ht] at h; cases h
    | some n =>
      rw [ht] at h
      simp only at h
      by_cases hl : (stk ts 0).length < n
      · rw [if_pos hl] at h; cases h
      · rw [if_neg hl] at h
        by_cases hf : fitsP t.1 ((stk ts 0).drop ((stk ts 0).length - n)) = true
        · rw [if_pos hf] at h
          cases hr : readP r (sizeA ts + 1) ((stk ts 0).take ((stk ts 0).length - n) ++ [putP t ((stk ts 0).drop ((stk ts 0).length - n)) (sizeA ts)]) with
          | none => rw [hr] at h; cases h
          | some x =>
            rw [hr] at h
            obtain ⟨all', s'⟩ := x
            injection h with h
            injection h with h1 h2
            subst h1 h2
            have hn := takesN_le ht
            rw [stk_len] at hl
            match n, hn with
            | 0, _ =>
              have hd : (stk ts 0).drop ((stk ts 0).length - 0) = [] := by simp
              have htk : (stk ts 0).take ((stk ts 0).length - 0) = stk ts 0 := by simp
              rw [hd] at hf hr ⊢
              rw [htk] at hr
              have e1 : stk ts 0 ++ [putP t [] (sizeA ts)] = stk (ts ++ [.leaf t]) 0 := by rw [stk_append]; simp [stk, Tr.part]
              have e2 : sizeA ts + 1 = sizeA (ts ++ [.leaf t]) := by rw [sizeA_append]; rfl
              rw [e1, e2] at hr
              obtain ⟨ts', h1, h2, h3, h4⟩ := ih (ts ++ [.leaf t]) _ _ (fun x hx => by
                rcases List.mem_append.1 hx with hx | hx
                · exact hw x hx
                · rw [List.mem_singleton.1 hx]; exact ⟨ht, hf⟩) hr
              refine ⟨ts', h1, by rw [h2, flatA_append]; simp [flatA, Tr.flat], h3, ?_⟩
              rw [h4, partsA_append]; simp [partsA, Tr.parts]
            | 1, _ =>
              rcases List.eq_nil_or_concat ts with h0 | ⟨ts0, c, h0⟩
              · subst h0; simp at hl
              · rw [List.concat_eq_append] at h0
                subst h0
                have es : stk (ts0 ++ [c]) 0 = stk ts0 0 ++ [c.part (sizeA ts0)] := by rw [stk_append]; simp [stk]
                rw [es, drop_snoc] at hf hr ⊢
                rw [take_snoc1] at hr
                have ez : sizeA (ts0 ++ [c]) = sizeA ts0 + c.size := by rw [sizeA_append]; rfl
                rw [ez] at hr ⊢
                have e1 : stk ts0 0 ++ [putP t [c.part (sizeA ts0)] (sizeA ts0 + c.size)] = stk (ts0 ++ [.un t c]) 0 := by rw [stk_append]; simp [stk, Tr.part]
                have e2 : sizeA ts0 + c.size + 1 = sizeA (ts0 ++ [.un t c]) := by rw [sizeA_append]; simp [sizeA, Tr.size]; omega
                rw [e1, e2] at hr
                obtain ⟨ts', h1, h2, h3, h4⟩ := ih (ts0 ++ [.un t c]) _ _ (fun x hx => by
                  rcases List.mem_append.1 hx with hx | hx
                  · exact hw x (List.mem_append_left _ hx)
                  · rw [List.mem_singleton.1 hx]; exact ⟨ht, by rw [fits_un] at hf; exact hf, hw c (by simp)⟩) hr
                refine ⟨ts', h1, by rw [h2, flatA_append, flatA_append]; simp [flatA, Tr.flat], h3, ?_⟩
                rw [h4, partsA_append, partsA_append]; simp [partsA, Tr.parts]
            | 2, _ =>
              rcases List.eq_nil_or_concat ts with h0 | ⟨ts1, d, h0⟩
              · subst h0; simp at hl
              · rw [List.concat_eq_append] at h0
                subst h0
                rcases List.eq_nil_or_concat ts1 with h0 | ⟨ts0, c, h0⟩
                · subst h0; simp at hl
                · rw [List.concat_eq_append] at h0
                  subst h0
                  have es : stk (ts0 ++ [c] ++ [d]) 0 = stk ts0 0 ++ [c.part (sizeA ts0)] ++ [d.part (sizeA ts0 + c.size)] := by rw [stk_append, stk_append]; simp [stk, sizeA_append, sizeA]
                  rw [es, drop_snoc2] at hf hr ⊢
                  rw [take_snoc2] at hr
                  have ez : sizeA (ts0 ++ [c] ++ [d]) = sizeA ts0 + c.size + d.size := by rw [sizeA_append, sizeA_append]; simp [sizeA]
                  rw [ez] at hr ⊢
                  have e1 : stk ts0 0 ++ [putP t [c.part (sizeA ts0), d.part (sizeA ts0 + c.size)] (sizeA ts0 + c.size + d.size)] = stk (ts0 ++ [.bin t c d]) 0 := by rw [stk_append]; simp [stk, Tr.part]
                  have e2 : sizeA ts0 + c.size + d.size + 1 = sizeA (ts0 ++ [.bin t c d]) := by rw [sizeA_append]; simp [sizeA, Tr.size]; omega
                  rw [e1, e2] at hr
                  obtain ⟨ts', h1, h2, h3, h4⟩ := ih (ts0 ++ [.bin t c d]) _ _ (fun x hx => by
                    rcases List.mem_append.1 hx with hx | hx
                    · exact hw x (List.mem_append_left _ (List.mem_append_left _ hx))
                    · rw [List.mem_singleton.1 hx]; exact ⟨ht, by rw [fits_bin] at hf; exact hf, hw c (by simp), hw d (by simp)⟩) hr
                  refine ⟨ts', h1, by rw [h2, flatA_append, flatA_append, flatA_append]; simp [flatA, Tr.flat], h3, ?_⟩
                  rw [h4, partsA_append, partsA_append, partsA_append]; simp [partsA, Tr.parts, sizeA_append, sizeA]
        · rw [if_neg hf] at h; cases h
/-- Tokens are one part's just if they are a tree's. -/
theorem read_one {l : List Tk} {all : List Pt} {p : Pt} : readP l 0 [] = some (all, [p]) ↔ ∃ t : Tr, t.WF ∧ l = t.flat ∧ all = t.parts 0 ∧ p = t.part 0 := by
  constructor
  · intro h
    obtain ⟨ts, h1, h2, h3, h4⟩ := read_trees l [] all [p] (fun t ht => by simp at ht) h
    match ts, h3 with
    | [], h3 => cases h3
    | [t], h3 =>
      injection h3 with h3 _
      refine ⟨t, h1 t (by simp), ?_, ?_, h3⟩
      · simpa [flatA] using h2.symm
      · simpa [partsA] using h4.symm
    | t :: t' :: r, h3 => simp [stk] at h3
  · rintro ⟨t, hw, rfl, rfl, rfl⟩
    have := read_flat t hw [] 0 []
    rw [List.append_nil] at this
    rw [this]; simp [readP]

theorem parts_last : ∀ (t : Tr) (o : Nat), ∃ q, t.parts o = q ++ [t.part o] ∧ q.length + 1 = t.size
  | .leaf t, o => ⟨[], rfl, rfl⟩
  | .un t c, o => ⟨c.parts o, rfl, by rw [parts_len]; rfl⟩
  | .bin t c d, o => ⟨c.parts o ++ d.parts (o + c.size), rfl, by rw [List.length_append, parts_len, parts_len]; rfl⟩
theorem parts_frm : ∀ (t : Tr) (o : Nat), ∀ q ∈ t.parts o, o ≤ q.frm
  | .leaf t, o => by intro q hq; simp [Tr.parts] at hq; subst hq; exact Nat.le_refl _
  | .un t c, o => by
    intro q hq
    rcases List.mem_append.1 hq with h | h
    · exact parts_frm c o q h
    · rw [List.mem_singleton.1 h]; show o ≤ (c.part o).frm; rw [part_frm]; exact Nat.le_refl _
  | .bin t c d, o => by
    intro q hq
    rcases List.mem_append.1 hq with h | h
    · rcases List.mem_append.1 h with h | h
      · exact parts_frm c o q h
      · have := parts_frm d (o + c.size) q h; omega
    · rw [List.mem_singleton.1 h]; show o ≤ (c.part o).frm; rw [part_frm]; exact Nat.le_refl _
theorem parts_dep : ∀ (t : Tr) (o : Nat), ∀ q ∈ t.parts o, q.dep ≤ (t.part o).dep
  | .leaf t, o => by intro q hq; simp [Tr.parts] at hq; subst hq; exact Nat.le_refl _
  | .un t c, o => by
    intro q hq
    rcases List.mem_append.1 hq with h | h
    · have h1 := parts_dep c o q h
      show _ ≤ max 1 ((c.part o).dep + 1); omega
    · rw [List.mem_singleton.1 h]; exact Nat.le_refl _
  | .bin t c d, o => by
    intro q hq
    rcases List.mem_append.1 hq with h | h
    · rcases List.mem_append.1 h with h | h
      · have h1 := parts_dep c o q h
        show _ ≤ max (max 1 ((c.part o).dep + 1)) ((d.part (o + c.size)).dep + 1); omega
      · have h1 := parts_dep d (o + c.size) q h
        show _ ≤ max (max 1 ((c.part o).dep + 1)) ((d.part (o + c.size)).dep + 1); omega
    · rw [List.mem_singleton.1 h]; exact Nat.le_refl _
/-- The block of the token at i is a tree's tokens. -/
theorem sub_at : ∀ (t : Tr), t.WF → ∀ (o i : Nat), i < t.size → ∃ (s : Tr) (pre post : List Tk) (qpre qpost : List Pt), s.WF ∧ t.flat = pre ++ s.flat ++ post ∧ t.parts o = qpre ++ s.parts (o + pre.length) ++ qpost ∧ qpre.length = pre.length ∧ pre.length + s.size = i + 1
  | .leaf t, h, o, i, hi => ⟨.leaf t, [], [], [], [], h, by simp, by simp, rfl, by simp [Tr.size] at hi ⊢; omega⟩
  | .un t c, h, o, i, hi => by
    by_cases hc : i < c.size
    · obtain ⟨s, pre, post, qp, qq, h1, h2, h3, h4, h5⟩ := sub_at c h.2.2 o i hc
      exact ⟨s, pre, post ++ [t], qp, qq ++ [putP t [c.part o] (o + c.size)], h1, by simp [Tr.flat, h2], by simp [Tr.parts, h3], h4, h5⟩
    · exact ⟨.un t c, [], [], [], [], h, by simp, by simp, rfl, by simp [Tr.size] at hi ⊢; omega⟩
  | .bin t c d, h, o, i, hi => by
    by_cases hc : i < c.size
    · obtain ⟨s, pre, post, qp, qq, h1, h2, h3, h4, h5⟩ := sub_at c h.2.2.1 o i hc
      exact ⟨s, pre, post ++ d.flat ++ [t], qp, qq ++ d.parts (o + c.size) ++ [putP t [c.part o, d.part (o + c.size)] (o + c.size + d.size)], h1, by simp [Tr.flat, h2], by simp [Tr.parts, h3], h4, h5⟩
    · by_cases hd : i < c.size + d.size
      · obtain ⟨s, pre, post, qp, qq, h1, h2, h3, h4, h5⟩ := sub_at d h.2.2.2 (o + c.size) (i - c.size) (by omega)
        refine ⟨s, c.flat ++ pre, post ++ [t], c.parts o ++ qp, qq ++ [putP t [c.part o, d.part (o + c.size)] (o + c.size + d.size)], h1, by simp [Tr.flat, h2], ?_, by simp [h4, flat_len, parts_len], by simp [flat_len]; omega⟩
        simp [Tr.parts, h3, flat_len, Nat.add_assoc]
      · exact ⟨.bin t c d, [], [], [], [], h, by simp, by simp, rfl, by simp [Tr.size] at hi ⊢; omega⟩
end Go.Proofs.Ytbfhbpibpmgblaa
namespace Go.Proofs.Ytbfhbpibpmgblaa

/-- A part as the program keeps it: its kind (1 a formula, 2 a plain one, 3 a path), where it begins, how deep it is. -/
structure Kp where
  k : Nat
  b : Nat
  d : Nat
def kindOf (p : Pt) : Nat := if p.path then 3 else if p.plain then 2 else 1
def kp (p : Pt) : Kp := ⟨kindOf p, p.frm, p.dep⟩
def isK (k want : Nat) : Bool := if want = 4 then true else if want = 1 then (decide (k = 1) || decide (k = 2)) else decide (k = want)
def overK (p t : Kp) : Kp := ⟨if p.k = 2 ∧ t.k ≠ 2 then 1 else p.k, t.b, max p.d (t.d + 1)⟩
def takesK (op : Nat) : List Nat :=
  if op ≤ 5 then [] else if op ≤ 10 then [1] else if op ≤ 16 then [1, 1] else if op ≤ 18 then [3, 1] else if op = 19 then [2] else if op = 20 then [1] else if op ≤ 22 then [3, 3] else if op = 23 then [3] else []
def putsK (op : Nat) : Nat :=
  if op ≤ 2 then 2 else if op ≤ 5 then 1 else if op = 6 then 2 else if op ≤ 10 then 1 else if op ≤ 14 then 2 else if op ≤ 18 then 1 else if op ≤ 23 then 3 else 0
def mayB (op p : Nat) : Bool := if op = 2 then decide (p < 8) else (decide (op ≤ 23) && decide (p = 0))
theorem op_cases {op : Nat} (h : op ≤ 23) : op = 0 ∨ op = 1 ∨ op = 2 ∨ op = 3 ∨ op = 4 ∨ op = 5 ∨ op = 6 ∨ op = 7 ∨ op = 8 ∨ op = 9 ∨ op = 10 ∨ op = 11 ∨ op = 12 ∨ op = 13 ∨ op = 14 ∨ op = 15 ∨ op = 16 ∨ op = 17 ∨ op = 18 ∨ op = 19 ∨ op = 20 ∨ op = 21 ∨ op = 22 ∨ op = 23 := by omega
theorem takesN_mayB (op p : Nat) : takesN (op, p) = if mayB op p then some (takesK op).length else none := by
  by_cases h : op ≤ 23
  · rcases op_cases h with rfl | rfl | rfl | rfl | rfl | rfl | rfl | rfl | rfl | rfl | rfl | rfl | rfl | rfl | rfl | rfl | rfl | rfl | rfl | rfl | rfl | rfl | rfl | rfl <;>
    first
    | (by_cases hp : p = 0 <;> simp [takesN, mayB, takesK, hp] <;> done)
    | (by_cases hp : p < 8
       · simp [takesN, mayB, takesK, hp, show ¬ 7 < p by omega]
       · simp [takesN, mayB, hp, show 7 < p by omega])
  · have h1 : mayB op p = false := by unfold mayB; rw [if_neg (by omega)]; simp; omega
    unfold takesN
    rw [h1, if_pos (Or.inl (by simpa using h))]; rfl
theorem takesK_le (op : Nat) : (takesK op).length ≤ 2 := by
  unfold takesK
  repeat' split
  all_goals simp
/-- A path is never plain. -/
def Sane (p : Pt) : Prop := p.path = true → p.plain = false
theorem putP_sane (t : Tk) (a : List Pt) (i : Nat) : Sane (putP t a i) := by
  intro h
  unfold putP isPathB at h
  dsimp only at h
  have h1 : 19 ≤ t.1 := of_decide_eq_true h
  show (plainB t.1 && _) = false
  have : plainB t.1 = false := by unfold plainB; simp; omega
  rw [this]; rfl
theorem kind_formula (p : Pt) : isK (kindOf p) 1 = !p.path := by
  obtain ⟨a, b, c, d⟩ := p
  cases a <;> cases b <;> rfl
theorem kind_path (p : Pt) : isK (kindOf p) 3 = p.path := by
  obtain ⟨a, b, c, d⟩ := p
  cases a <;> cases b <;> rfl
theorem kind_plain (p : Pt) (h : Sane p) : isK (kindOf p) 2 = (!p.path && p.plain) := by
  obtain ⟨a, b, c, d⟩ := p
  cases a <;> cases b <;> first | rfl | exact absurd (h rfl) (by simp)
theorem kind_either (k : Nat) : isK k 4 = true := rfl
/-- Are the parts of the kinds that are asked for? -/
def fitsK : List Nat → List Kp → Bool
  | [], [] => true
  | w :: ws, x :: xs => isK x.k w && fitsK ws xs
  | _, _ => false
/-- What becomes of a part that takes these, the last first. -/
def madeK (m : Kp) (xs : List Kp) : Kp := xs.foldr (fun x m => overK m x) m
theorem fitsK_fitsP {op p n : Nat} {args : List Pt} (h : takesN (op, p) = some n) (hl : args.length = n) (hs : ∀ x ∈ args, Sane x) : fitsK (takesK op) (args.map kp) = fitsP op args := by
  rw [takesN_mayB] at h
  have hm : mayB op p = true := by
    cases hq : mayB op p with
    | true => rfl
    | false => rw [hq] at h; cases h
  rw [hm] at h
  injection h with h
  have hop : op ≤ 23 := by unfold mayB at hm; split at hm <;> simp at hm <;> omega
  rcases op_cases hop with rfl | rfl | rfl | rfl | rfl | rfl | rfl | rfl | rfl | rfl | rfl | rfl | rfl | rfl | rfl | rfl | rfl | rfl | rfl | rfl | rfl | rfl | rfl | rfl <;>
  (simp [takesK] at h
   subst h
   first
   | (obtain rfl := List.eq_nil_of_length_eq_zero hl; rfl)
   | (obtain ⟨x, rfl⟩ := List.length_eq_one_iff.1 hl
      have hx := hs x (by simp)
      simp [takesK, fitsK, fitsP, kp, kind_formula, kind_path, kind_plain _ hx])
   | (obtain ⟨x, y, rfl⟩ : ∃ x y, args = [x, y] := by
        match args, hl with
        | [x, y], _ => exact ⟨x, y, rfl⟩
      simp [takesK, fitsK, fitsP, kp, kind_formula, kind_path]))
theorem madeK_putP {op p n : Nat} {args : List Pt} {i : Nat} (h : takesN (op, p) = some n) (hl : args.length = n) (hf : fitsP op args = true) (hs : ∀ x ∈ args, Sane x) : madeK ⟨putsK op, i, 1⟩ (args.map kp) = kp (putP (op, p) args i) := by
  rw [takesN_mayB] at h
  have hm : mayB op p = true := by
    cases hq : mayB op p with
    | true => rfl
    | false => rw [hq] at h; cases h
  rw [hm] at h
  injection h with h
  have hop : op ≤ 23 := by unfold mayB at hm; split at hm <;> simp at hm <;> omega
  rcases op_cases hop with rfl | rfl | rfl | rfl | rfl | rfl | rfl | rfl | rfl | rfl | rfl | rfl | rfl | rfl | rfl | rfl | rfl | rfl | rfl | rfl | rfl | rfl | rfl | rfl <;>
  (simp [takesK] at h
   subst h
   first
   | (obtain rfl := List.eq_nil_of_length_eq_zero hl; rfl)
   | (obtain ⟨x, rfl⟩ := List.length_eq_one_iff.1 hl
      obtain ⟨a, b, c, d⟩ := x
      simp [fitsP] at hf
      cases a <;> cases b <;>
      first
      | (exfalso; simp at hf; done)
      | (simp [madeK, overK, kp, kindOf, putP, putsK, isPathB, plainB]; done)
      | (simp [madeK, overK, kp, kindOf, putP, putsK, isPathB, plainB]; omega))
   | (obtain ⟨x, y, rfl⟩ : ∃ x y, args = [x, y] := by
        match args, hl with
        | [x, y], _ => exact ⟨x, y, rfl⟩
      obtain ⟨a, b, c, d⟩ := x
      obtain ⟨a', b', c', d'⟩ := y
      simp [fitsP] at hf
      cases a <;> cases b <;> cases a' <;> cases b' <;>
      first
      | (exfalso; simp at hf; done)
      | (simp [madeK, overK, kp, kindOf, putP, putsK, isPathB, plainB]; done)
      | (simp [madeK, overK, kp, kindOf, putP, putsK, isPathB, plainB]; omega)))
/-- What look tells: 0, or the error. -/
def oneK (st : List Pt) (want : Nat) : Bool := match st with | [p] => isK (kindOf p) want | _ => false
def lookOf (r : Option (List Pt × List Pt)) (want : Nat) : Nat :=
  match r with
  | some (_, [p]) => if isK (kindOf p) want then (if 64 < p.dep then 8 else 0) else 7
  | _ => 7
def lookE (ts : List Tk) (want : Nat) : Nat := if 512 < ts.length then 3 else lookOf (readP ts 0 []) want
def allP (ts : List Tk) : List Pt := match readP ts 0 [] with | some x => x.1 | none => []
/-- By trees. -/
theorem lookE_zero {ts : List Tk} {want : Nat} : lookE ts want = 0 ↔ ts.length ≤ 512 ∧ ∃ t : Tr, t.WF ∧ ts = t.flat ∧ isK (kindOf (t.part 0)) want = true ∧ (t.part 0).dep ≤ 64 := by
  constructor
  · intro h
    unfold lookE at h
    split at h
    · cases h
    · next hl =>
      refine ⟨by omega, ?_⟩
      unfold lookOf at h
      split at h
      · next all p hr =>
        obtain ⟨t, h1, h2, h3, h4⟩ := read_one.1 hr
        subst h4
        split at h
        · next hk =>
          split at h
          · cases h
          · exact ⟨t, h1, h2, hk, by omega⟩
        · cases h
      · cases h
  · rintro ⟨hl, t, hw, rfl, hk, hd⟩
    unfold lookE
    rw [if_neg (by omega), read_one.2 ⟨t, hw, rfl, rfl, rfl⟩]
    unfold lookOf
    simp only
    rw [if_pos hk, if_neg (by omega)]
theorem allP_tree {t : Tr} (h : t.WF) : allP t.flat = t.parts 0 := by
  unfold allP
  rw [read_one.2 ⟨t, h, rfl, rfl, rfl⟩]
end Go.Proofs.Ytbfhbpibpmgblaa
namespace Go.Proofs.Ytbfhbpibpmgblaa

/-- The block of the token at i: a tree of its own. -/
theorem at_part {t : Tr} (hw : t.WF) {i : Nat} (hi : i < t.size) : ∃ (s : Tr) (pre post : List Tk), s.WF ∧ t.flat = pre ++ s.flat ++ post ∧ pre.length + s.size = i + 1 ∧ (t.parts 0)[i]? = some (s.part pre.length) ∧ ∀ k, pre.length ≤ k → k ≤ i → ∀ q, (t.parts 0)[k]? = some q → pre.length ≤ q.frm := by
  obtain ⟨s, pre, post, qp, qq, h1, h2, h3, h4, h5⟩ := sub_at t hw 0 i hi
  rw [Nat.zero_add] at h3
  obtain ⟨l, hl, hll⟩ := parts_last s pre.length
  have hsp := size_pos s
  refine ⟨s, pre, post, h1, h2, h5, ?_, ?_⟩
  · rw [h3, hl, List.append_assoc, List.getElem?_append_right (by omega), List.append_assoc, List.getElem?_append_right (by omega)]
    have : i - qp.length - l.length = 0 := by omega
    rw [this]; rfl
  · intro k hk1 hk2 q hq
    have hlen : (s.parts pre.length).length = s.size := parts_len s _
    rw [h3, List.append_assoc, List.getElem?_append_right (by omega), List.getElem?_append_left (by omega)] at hq
    exact parts_frm s _ q (List.mem_of_getElem? hq)
def frmAt (ts : List Tk) (k : Nat) : Nat := ((allP ts)[k]?.map (·.frm)).getD 0
def kindAt (ts : List Tk) (k : Nat) : Nat := ((allP ts)[k]?.map kindOf).getD 0
def putTs (ts : List Tk) (i : Int) (gs : List Tk) : List Tk := ts.take (frmAt ts i.toNat) ++ gs ++ ts.drop (i.toNat + 1)
def refE (ts : List Tk) (want : Nat) : Nat := lookE ts (if want = 3 then 3 else 1)
/-- What Put answers. -/
def putE (ts : List Tk) (i : Int) (gs : List Tk) : Nat :=
  if lookE ts 4 = 0 then (if i < 0 ∨ (ts.length : Int) ≤ i then 2 else (if refE gs (kindAt ts i.toNat) = 0 then lookE (putTs ts i gs) 4 else refE gs (kindAt ts i.toNat))) else lookE ts 4
theorem allP_len {ts : List Tk} {want : Nat} (h : lookE ts want = 0) : (allP ts).length = ts.length := by
  obtain ⟨_, t, hw, rfl, _⟩ := lookE_zero.1 h
  rw [allP_tree hw, parts_len, flat_len]
theorem frmAt_le {ts : List Tk} {want k : Nat} (h : lookE ts want = 0) (hk : k < ts.length) : frmAt ts k ≤ k := by
  obtain ⟨_, t, hw, rfl, _⟩ := lookE_zero.1 h
  obtain ⟨s, pre, post, h1, h2, h3, h4, _⟩ := at_part hw (by rw [← flat_len]; exact hk)
  unfold frmAt
  rw [allP_tree hw, h4]
  simp only [Option.map_some, Option.getD_some, part_frm]
  have := size_pos s; omega
end Go.Proofs.Ytbfhbpibpmgblaa
namespace Go.Proofs.Ytbfhbpibpmgblaa

/-- What Un and Bin answer. -/
def unE (op : Nat) (ts : List Tk) : Nat :=
  if (takesK op).length = 1 then (if refE ts ((takesK op).getD 0 0) = 0 then lookE (ts ++ [(op, 0)]) 4 else refE ts ((takesK op).getD 0 0)) else 2
def binE (op : Nat) (us bs : List Tk) : Nat :=
  if (takesK op).length = 2 then
    (if refE us ((takesK op).getD 0 0) = 0 then (if refE bs ((takesK op).getD 1 0) = 0 then lookE (us ++ bs ++ [(op, 0)]) 4 else refE bs ((takesK op).getD 1 0)) else refE us ((takesK op).getD 0 0))
  else 2
theorem part_sane : ∀ (t : Tr) (o : Nat), Sane (t.part o)
  | .leaf _, _ => putP_sane _ _ _
  | .un _ _, _ => putP_sane _ _ _
  | .bin _ _ _, _ => putP_sane _ _ _
theorem isK_want {k w : Nat} (h : isK k w = true) (hw : w = 1 ∨ w = 2 ∨ w = 3) : isK k (if w = 3 then 3 else 1) = true := by
  rcases hw with rfl | rfl | rfl
  · exact h
  · have : k = 2 := by simpa [isK] using h
    subst this; rfl
  · exact h
theorem takesK_vals (op : Nat) : ∀ w ∈ takesK op, w = 1 ∨ w = 2 ∨ w = 3 := by
  unfold takesK
  repeat' split
  all_goals simp
theorem kind_is (t : Tr) : isK (kindOf (t.part 0)) 1 = true ∨ isK (kindOf (t.part 0)) 3 = true := by
  rw [kind_formula, kind_path]; cases (t.part 0).path <;> simp
theorem look_tree {t : Tr} {want : Nat} (hw : t.WF) (hl : t.size ≤ 512) (hk : isK (kindOf (t.part 0)) want = true) (hd : (t.part 0).dep ≤ 64) : lookE t.flat want = 0 :=
  lookE_zero.2 ⟨by rw [flat_len]; exact hl, t, hw, rfl, hk, hd⟩
theorem ref_tree {t : Tr} {w : Nat} (hw : t.WF) (hl : t.size ≤ 512) (hk : isK (kindOf (t.part 0)) w = true) (hv : w = 1 ∨ w = 2 ∨ w = 3) (hd : (t.part 0).dep ≤ 64) : refE t.flat w = 0 :=
  look_tree hw hl (isK_want hk hv) hd
theorem takes_p {op p n : Nat} (h : takesN (op, p) = some n) (hn : 0 < n) : p = 0 ∧ (takesK op).length = n ∧ op ≤ 23 := by
  rw [takesN_mayB] at h
  split at h
  · next hm =>
    injection h with h
    unfold mayB at hm
    split at hm
    · next h2 => subst h2; simp [takesK] at h; omega
    · simp at hm; exact ⟨hm.2, h, hm.1⟩
  · cases h
/-- The last token, and the tree. -/
theorem look_any_tree {ts : List Tk} (h : lookE ts 1 = 0 ∨ lookE ts 3 = 0 ∨ lookE ts 4 = 0) : ∃ t : Tr, t.WF ∧ ts = t.flat ∧ ts.length ≤ 512 ∧ (t.part 0).dep ≤ 64 := by
  rcases h with h | h | h
  all_goals
    obtain ⟨h1, t, h2, h3, _, h5⟩ := lookE_zero.1 h
    exact ⟨t, h2, h3, h1, h5⟩
theorem look4 {ts : List Tk} (h : lookE ts 1 = 0 ∨ lookE ts 3 = 0) : lookE ts 4 = 0 := by
  obtain ⟨t, h1, rfl, h3, h4⟩ := look_any_tree (by rcases h with h | h; exact Or.inl h; exact Or.inr (Or.inl h))
  exact look_tree h1 (by rw [← flat_len]; exact h3) rfl h4
theorem look13 {ts : List Tk} (h : lookE ts 4 ≠ 0) : lookE ts 1 ≠ 0 ∧ lookE ts 3 ≠ 0 := ⟨fun e => h (look4 (Or.inl e)), fun e => h (look4 (Or.inr e))⟩
/-- What TermUp asks. -/
theorem up_plain {ts : List Tk} (h : lookE ts 1 = 0 ∨ lookE ts 3 = 0) (n : Nat) (hn : ts.length = n + 1) (hn1 : 0 < n) :
    lookE ts 4 = 0 ∧ frmAt ts (n - 1) ≤ n ∧ ∃ op, ts[n]? = some (op, 0) ∧ op < 256 ∧
    (frmAt ts (n - 1) = 0 → unE op (ts.take n) = 0 ∧ ts.take n ++ [(op, 0)] = ts) ∧
    (frmAt ts (n - 1) ≠ 0 → binE op (ts.take (frmAt ts (n - 1))) ((ts.drop (frmAt ts (n - 1))).take (n - frmAt ts (n - 1))) = 0 ∧ ts.take (frmAt ts (n - 1)) ++ (ts.drop (frmAt ts (n - 1))).take (n - frmAt ts (n - 1)) ++ [(op, 0)] = ts) := by
  have h4 := look4 h
  refine ⟨h4, ?_, ?_⟩
  · have := frmAt_le h4 (k := n - 1) (by omega); omega
  obtain ⟨t, hw, rfl, hl, hd⟩ := look_any_tree (by rcases h with h | h; exact Or.inl h; exact Or.inr (Or.inl h))
  rw [flat_len] at hl hn
  match t, hw, hn, hl, hd with
  | .leaf t, _, hn, _, _ => simp [Tr.size] at hn; omega
  | .un (op, p) c, hw, hn, hl, hd =>
    obtain ⟨ht, hf, hc⟩ := hw
    obtain ⟨rfl, hk, hop⟩ := takes_p ht (by decide)
    have hcn : c.size = n := by simp [Tr.size] at hn; exact hn
    have hcl := flat_len c
    have hpl := parts_len c 0
    obtain ⟨q, hq, hql⟩ := parts_last c 0
    have hfr : frmAt (Tr.un (op, 0) c).flat (n - 1) = 0 := by
      unfold frmAt
      rw [allP_tree (t := Tr.un (op, 0) c) ⟨ht, hf, hc⟩]
      show (((c.parts 0 ++ _)[n - 1]?).map _).getD 0 = 0
      rw [List.getElem?_append_left (by omega), hq, List.getElem?_append_right (by omega)]
      have : n - 1 - q.length = 0 := by omega
      rw [this]; simp [part_frm]
    have htk : (Tr.un (op, 0) c).flat.take n = c.flat := by
      show (c.flat ++ [(op, 0)]).take n = _
      rw [← hcn, ← hcl, List.take_left]
    refine ⟨op, ?_, by omega, fun _ => ?_, fun h0 => absurd hfr h0⟩
    · show (c.flat ++ [(op, 0)])[n]? = _
      rw [List.getElem?_append_right (by omega)]
      have : n - c.flat.length = 0 := by omega
      rw [this]; rfl
    · rw [htk]
      refine ⟨?_, rfl⟩
      obtain ⟨w, hws⟩ := List.length_eq_one_iff.1 hk
      have hfk : fitsK (takesK op) [kp (c.part 0)] = true := by
        rw [← hf]; exact fitsK_fitsP (args := [c.part 0]) ht rfl (fun x hx => by rw [List.mem_singleton.1 hx]; exact part_sane c 0)
      rw [hws] at hfk
      have hik : isK (kindOf (c.part 0)) w = true := by simpa [fitsK, kp] using hfk
      have hdc : (c.part 0).dep ≤ 64 := by
        have h2 : max 1 ((c.part 0).dep + 1) ≤ 64 := hd
        omega
      have hr : refE c.flat w = 0 := ref_tree hc (by simp [Tr.size] at hl; omega) hik (takesK_vals op w (by rw [hws]; simp)) hdc
      unfold unE
      rw [if_pos hk, hws]
      show (if refE c.flat w = 0 then _ else _) = 0
      rw [if_pos hr]; exact h4
  | .bin (op, p) c d, hw, hn, hl, hd =>
    obtain ⟨ht, hf, hc, hdw⟩ := hw
    obtain ⟨rfl, hk, hop⟩ := takes_p ht (by decide)
    have hcn : c.size + d.size = n := by simp [Tr.size] at hn; exact hn
    have hcl := flat_len c
    have hdl := flat_len d
    have hpl := parts_len c 0
    have hpd := parts_len d (0 + c.size)
    have hcp := size_pos c
    have hdp := size_pos d
    obtain ⟨q, hq, hql⟩ := parts_last d (0 + c.size)
    have hfr : frmAt (Tr.bin (op, 0) c d).flat (n - 1) = c.size := by
      unfold frmAt
      rw [allP_tree (t := Tr.bin (op, 0) c d) ⟨ht, hf, hc, hdw⟩]
      show (((c.parts 0 ++ d.parts (0 + c.size) ++ _)[n - 1]?).map _).getD 0 = c.size
      rw [List.getElem?_append_left (by rw [List.length_append]; omega), List.getElem?_append_right (by omega), hq, List.getElem?_append_right (by omega)]
      have : n - 1 - (c.parts 0).length - q.length = 0 := by omega
      rw [this]; simp [part_frm]
    have hfl : (Tr.bin (op, 0) c d).flat = c.flat ++ (d.flat ++ [(op, 0)]) := by show c.flat ++ d.flat ++ [(op, 0)] = _; rw [List.append_assoc]
    rw [hfr]
    have ht1 : (Tr.bin (op, 0) c d).flat.take c.size = c.flat := by rw [hfl, ← hcl, List.take_left]
    have ht2 : ((Tr.bin (op, 0) c d).flat.drop c.size).take (n - c.size) = d.flat := by
      rw [hfl, ← hcl, List.drop_left]
      have : n - c.flat.length = d.flat.length := by omega
      rw [this, List.take_left]
    rw [ht1, ht2]
    refine ⟨op, ?_, by omega, fun h0 => by omega, fun _ => ?_⟩
    · show (c.flat ++ d.flat ++ [(op, 0)])[n]? = _
      rw [List.getElem?_append_right (by rw [List.length_append]; omega)]
      have : n - (c.flat ++ d.flat).length = 0 := by rw [List.length_append]; omega
      rw [this]; rfl
    · refine ⟨?_, rfl⟩
      obtain ⟨w1, w2, hws⟩ : ∃ w1 w2, takesK op = [w1, w2] := by
        match hq : takesK op, hk with
        | [w1, w2], _ => exact ⟨w1, w2, rfl⟩
      have hfk : fitsK (takesK op) [kp (c.part 0), kp (d.part 0)] = true := by
        rw [← hf]; exact fitsK_fitsP (args := [c.part 0, d.part 0]) ht rfl (fun x hx => by
          simp at hx
          rcases hx with rfl | rfl
          · exact part_sane c 0
          · exact part_sane d 0)
      rw [hws] at hfk
      have hik : isK (kindOf (c.part 0)) w1 = true ∧ isK (kindOf (d.part 0)) w2 = true := by simpa [fitsK, kp] using hfk
      have hdd : (d.part (0 + c.size)).dep = (d.part 0).dep := (part_shift d _).2.2
      have hdc : (c.part 0).dep ≤ 64 ∧ (d.part 0).dep ≤ 64 := by
        have h2 : max (max 1 ((c.part 0).dep + 1)) ((d.part (0 + c.size)).dep + 1) ≤ 64 := hd
        omega
      have hr1 : refE c.flat w1 = 0 := ref_tree hc (by simp [Tr.size] at hl; omega) hik.1 (takesK_vals op w1 (by rw [hws]; simp)) hdc.1
      have hr2 : refE d.flat w2 = 0 := ref_tree hdw (by simp [Tr.size] at hl; omega) hik.2 (takesK_vals op w2 (by rw [hws]; simp)) hdc.2
      unfold binE
      rw [if_pos hk, hws]
      show (if refE c.flat w1 = 0 then (if refE d.flat w2 = 0 then _ else _) else _) = 0
      rw [if_pos hr1, if_pos hr2]; exact h4
/-- What TermBlocks asks. -/
def depAt (ts : List Tk) (k : Nat) : Nat := ((allP ts)[k]?.map (·.dep)).getD 0
theorem blocks_plain {ts : List Tk} (h : lookE ts 4 = 0) (i : Nat) (hi : i < ts.length) :
    frmAt ts i ≤ i ∧ depAt ts i ≤ depAt ts (ts.length - 1) ∧
    ((lookE ((ts.drop (frmAt ts i)).take (i + 1 - frmAt ts i)) 1 = 0 ∧ lookE ((ts.drop (frmAt ts i)).take (i + 1 - frmAt ts i)) 3 ≠ 0) ∨ (lookE ((ts.drop (frmAt ts i)).take (i + 1 - frmAt ts i)) 1 ≠ 0 ∧ lookE ((ts.drop (frmAt ts i)).take (i + 1 - frmAt ts i)) 3 = 0)) ∧
    (∀ k, frmAt ts i ≤ k → k < i → frmAt ts i ≤ frmAt ts k) ∧
    putE ts (i : Int) ((ts.drop (frmAt ts i)).take (i + 1 - frmAt ts i)) = 0 ∧ putTs ts (i : Int) ((ts.drop (frmAt ts i)).take (i + 1 - frmAt ts i)) = ts := by
  have hle := frmAt_le h hi
  obtain ⟨t, hw, rfl, hl, hd⟩ := look_any_tree (Or.inr (Or.inr h))
  have his : i < t.size := by rw [← flat_len]; exact hi
  obtain ⟨s, pre, post, hs, hfl, hsz, hat, hfr⟩ := at_part hw his
  have hsp := size_pos s
  have hf : frmAt t.flat i = pre.length := by
    unfold frmAt; rw [allP_tree hw, hat]; simp [part_frm]
  have hpt : (t.flat.drop (frmAt t.flat i)).take (i + 1 - frmAt t.flat i) = s.flat := by
    rw [hf, hfl, List.append_assoc, List.drop_left]
    have : i + 1 - pre.length = s.flat.length := by rw [flat_len]; omega
    rw [this, List.take_left]
  have hdep : (s.part 0).dep ≤ (t.part 0).dep := by
    have := parts_dep t 0 _ (List.mem_of_getElem? hat)
    rw [(part_shift s pre.length).2.2] at this; exact this
  have hssz : s.size ≤ 512 := by rw [flat_len] at hl; omega
  have hkd : kindAt t.flat i = kindOf (s.part 0) := by
    unfold kindAt; rw [allP_tree hw, hat]
    show kindOf (s.part pre.length) = _
    unfold kindOf; rw [(part_shift s pre.length).1, (part_shift s pre.length).2.1]
  have hput : putTs t.flat (i : Int) s.flat = t.flat := by
    unfold putTs
    rw [Int.toNat_natCast, hf]
    have e1 : t.flat.take pre.length = pre := by rw [hfl, List.append_assoc, List.take_left]
    have e2 : t.flat.drop (i + 1) = post := by
      rw [hfl]
      have : i + 1 = (pre ++ s.flat).length := by rw [List.length_append, flat_len]; omega
      rw [this, List.drop_left]
    rw [e1, e2]; exact hfl.symm
  refine ⟨hle, ?_, ?_, ?_, ?_, ?_⟩
  · have e1 : depAt t.flat i = (s.part 0).dep := by
      unfold depAt; rw [allP_tree hw, hat]; simp [(part_shift s pre.length).2.2]
    have e2 : depAt t.flat (t.flat.length - 1) = (t.part 0).dep := by
      unfold depAt
      obtain ⟨q, hq, hql⟩ := parts_last t 0
      rw [allP_tree hw, hq, List.getElem?_append_right (by rw [flat_len]; omega)]
      have : t.flat.length - 1 - q.length = 0 := by rw [flat_len]; omega
      rw [this]; simp
    rw [e1, e2]; exact hdep
  · rw [hpt]
    have hdd : (s.part 0).dep ≤ 64 := by omega
    cases hp : (s.part 0).path with
    | true =>
      refine Or.inr ⟨fun h1 => ?_, look_tree hs hssz (by rw [kind_path]; exact hp) hdd⟩
      obtain ⟨_, s', h2, h3, h4, _⟩ := lookE_zero.1 h1
      have h5 := read_one.2 ⟨s, hs, rfl, rfl, rfl⟩
      rw [h3, read_one.2 ⟨s', h2, rfl, rfl, rfl⟩] at h5
      injection h5 with h5
      injection h5 with _ h6
      injection h6 with h6
      rw [h6, kind_formula, hp] at h4; cases h4
    | false =>
      refine Or.inl ⟨look_tree hs hssz (by rw [kind_formula, hp]; rfl) hdd, fun h1 => ?_⟩
      obtain ⟨_, s', h2, h3, h4, _⟩ := lookE_zero.1 h1
      have h5 := read_one.2 ⟨s, hs, rfl, rfl, rfl⟩
      rw [h3, read_one.2 ⟨s', h2, rfl, rfl, rfl⟩] at h5
      injection h5 with h5
      injection h5 with _ h6
      injection h6 with h6
      rw [h6, kind_path, hp] at h4; cases h4
  · intro k hk1 hk2
    rw [hf] at hk1 ⊢
    have hkl : k < (t.parts 0).length := by rw [parts_len]; omega
    have := hfr k hk1 (by omega) _ (List.getElem?_eq_getElem hkl)
    unfold frmAt
    rw [allP_tree hw, List.getElem?_eq_getElem hkl]; exact this
  · rw [hpt]
    unfold putE
    rw [if_pos h, if_neg (by omega), Int.toNat_natCast, hkd, hput, if_pos]
    · exact h
    · refine ref_tree hs hssz ?_ ?_ (by omega)
      · unfold kindOf isK; cases (s.part 0).path <;> cases (s.part 0).plain <;> rfl
      · unfold kindOf; cases (s.part 0).path <;> cases (s.part 0).plain <;> simp
  · rw [hpt]; exact hput
theorem last_frm {ts : List Tk} (h : lookE ts 4 = 0) : 0 < ts.length ∧ frmAt ts (ts.length - 1) = 0 := by
  obtain ⟨t, hw, rfl, hl, hd⟩ := look_any_tree (Or.inr (Or.inr h))
  have := size_pos t
  refine ⟨by rw [flat_len]; exact this, ?_⟩
  unfold frmAt
  obtain ⟨q, hq, hql⟩ := parts_last t 0
  rw [allP_tree hw, hq, List.getElem?_append_right (by rw [flat_len]; omega)]
  have : t.flat.length - 1 - q.length = 0 := by rw [flat_len]; omega
  rw [this]; simp [part_frm]
end Go.Proofs.Ytbfhbpibpmgblaa
