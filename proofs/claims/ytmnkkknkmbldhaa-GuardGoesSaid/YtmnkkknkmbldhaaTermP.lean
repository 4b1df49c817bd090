/- Formulas as lists of tokens, plain: what a token takes, the part that it puts, the stack; and the same by trees. -/
import Derived.WalkKit
namespace Go.Proofs.Ytmnkkknkmbldhaa

/-- A token: its Op, its P. -/
abbrev Tk := Nat × Nat
/-- A part: is it a path, is it plain, how deep it is, where its block begins. -/
structure Pt where
  path : Bool
  plain : Bool
  dep : Nat
  frm : Nat
/-- How many parts a token takes; none: there is no such token. -/
def takesN (t : Tk) : Option Nat :=
  if 23 < t.1 ∨ (t.1 ≠ 2 ∧ t.2 ≠ 0) ∨ (t.1 = 2 ∧ 7 < t.2) then none
  else if t.1 ≤ 5 then some 0
  else if t.1 ≤ 10 ∨ t.1 = 19 ∨ t.1 = 20 ∨ t.1 = 23 then some 1
  else some 2
theorem takesN_le {t : Tk} {n : Nat} (h : takesN t = some n) : n ≤ 2 := by
  unfold takesN at h
  split at h
  · cases h
  · split at h
    · cases h; decide
    · split at h <;> (cases h; decide)
def isPathB (op : Nat) : Bool := decide (19 ≤ op)
def plainB (op : Nat) : Bool := decide (op ≤ 2) || decide (op = 6) || (decide (11 ≤ op) && decide (op ≤ 14))
/-- May a token take these parts? -/
def fitsP (op : Nat) (a : List Pt) : Bool :=
  if op = 17 ∨ op = 18 then (match a with | [x, y] => x.path && !y.path | _ => false)
  else if op = 19 then (match a with | [x] => !x.path && x.plain | _ => false)
  else if op = 21 ∨ op = 22 then (match a with | [x, y] => x.path && y.path | _ => false)
  else if op = 23 then (match a with | [x] => x.path | _ => false)
  else a.all fun x => !x.path
/-- The part that a token puts. -/
def putP (t : Tk) (a : List Pt) (i : Nat) : Pt :=
  ⟨isPathB t.1, plainB t.1 && a.all (·.plain), a.foldl (fun d x => max d (x.dep + 1)) 1, match a with | [] => i | x :: _ => x.frm⟩
/-- Of each token its part, and what is on the stack in the end. -/
def readP : List Tk → Nat → List Pt → Option (List Pt × List Pt)
  | [], _, st => some ([], st)
  | t :: r, i, st =>
    match takesN t with
    | none => none
    | some n =>
      if st.length < n then none
      else if fitsP t.1 (st.drop (st.length - n)) then
        (readP r (i + 1) (st.take (st.length - n) ++ [putP t (st.drop (st.length - n)) i])).map fun x => (putP t (st.drop (st.length - n)) i :: x.1, x.2)
      else none

/-! ### trees -/
inductive Tr where
  | leaf (t : Tk) : Tr
  | un (t : Tk) (c : Tr) : Tr
  | bin (t : Tk) (c d : Tr) : Tr
namespace Tr
def flat : Tr → List Tk
  | leaf t => [t]
  | un t c => c.flat ++ [t]
  | bin t c d => c.flat ++ d.flat ++ [t]
def size : Tr → Nat
  | leaf _ => 1
  | un _ c => c.size + 1
  | bin _ c d => c.size + d.size + 1
def part : Tr → Nat → Pt
  | leaf t, o => putP t [] o
  | un t c, o => putP t [c.part o] (o + c.size)
  | bin t c d, o => putP t [c.part o, d.part (o + c.size)] (o + c.size + d.size)
def parts : Tr → Nat → List Pt
  | leaf t, o => [putP t [] o]
  | un t c, o => c.parts o ++ [putP t [c.part o] (o + c.size)]
  | bin t c d, o => c.parts o ++ d.parts (o + c.size) ++ [putP t [c.part o, d.part (o + c.size)] (o + c.size + d.size)]
def WF : Tr → Prop
  | leaf t => takesN t = some 0 ∧ fitsP t.1 [] = true
  | un t c => takesN t = some 1 ∧ fitsP t.1 [c.part 0] = true ∧ c.WF
  | bin t c d => takesN t = some 2 ∧ fitsP t.1 [c.part 0, d.part 0] = true ∧ c.WF ∧ d.WF
end Tr
theorem flat_len : ∀ t : Tr, t.flat.length = t.size
  | .leaf _ => rfl
  | .un _ c => by simp [Tr.flat, Tr.size, flat_len c]
  | .bin _ c d => by simp [Tr.flat, Tr.size, flat_len c, flat_len d]; omega
theorem parts_len : ∀ (t : Tr) (o : Nat), (t.parts o).length = t.size
  | .leaf _, _ => rfl
  | .un _ c, o => by simp [Tr.parts, Tr.size, parts_len c]
  | .bin _ c d, o => by simp [Tr.parts, Tr.size, parts_len c, parts_len d]; omega
theorem size_pos : ∀ t : Tr, 0 < t.size
  | .leaf _ => Nat.one_pos
  | .un _ _ => Nat.succ_pos _
  | .bin _ _ _ => Nat.succ_pos _
/-- A part by what counts: where it begins hangs on the place alone. -/
theorem part_frm : ∀ (t : Tr) (o : Nat), (t.part o).frm = o
  | .leaf _, _ => rfl
  | .un _ c, o => part_frm c o
  | .bin _ c _, o => part_frm c o
theorem part_shift : ∀ (t : Tr) (o : Nat), (t.part o).path = (t.part 0).path ∧ (t.part o).plain = (t.part 0).plain ∧ (t.part o).dep = (t.part 0).dep
  | .leaf _, _ => ⟨rfl, rfl, rfl⟩
  | .un t c, o => by
    have h := part_shift c o
    simp [Tr.part, putP, h.2.1, h.2.2]
  | .bin t c d, o => by
    have h := part_shift c o
    have h2 := part_shift d (o + c.size)
    have h3 := part_shift d (0 + c.size)
    simp [Tr.part, putP, h.2.1, h.2.2, h2.2.1, h2.2.2]
    simp at h3
    simp [h3.2.1, h3.2.2]
theorem fits_same {op : Nat} {a b : List Pt} (h : a.map (fun x => (x.path, x.plain)) = b.map (fun x => (x.path, x.plain))) : fitsP op a = fitsP op b := by
  have hl : a.length = b.length := by simpa using congrArg List.length h
  match a, b, hl with
  | [], [], _ => rfl
  | [x], [y], _ => simp at h; simp [fitsP, h.1, h.2]
  | [x, x'], [y, y'], _ => simp at h; simp [fitsP, h.1.1, h.2.1]
  | x :: x' :: x'' :: r, y :: y' :: y'' :: r', _ =>
    unfold fitsP
    split
    · rfl
    · split
      · rfl
      · split
        · rfl
        · split
          · rfl
          · have : ∀ l : List Pt, l.all (fun x => !x.path) = (l.map (fun x => (x.path, x.plain))).all (fun q => !q.1) := fun l => by simp [List.all_map, Function.comp_def]
            rw [this, this, h]
theorem fits_un {t : Tk} {c : Tr} (o : Nat) : fitsP t.1 [c.part o] = fitsP t.1 [c.part 0] := fits_same (by simp [(part_shift c o).1, (part_shift c o).2.1])
theorem fits_bin {t : Tk} {c d : Tr} (o o' : Nat) : fitsP t.1 [c.part o, d.part o'] = fitsP t.1 [c.part 0, d.part 0] := fits_same (by simp [(part_shift c o).1, (part_shift c o).2.1, (part_shift d o').1, (part_shift d o').2.1])

theorem drop_snoc (st : List Pt) (x : Pt) : (st ++ [x]).drop ((st ++ [x]).length - 1) = [x] := by
  rw [List.length_append]; simp
theorem take_snoc1 (st : List Pt) (x : Pt) : (st ++ [x]).take ((st ++ [x]).length - 1) = st := by
  rw [List.length_append]; simp
theorem drop_snoc2 (st : List Pt) (x y : Pt) : (st ++ [x] ++ [y]).drop ((st ++ [x] ++ [y]).length - 2) = [x, y] := by
  have : (st ++ [x] ++ [y]).length - 2 = st.length := by simp
  rw [this, List.append_assoc, List.drop_left]; rfl
theorem take_snoc2 (st : List Pt) (x y : Pt) : (st ++ [x] ++ [y]).take ((st ++ [x] ++ [y]).length - 2) = st := by
  have : (st ++ [x] ++ [y]).length - 2 = st.length := by simp
  rw [this, List.append_assoc, List.take_left]
/-- A tree's tokens put its part, from whatever stack. -/
theorem read_flat : ∀ (t : Tr), t.WF → ∀ (r : List Tk) (i : Nat) (st : List Pt), readP (t.flat ++ r) i st = (readP r (i + t.size) (st ++ [t.part i])).map fun x => (t.parts i ++ x.1, x.2)
  | .leaf t, h, r, i, st => by
    show readP (t :: r) i st = _
    rw [readP, h.1]
    have hd : st.drop (st.length - 0) = [] := by simp
    have ht : st.take (st.length - 0) = st := by simp
    simp only [hd, ht, h.2, if_true]
    rw [if_neg (by omega)]
    rfl
  | .un t c, h, r, i, st => by
    show readP (c.flat ++ [t] ++ r) i st = _
    rw [List.append_assoc, read_flat c h.2.2]
    show Option.map _ (readP (t :: r) _ _) = _
    rw [readP, h.1]
    simp only [drop_snoc, take_snoc1]
    rw [if_neg (by simp), fits_un, if_pos h.2.1, Option.map_map]
    simp only [Tr.size, Tr.part, Tr.parts, Nat.add_assoc]
    congr 1
    funext x
    simp
  | .bin t c d, h, r, i, st => by
    show readP (c.flat ++ d.flat ++ [t] ++ r) i st = _
    rw [List.append_assoc, List.append_assoc, read_flat c h.2.2.1, read_flat d h.2.2.2]
    show Option.map _ (Option.map _ (readP (t :: r) _ _)) = _
    rw [readP, h.1]
    simp only [drop_snoc2, take_snoc2]
    rw [if_neg (by simp), fits_bin, if_pos h.2.1, Option.map_map, Option.map_map]
    simp only [Tr.size, Tr.part, Tr.parts, Nat.add_assoc]
    congr 1
    funext x
    simp
end Go.Proofs.Ytmnkkknkmbldhaa
