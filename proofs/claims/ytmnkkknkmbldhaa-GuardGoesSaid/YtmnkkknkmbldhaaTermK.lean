/- The program's own words for parts, plain: kinds as numbers, what a token takes, one part over another; and that they say the same as the document's. -/
import Derived.Test.YtmnkkknkmbldhaaTermQ
namespace Go.Proofs.Ytmnkkknkmbldhaa

/-- A part as the program keeps it: its kind (1 a formula, 2 a plain one, 3 a path), where it begins, how deep it is. -/
structure Kp where
  k : Nat
  b : Nat
  d : Nat
def kindOf (p : Pt) : Nat := if p.path then 3 else if p.plain then 2 else 1
def kp (p : Pt) : Kp := ⟨kindOf p, p.frm, p.dep⟩
def isK (k want : Nat) : Bool := if want = 4 then true else if want = 1 then (decide (k = 1) || decide (k = 2)) else decide (k = want)
def overK (p t : Kp) : Kp := ⟨if p.k = 2 ∧ t.k ≠ 2 then 1 else p.k, t.b, max p.d (t.d + 1)⟩
def takesK (op : Nat) : List Nat :=
  if op ≤ 5 then [] else if op ≤ 10 then [1] else if op ≤ 16 then [1, 1] else if op ≤ 18 then [3, 1] else if op = 19 then [2] else if op = 20 then [1] else if op ≤ 22 then [3, 3] else if op = 23 then [3] else []
def putsK (op : Nat) : Nat :=
  if op ≤ 2 then 2 else if op ≤ 5 then 1 else if op = 6 then 2 else if op ≤ 10 then 1 else if op ≤ 14 then 2 else if op ≤ 18 then 1 else if op ≤ 23 then 3 else 0
def mayB (op p : Nat) : Bool := if op = 2 then decide (p < 8) else (decide (op ≤ 23) && decide (p = 0))
theorem op_cases {op : Nat} (h : op ≤ 23) : op = 0 ∨ op = 1 ∨ op = 2 ∨ op = 3 ∨ op = 4 ∨ op = 5 ∨ op = 6 ∨ op = 7 ∨ op = 8 ∨ op = 9 ∨ op = 10 ∨ op = 11 ∨ op = 12 ∨ op = 13 ∨ op = 14 ∨ op = 15 ∨ op = 16 ∨ op = 17 ∨ op = 18 ∨ op = 19 ∨ op = 20 ∨ op = 21 ∨ op = 22 ∨ op = 23 := by omega
theorem takesN_mayB (op p : Nat) : takesN (op, p) = if mayB op p then some (takesK op).length else none := by
  by_cases h : op ≤ 23
  · rcases op_cases h with rfl | rfl | rfl | rfl | rfl | rfl | rfl | rfl | rfl | rfl | rfl | rfl | rfl | rfl | rfl | rfl | rfl | rfl | rfl | rfl | rfl | rfl | rfl | rfl <;>
    first
    | (by_cases hp : p = 0 <;> simp [takesN, mayB, takesK, hp] <;> done)
    | (by_cases hp : p < 8
       · simp [takesN, mayB, takesK, hp, show ¬ 7 < p by omega]
       · simp [takesN, mayB, hp, show 7 < p by omega])
  · have h1 : mayB op p = false := by unfold mayB; rw [if_neg (by omega)]; simp; omega
    unfold takesN
    rw [h1, if_pos (Or.inl (by simpa using h))]; rfl
theorem takesK_le (op : Nat) : (takesK op).length ≤ 2 := by
  unfold takesK
  repeat' split
  all_goals simp
/-- A path is never plain. -/
def Sane (p : Pt) : Prop := p.path = true → p.plain = false
theorem putP_sane (t : Tk) (a : List Pt) (i : Nat) : Sane (putP t a i) := by
  intro h
  unfold putP isPathB at h
  dsimp only at h
  have h1 : 19 ≤ t.1 := of_decide_eq_true h
  show (plainB t.1 && _) = false
  have : plainB t.1 = false := by unfold plainB; simp; omega
  rw [this]; rfl
theorem kind_formula (p : Pt) : isK (kindOf p) 1 = !p.path := by
  obtain ⟨a, b, c, d⟩ := p
  cases a <;> cases b <;> rfl
theorem kind_path (p : Pt) : isK (kindOf p) 3 = p.path := by
  obtain ⟨a, b, c, d⟩ := p
  cases a <;> cases b <;> rfl
theorem kind_plain (p : Pt) (h : Sane p) : isK (kindOf p) 2 = (!p.path && p.plain) := by
  obtain ⟨a, b, c, d⟩ := p
  cases a <;> cases b <;> first | rfl | exact absurd (h rfl) (by simp)
theorem kind_either (k : Nat) : isK k 4 = true := rfl
/-- Are the parts of the kinds that are asked for? -/
def fitsK : List Nat → List Kp → Bool
  | [], [] => true
  | w :: ws, x :: xs => isK x.k w && fitsK ws xs
  | _, _ => false
/-- What becomes of a part that takes these, the last first. -/
def madeK (m : Kp) (xs : List Kp) : Kp := xs.foldr (fun x m => overK m x) m
theorem fitsK_fitsP {op p n : Nat} {args : List Pt} (h : takesN (op, p) = some n) (hl : args.length = n) (hs : ∀ x ∈ args, Sane x) : fitsK (takesK op) (args.map kp) = fitsP op args := by
  rw [takesN_mayB] at h
  have hm : mayB op p = true := by
    cases hq : mayB op p with
    | true => rfl
    | false => rw [hq] at h; cases h
  rw [hm] at h
  injection h with h
  have hop : op ≤ 23 := by unfold mayB at hm; split at hm <;> simp at hm <;> omega
  rcases op_cases hop with rfl | rfl | rfl | rfl | rfl | rfl | rfl | rfl | rfl | rfl | rfl | rfl | rfl | rfl | rfl | rfl | rfl | rfl | rfl | rfl | rfl | rfl | rfl | rfl <;>
  (simp [takesK] at h
   subst h
   first
   | (obtain rfl := List.eq_nil_of_length_eq_zero hl; rfl)
   | (obtain ⟨x, rfl⟩ := List.length_eq_one_iff.1 hl
      have hx := hs x (by simp)
      simp [takesK, fitsK, fitsP, kp, kind_formula, kind_path, kind_plain _ hx])
   | (obtain ⟨x, y, rfl⟩ : ∃ x y, args = [x, y] := by
        match args, hl with
        | [x, y], _ => exact ⟨x, y, rfl⟩
      simp [takesK, fitsK, fitsP, kp, kind_formula, kind_path]))
theorem madeK_putP {op p n : Nat} {args : List Pt} {i : Nat} (h : takesN (op, p) = some n) (hl : args.length = n) (hf : fitsP op args = true) (hs : ∀ x ∈ args, Sane x) : madeK ⟨putsK op, i, 1⟩ (args.map kp) = kp (putP (op, p) args i) := by
  rw [takesN_mayB] at h
  have hm : mayB op p = true := by
    cases hq : mayB op p with
    | true => rfl
    | false => rw [hq] at h; cases h
  rw [hm] at h
  injection h with h
  have hop : op ≤ 23 := by unfold mayB at hm; split at hm <;> simp at hm <;> omega
  rcases op_cases hop with rfl | rfl | rfl | rfl | rfl | rfl | rfl | rfl | rfl | rfl | rfl | rfl | rfl | rfl | rfl | rfl | rfl | rfl | rfl | rfl | rfl | rfl | rfl | rfl <;>
  (simp [takesK] at h
   subst h
   first
   | (obtain rfl := List.eq_nil_of_length_eq_zero hl; rfl)
   | (obtain ⟨x, rfl⟩ := List.length_eq_one_iff.1 hl
      obtain ⟨a, b, c, d⟩ := x
      simp [fitsP] at hf
      cases a <;> cases b <;>
      first
      | (exfalso; simp at hf; done)
      | (simp [madeK, overK, kp, kindOf, putP, putsK, isPathB, plainB]; done)
      | (simp [madeK, overK, kp, kindOf, putP, putsK, isPathB, plainB]; omega))
   | (obtain ⟨x, y, rfl⟩ : ∃ x y, args = [x, y] := by
        match args, hl with
        | [x, y], _ => exact ⟨x, y, rfl⟩
      obtain ⟨a, b, c, d⟩ := x
      obtain ⟨a', b', c', d'⟩ := y
      simp [fitsP] at hf
      cases a <;> cases b <;> cases a' <;> cases b' <;>
      first
      | (exfalso; simp at hf; done)
      | (simp [madeK, overK, kp, kindOf, putP, putsK, isPathB, plainB]; done)
      | (simp [madeK, overK, kp, kindOf, putP, putsK, isPathB, plainB]; omega)))
/-- What look tells: 0, or the error. -/
def oneK (st : List Pt) (want : Nat) : Bool := match st with | [p] => isK (kindOf p) want | _ => false
def lookOf (r : Option (List Pt × List Pt)) (want : Nat) : Nat :=
  match r with
  | some (_, [p]) => if isK (kindOf p) want then (if 64 < p.dep then 8 else 0) else 7
  | _ => 7
def lookE (ts : List Tk) (want : Nat) : Nat := if 512 < ts.length then 3 else lookOf (readP ts 0 []) want
def allP (ts : List Tk) : List Pt := match readP ts 0 [] with | some x => x.1 | none => []
/-- By trees. -/
theorem lookE_zero {ts : List Tk} {want : Nat} : lookE ts want = 0 ↔ ts.length ≤ 512 ∧ ∃ t : Tr, t.WF ∧ ts = t.flat ∧ isK (kindOf (t.part 0)) want = true ∧ (t.part 0).dep ≤ 64 := by
  constructor
  · intro h
    unfold lookE at h
    split at h
    · cases h
    · next hl =>
      refine ⟨by omega, ?_⟩
      unfold lookOf at h
      split at h
      · next all p hr =>
        obtain ⟨t, h1, h2, h3, h4⟩ := read_one.1 hr
        subst h4
        split at h
        · next hk =>
          split at h
          · cases h
          · exact ⟨t, h1, h2, hk, by omega⟩
        · cases h
      · cases h
  · rintro ⟨hl, t, hw, rfl, hk, hd⟩
    unfold lookE
    rw [if_neg (by omega), read_one.2 ⟨t, hw, rfl, rfl, rfl⟩]
    unfold lookOf
    simp only
    rw [if_pos hk, if_neg (by omega)]
theorem allP_tree {t : Tr} (h : t.WF) : allP t.flat = t.parts 0 := by
  unfold allP
  rw [read_one.2 ⟨t, h, rfl, rfl, rfl⟩]
end Go.Proofs.Ytmnkkknkmbldhaa
