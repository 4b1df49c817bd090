/- Texts of the proof, put together: what it uses. -/
import Derived.OwnWalk
import Derived.Deep.DeepCutAuto
import Derived.Lib.AppendZerosOnto
import Derived.KernelRfl
import Derived.BigQuiet
import Derived.Maps.OwnSet
import Derived.DeepKeys4
import Derived.LaidEqlPtr
import Derived.Deep.RegionLaw
import Derived.StringKeys
import Derived.Deep.RegionHeld3
import Derived.Test.YtnedkpbpeolfoaaDoorY00
import Derived.Test.YtnedkpbpeolfoaaDoorY01
namespace Go.Proofs.YtnedkpbpeolfoaaDoor
/-- May a token stand in a kernel formula? (b: is the one ahead a proposition?) -/
def fewAt (b : Bool) (op p : Nat) : Bool :=
  if op = 2 then decide (p < 8) else if op = 3 ∨ op = 9 ∨ op = 10 ∨ op = 13 ∨ op = 14 then false else if op = 6 ∧ b = false then false else decide (op ≤ 23) && decide (p = 0)
def fewL : Bool → List Tk → Bool
  | _, [] => true
  | b, k :: r => fewAt b k.1 k.2 && fewL (decide (k.1 = 2)) r
def lastP (b : Bool) (l : List Tk) : Bool := match l.getLast? with | none => b | some k => decide (k.1 = 2)
theorem lastP_snoc (b : Bool) (l : List Tk) (k : Tk) : lastP b (l ++ [k]) = decide (k.1 = 2) := by simp [lastP]
theorem lastP_cons (b : Bool) (l : List Tk) (k : Tk) : lastP b (k :: l) = lastP (decide (k.1 = 2)) l := by
  cases l with
  | nil => rfl
  | cons x l =>
    have : ∃ y, (x :: l).getLast? = some y := ⟨_, List.getLast?_eq_some_getLast (by simp)⟩
    obtain ⟨y, hy⟩ := this
    simp [lastP, List.getLast?_cons_cons, hy]
theorem fewL_app : ∀ (b : Bool) (l r : List Tk), fewL b (l ++ r) = (fewL b l && fewL (lastP b l) r)
  | b, [], r => by simp [fewL, lastP]
  | b, k :: l, r => by
    show (fewAt b k.1 k.2 && fewL _ (l ++ r)) = ((fewAt b k.1 k.2 && fewL _ l) && _)
    rw [fewL_app, lastP_cons, Bool.and_assoc]
theorem fewL_one (b : Bool) (k : Tk) : fewL b [k] = fewAt b k.1 k.2 := by simp [fewL]
def rootP : Tr → Bool
  | .leaf k => decide (k.1 = 2)
  | .un k _ => decide (k.1 = 2)
  | .bin k _ _ => decide (k.1 = 2)
theorem few_tree : ∀ T : Tr, T.WF → ∀ b, fewL b T.flat = kerT T ∧ lastP b T.flat = rootP T
  | .leaf (op, p), h, b => by
    rcases leaf_cases h with ⟨rfl, hp⟩ | ⟨rfl, rfl | rfl | rfl | rfl | rfl⟩
    · refine ⟨?_, rfl⟩
      show fewL b [(2, p)] = true
      rw [fewL_one]; simp [fewAt]; omega
    all_goals exact ⟨by show fewL b [_] = _; rw [fewL_one]; simp [fewAt, kerT], rfl⟩
  | .un (op, p) c, h, b => by
    obtain ⟨rfl, hc, hf, ho⟩ := un_cases h
    have ih := few_tree c hc b
    refine ⟨?_, by show lastP b (c.flat ++ _) = _; rw [lastP_snoc]; rfl⟩
    show fewL b (c.flat ++ [(op, 0)]) = _
    rw [fewL_app, ih.1, ih.2, fewL_one]
    rcases ho with rfl | rfl | rfl | rfl | rfl | rfl | rfl | rfl
    · match c, hc with
      | .leaf (o, q), _ => by_cases e : o = 2 <;> simp [fewAt, kerT, rootP, e]
      | .un (o, q) c, hc =>
        obtain ⟨_, _, _, ho⟩ := un_cases hc
        have e : ¬ o = 2 := by omega
        simp [fewAt, kerT, rootP, e]
      | .bin (o, q) c d, hc =>
        obtain ⟨_, _, _, _, ho⟩ := bin_cases hc
        have e : ¬ o = 2 := by omega
        simp [fewAt, kerT, rootP, e]
    all_goals simp [fewAt, kerT]
  | .bin (op, p) c d, h, b => by
    obtain ⟨rfl, hc, hd, hf, ho⟩ := bin_cases h
    have ih := few_tree c hc b
    have jh := few_tree d hd
    refine ⟨?_, by show lastP b (c.flat ++ d.flat ++ _) = _; rw [lastP_snoc]; rfl⟩
    show fewL b (c.flat ++ d.flat ++ [(op, 0)]) = _
    rw [fewL_app, fewL_app, ih.1, (jh _).1, fewL_one]
    rcases ho with rfl | rfl | rfl | rfl | rfl | rfl | rfl | rfl | rfl | rfl <;> simp [fewAt, kerT]
def kd (p : Pt) : Nat := if p.path then 2 else if p.plain then 1 else 0
def isN (k want : Nat) : Bool := decide (k = want) || (decide (k = 1) && decide (want = 0))
/-- What a token makes, and whether it may. -/
def kiMade (op : Nat) (a : List Nat) : Nat :=
  if op ≤ 2 then 1 else if op ≤ 5 then 0 else if op = 6 then 1 else if op ≤ 8 then 0 else if op = 11 ∨ op = 12 then (if a.getD 0 0 = 1 ∧ a.getD 1 0 = 1 then 1 else 0) else if op ≤ 18 then 0 else 2
def kiFit (op : Nat) (a : List Nat) : Bool :=
  if op ≤ 5 then true else if op = 6 then decide (a.getD 0 0 = 1) else if op ≤ 8 then isN (a.getD 0 0) 0 else if op ≤ 16 then isN (a.getD 0 0) 0 && isN (a.getD 1 0) 0
  else if op ≤ 18 then decide (a.getD 0 0 = 2) && isN (a.getD 1 0) 0 else if op = 19 then decide (a.getD 0 0 = 1) else if op = 20 then isN (a.getD 0 0) 0 else if op = 23 then decide (a.getD 0 0 = 2)
  else decide (a.getD 0 0 = 2) && decide (a.getD 1 0 = 2)
def takO (op : Nat) : Nat := if op ≤ 5 then 0 else if op ≤ 10 ∨ op = 19 ∨ op = 20 ∨ op = 23 then 1 else 2
theorem takO_cases (op : Nat) : (takO op = 0 ∧ op ≤ 5) ∨ (takO op = 1 ∧ 5 < op ∧ (op ≤ 10 ∨ op = 19 ∨ op = 20 ∨ op = 23)) ∨ (takO op = 2 ∧ 5 < op ∧ ¬ (op ≤ 10 ∨ op = 19 ∨ op = 20 ∨ op = 23)) := by
  unfold takO
  split
  · exact Or.inl ⟨rfl, by assumption⟩
  · split
    · exact Or.inr (Or.inl ⟨rfl, by omega, by assumption⟩)
    · exact Or.inr (Or.inr ⟨rfl, by omega, by assumption⟩)
theorem arm0 {op : Nat} (h : 0 = takO op) (n3 : op ≠ 3) : op = 0 ∨ op = 1 ∨ op = 2 ∨ op = 4 ∨ op = 5 := by rcases takO_cases op with ⟨h1, h2⟩ | ⟨h1, h2⟩ | ⟨h1, h2⟩ <;> omega
theorem arm1 {op : Nat} (h : 1 = takO op) (n6 : op ≠ 6) (n9 : op ≠ 9) (n10 : op ≠ 10) : op = 7 ∨ op = 8 ∨ op = 19 ∨ op = 20 ∨ op = 23 := by rcases takO_cases op with ⟨h1, h2⟩ | ⟨h1, h2⟩ | ⟨h1, h2⟩ <;> omega
theorem arm2 {op : Nat} (h : 2 = takO op) (h23 : op ≤ 23) (n13 : op ≠ 13) (n14 : op ≠ 14) : op = 11 ∨ op = 12 ∨ op = 15 ∨ op = 16 ∨ op = 17 ∨ op = 18 ∨ op = 21 ∨ op = 22 := by rcases takO_cases op with ⟨h1, h2⟩ | ⟨h1, h2⟩ | ⟨h1, h2⟩ <;> omega
theorem takO_le (op : Nat) : takO op ≤ 2 := by rcases takO_cases op with ⟨h1, h2⟩ | ⟨h1, h2⟩ | ⟨h1, h2⟩ <;> omega
def kiS : List Tk → List Nat → Option (List Nat)
  | [], st => some st
  | k :: r, st => if st.length < takO k.1 then none else if kiFit k.1 (st.drop (st.length - takO k.1)) = true then kiS r (st.take (st.length - takO k.1) ++ [kiMade k.1 (st.drop (st.length - takO k.1))]) else none
theorem few_takes {b : Bool} {op p : Nat} (h : fewAt b op p = true) : takesN (op, p) = some (takO op) ∧ op ≤ 23 ∧ op ≠ 3 ∧ op ≠ 9 ∧ op ≠ 10 ∧ op ≠ 13 ∧ op ≠ 14 ∧ (op = 6 → b = true) := by
  have hs : (op = 2 ∧ p < 8) ∨ (op ≠ 2 ∧ op ≤ 23 ∧ p = 0 ∧ op ≠ 3 ∧ op ≠ 9 ∧ op ≠ 10 ∧ op ≠ 13 ∧ op ≠ 14 ∧ (op = 6 → b = true)) := by
    unfold fewAt at h
    split at h
    · exact Or.inl ⟨by assumption, by simpa using h⟩
    · split at h
      · cases h
      · split at h
        · cases h
        · rename_i h1 h2 h3
          simp at h
          refine Or.inr ⟨h1, h.1, h.2, by omega, by omega, by omega, by omega, by omega, fun e => ?_⟩
          cases b with
          | true => rfl
          | false => exact absurd ⟨e, rfl⟩ h3
  have h1 : ¬ (23 < op ∨ (op ≠ 2 ∧ p ≠ 0) ∨ (op = 2 ∧ 7 < p)) := by rcases hs with ⟨h1, h2⟩ | ⟨h1, h2, h3, _⟩ <;> omega
  refine ⟨?_, by omega, ?_, ?_, ?_, ?_, ?_, ?_⟩
  · unfold takesN takO
    dsimp only
    rw [if_neg h1]
    split
    · rfl
    · split <;> rfl
  all_goals rcases hs with ⟨e1, e2⟩ | ⟨e1, e2, e3, e4, e5, e6, e7, e8, e9⟩ <;> first | assumption | omega
theorem kd_cases (p : Pt) (h : Sane p) : (kd p = 2 ∧ p.path = true ∧ p.plain = false) ∨ (kd p = 1 ∧ p.path = false ∧ p.plain = true) ∨ (kd p = 0 ∧ p.path = false ∧ p.plain = false) := by
  unfold Sane at h
  unfold kd
  cases h1 : p.path <;> cases h2 : p.plain <;> simp_all
theorem ki_one {op : Nat} {x : Pt} (h : Sane x) (ho : op = 7 ∨ op = 8 ∨ op = 19 ∨ op = 20 ∨ op = 23 ∨ (op = 6 ∧ kd x = 1)) (i p : Nat) : kiFit op [kd x] = fitsP op [x] ∧ (fitsP op [x] = true → kiMade op [kd x] = kd (putP (op, p) [x] i)) := by
  rcases kd_cases x h with ⟨e, e1, e2⟩ | ⟨e, e1, e2⟩ | ⟨e, e1, e2⟩ <;> rw [e] at ho ⊢ <;> rcases ho with rfl | rfl | rfl | rfl | rfl | ⟨rfl, h0⟩ <;> first | (exact absurd h0 (by decide)) | (simp [kiFit, kiMade, fitsP, putP, kd, isN, isPathB, plainB, e1, e2])
theorem ki_two {op : Nat} {x y : Pt} (h : Sane x) (h' : Sane y) (ho : op = 11 ∨ op = 12 ∨ op = 15 ∨ op = 16 ∨ op = 17 ∨ op = 18 ∨ op = 21 ∨ op = 22) (i p : Nat) : kiFit op [kd x, kd y] = fitsP op [x, y] ∧ (fitsP op [x, y] = true → kiMade op [kd x, kd y] = kd (putP (op, p) [x, y] i)) := by
  rcases kd_cases x h with ⟨e, e1, e2⟩ | ⟨e, e1, e2⟩ | ⟨e, e1, e2⟩ <;> rcases kd_cases y h' with ⟨f, f1, f2⟩ | ⟨f, f1, f2⟩ | ⟨f, f1, f2⟩ <;> rw [e, f] <;> rcases ho with rfl | rfl | rfl | rfl | rfl | rfl | rfl | rfl <;> simp [kiFit, kiMade, fitsP, putP, kd, isN, isPathB, plainB, e1, e2, f1, f2]
theorem ki_none {op p : Nat} (ho : op = 0 ∨ op = 1 ∨ op = 2 ∨ op = 4 ∨ op = 5) (i : Nat) : kiFit op [] = true ∧ fitsP op [] = true ∧ kiMade op [] = kd (putP (op, p) [] i) := by
  rcases ho with rfl | rfl | rfl | rfl | rfl <;> simp [kiFit, kiMade, fitsP, putP, kd, isPathB, plainB]
theorem ki_read : ∀ (l : List Tk) (b : Bool) (i : Nat) (st : List Pt), fewL b l = true → (∀ x ∈ st, Sane x) → (b = true → ∃ r x, st = r ++ [x] ∧ kd x = 1) → kiS l (st.map kd) = (readP l i st).map fun x => x.2.map kd
  | [], _, _, st, _, _, _ => rfl
  | (op, p) :: r, b, i, st, hf, hs, hb => by
    have hf' : (fewAt b op p && fewL (decide (op = 2)) r) = true := hf
    rw [Bool.and_eq_true] at hf'
    obtain ⟨hf1, hf2⟩ := hf'
    obtain ⟨ht, h23, n3, n9, n10, n13, n14, n6⟩ := few_takes hf1
    unfold kiS readP
    rw [ht]
    dsimp only
    rw [List.length_map]
    by_cases hl : st.length < takO op
    · rw [if_pos hl, if_pos hl]; rfl
    rw [if_neg hl, if_neg hl, ← List.map_drop, ← List.map_take]
    have hsd : ∀ x ∈ st.drop (st.length - takO op), Sane x := fun x hx => hs x (List.mem_of_mem_drop hx)
    have hst : ∀ x ∈ st.take (st.length - takO op), Sane x := fun x hx => hs x (List.mem_of_mem_take hx)
    have hal : (st.drop (st.length - takO op)).length = takO op := by simp; omega
    have h6 : op = 6 → ∃ x, st.drop (st.length - takO op) = [x] ∧ kd x = 1 := fun e => by
      obtain ⟨r', x, e1, e2⟩ := hb (n6 e)
      refine ⟨x, ?_, e2⟩
      subst e1 e
      exact (drop_at r' [x] 1 rfl).1
    generalize st.drop (st.length - takO op) = a at *
    generalize st.take (st.length - takO op) = rest at *
    have key : kiFit op (a.map kd) = fitsP op a ∧ (fitsP op a = true → kiMade op (a.map kd) = kd (putP (op, p) a i)) := by
      match a, hal, hsd, h6 with
      | [], hal, _, _ =>
        have := ki_none (p := p) (arm0 hal n3) i
        exact ⟨this.1.trans this.2.1.symm, fun _ => this.2.2⟩
      | [x], hal, hsd, h6 =>
        have h7 : op = 7 ∨ op = 8 ∨ op = 19 ∨ op = 20 ∨ op = 23 ∨ (op = 6 ∧ kd x = 1) := by
          by_cases e : op = 6
          · obtain ⟨y, e1, e2⟩ := h6 e
            injection e1 with e1 _
            subst e1
            exact Or.inr (Or.inr (Or.inr (Or.inr (Or.inr ⟨e, e2⟩))))
          · rcases arm1 hal e n9 n10 with e | e | e | e | e
            · exact Or.inl e
            · exact Or.inr (Or.inl e)
            · exact Or.inr (Or.inr (Or.inl e))
            · exact Or.inr (Or.inr (Or.inr (Or.inl e)))
            · exact Or.inr (Or.inr (Or.inr (Or.inr (Or.inl e))))
        exact ki_one (hsd x (by simp)) h7 i p
      | [x, y], hal, hsd, _ =>
        exact ki_two (hsd x (by simp)) (hsd y (by simp)) (arm2 hal h23 n13 n14) i p
      | _ :: _ :: _ :: _, hal, _, _ => have := takO_le op; simp at hal; omega
    rw [key.1]
    by_cases hfit : fitsP op a = true
    · rw [if_pos hfit, if_pos hfit, key.2 hfit, show rest.map kd ++ [kd (putP (op, p) a i)] = (rest ++ [putP (op, p) a i]).map kd by simp]
      rw [ki_read r _ (i + 1) (rest ++ [putP (op, p) a i]) hf2 ?_ ?_]
      · cases readP r (i + 1) (rest ++ [putP (op, p) a i]) <;> rfl
      · intro x hx
        rcases List.mem_append.1 hx with hx | hx
        · exact hst x hx
        · simp at hx; subst hx; exact putP_sane _ _ _
      · intro e
        simp at e
        subst e
        refine ⟨rest, _, rfl, ?_⟩
        match a, hal with
        | [], _ => rfl
    · rw [if_neg hfit, if_neg hfit]; rfl
/-- Is what the stack of kinds ends in one formula? -/
def kiOk (ts : List Tk) : Bool := match kiS ts [] with | some [x] => isN x 0 | _ => false
theorem isKer_iff (ts : List Tk) : IsKer ts ↔ fewL false ts = true ∧ kiOk ts = true := by
  constructor
  · rintro ⟨T, hT, hp, hk, rfl⟩
    have h1 : fewL false T.flat = true := ((few_tree T hT false).1).trans hk
    refine ⟨h1, ?_⟩
    unfold kiOk
    have := ki_read T.flat false 0 [] h1 (fun x hx => (by simp at hx)) (fun h => (by cases h))
    rw [read_one.2 ⟨T, hT, rfl, rfl, rfl⟩] at this
    rw [show kiS T.flat [] = some [kd (T.part 0)] from this]
    have hp' : (T.part 0).path = false := hp
    simp [kd, hp', isN]
  · rintro ⟨h1, h2⟩
    unfold kiOk at h2
    have := ki_read ts false 0 [] h1 (fun x hx => (by simp at hx)) (fun h => (by cases h))
    rw [show kiS ts [] = _ from this] at h2
    cases hr : readP ts 0 [] with
    | none => rw [hr] at h2; simp at h2
    | some x =>
      obtain ⟨all, st⟩ := x
      rw [hr] at h2
      match st, h2, hr with
      | [], h2, _ => simp at h2
      | [p], h2, hr =>
        obtain ⟨T, hT, rfl, rfl, rfl⟩ := read_one.1 hr
        refine ⟨T, hT, ?_, ?_, rfl⟩
        · cases hb : pathT T with
          | false => rfl
          | true =>
            unfold pathT at hb
            simp [kd, hb, isN] at h2
        · rw [← (few_tree T hT false).1]; exact h1
      | _ :: _ :: _, h2, _ => simp at h2
end Go.Proofs.YtnedkpbpeolfoaaDoor
namespace Go.Proofs.YtnedkpbpeolfoaaDoor
def mkT (k : Tk) (a : List Tr) : Tr :=
  match a with
  | [] => .leaf k
  | [c] => .un k c
  | c :: d :: _ => .bin k c d
def gStep (st : List Tr) (k : Tk) : List Tr := st.take (st.length - takC k) ++ [mkT k (st.drop (st.length - takC k))]
def gS (ts : List Tk) (st : List Tr) : List Tr := ts.foldl gStep st
theorem gS_app (a b : List Tk) (st : List Tr) : gS (a ++ b) st = gS b (gS a st) := by unfold gS; rw [List.foldl_append]
theorem gS_tree : ∀ T : Tr, T.WF → ∀ st, gS T.flat st = st ++ [T]
  | .leaf (op, p), h, st => by
    have e := tak_of h.1
    have hd := drop_at st [] 0 rfl
    rw [List.append_nil] at hd
    show gStep st (op, p) = _
    unfold gStep
    rw [e, hd.1, hd.2]; rfl
  | .un (op, p) c, h, st => by
    have e := tak_of h.1
    have hd := drop_at st [c] 1 rfl
    show gS (c.flat ++ [(op, p)]) st = _
    rw [gS_app, gS_tree c h.2.2]
    show gStep _ (op, p) = _
    unfold gStep
    rw [e, hd.1, hd.2]; rfl
  | .bin (op, p) c d, h, st => by
    have e := tak_of h.1
    have hd := drop_at st [c, d] 2 rfl
    show gS (c.flat ++ d.flat ++ [(op, p)]) st = _
    rw [gS_app, gS_app, gS_tree c h.2.2.1, gS_tree d h.2.2.2]
    show gStep _ (op, p) = _
    rw [show st ++ [c] ++ [d] = st ++ [c, d] by simp]
    unfold gStep
    rw [e, hd.1, hd.2]; rfl
theorem gS_len : ∀ (ts : List Tk) (st : List Tr) (js : List Kq), st.length = js.length → (gS ts st).length = (jS ts js).length
  | [], st, js, h => h
  | k :: ts, st, js, h => by
    show (gS ts (gStep st k)).length = (jS ts (jStep js k)).length
    refine gS_len ts _ _ ?_
    unfold gStep jStep
    simp [h]
/-- Checked tokens: what the stack of trees is like. -/
structure GGood (ts : List Tk) (T : Tr) : Prop where
  few : ts.length ≤ 2048
  ok : ∀ k (h : k < ts.length), (∃ m, takesN ts[k] = some m) ∧ takC ts[k] ≤ (gS (ts.take k) []).length
  fin : gS ts [] = [T]
theorem ggood {T : Tr} (h : T.WF) (hl : T.flat.length ≤ 2048) : GGood T.flat T := by
  obtain ⟨_, h2⟩ := j_tree T h [] (2 * wt T) (Nat.le_refl _)
  refine ⟨hl, fun k hk => ⟨(h2 k hk).tk, ?_⟩, gS_tree T h []⟩
  rw [gS_len _ [] [] rfl]
  exact (h2 k hk).le
def tn (x y : Nat) (b : Bool) : Nat := if b then y else x
end Go.Proofs.YtnedkpbpeolfoaaDoor
namespace Go.Proofs.YtnedkpbpeolfoaaDoor
/-- The tree of tokens. -/
def growT (f : List Tk) : Tr := (gS f []).getLast?.getD (.leaf (0, 0))
theorem grow_flat {T : Tr} (h : T.WF) : growT T.flat = T := by
  unfold growT
  rw [gS_tree T h []]; rfl
/-- And of what there is and what each obligation leaves. -/
def setM (n x : Nat) : List Nat → List Nat → Mt → Rt
  | [], m, M => some (m, M)
  | k :: ks, m, M => bindM (aftM n (growT (M.getD k [])) x M) fun a M1 => bindM (twoM true m a M1) fun b M2 => setM n x ks b M2
/-- Set by set. -/
def stepM (n x : Nat) : List Nat → List Nat → Mt → Rt
  | [], out, M => some (out, M)
  | s :: ss, out, M => bindM (setM n x (itemsL s) [0] M) fun m M1 => bindM (twoM false out m M1) fun o M2 => stepM n x ss o M2
theorem set_ok (n x : Nat) : ∀ (ks m : List Nat) (M M' : Mt) (L : List Nat), GoodM M → BdL m M.length → (∀ k ∈ ks, k < M.length) → setM n x ks m M = some (L, M') → Ext M L M' ∧ ∀ (t : List Nat) (i : Nat), t[i]? = some x → (LsP L (SatM t M' (i + 1)) ↔ LsP m (SatM t M (i + 1)) ∧ ∀ k ∈ ks, SatM t M i k)
  | [], m, M, M', L, hM, hm, _, h => by
    unfold setM at h
    injection h with h; injection h with h1 h2; subst h1 h2
    exact ⟨⟨List.prefix_refl _, hM, hm⟩, fun t i _ => by simp⟩
  | k :: ks, m, M, M', L, hM, hm, hk, h => by
    unfold setM at h
    obtain ⟨a, M1, ha, h2⟩ := bindM_some h
    obtain ⟨b, M2, hb, h3⟩ := bindM_some h2
    have hkl := hk k (by simp)
    have hget : M[k]? = some (M.getD k []) := by rw [List.getD_eq_getElem?_getD, List.getElem?_eq_getElem hkl]; rfl
    obtain ⟨T, hT, hf⟩ := hM.ker (M.getD k []) (List.mem_of_getElem? hget)
    rw [hf, grow_flat hT.wf] at ha
    rw [hf] at hget
    obtain ⟨e1, s1⟩ := (both_ok n).1 T x M M1 a hM hT ha
    have e := (twoM_some hb).1
    subst e
    have hbd := two_bd hb (hm.mono (pre_len e1.pre)) e1.bd
    obtain ⟨e2, s2⟩ := set_ok n x ks b _ M' L e1.good hbd (fun j hj => Nat.lt_of_lt_of_le (hk j (by simp [hj])) (pre_len e1.pre)) h3
    refine ⟨⟨e1.pre.trans e2.pre, e2.good, e2.bd⟩, fun t i hx => ?_⟩
    rw [s2 t i hx, two_ls hb, s1 t i hx, ← ls_pre e1.pre hm]
    simp only [if_true]
    have hs : ∀ j ∈ ks, (SatM t M2 i j ↔ SatM t M i j) := fun j hj => (sat_pre e1.pre (hk j (by simp [hj]))).symm
    rw [← sat_at (t := t) (i := i) hT hget]
    constructor
    · rintro ⟨⟨h1, h2⟩, h3⟩
      refine ⟨h1, fun j hj => ?_⟩
      rcases List.mem_cons.1 hj with rfl | hj
      · exact h2
      · exact (hs j hj).1 (h3 j hj)
    · rintro ⟨h1, h2⟩
      exact ⟨⟨h1, h2 k (by simp)⟩, fun j hj => (hs j hj).2 (h2 j (by simp [hj]))⟩
theorem items_all {s m : Nat} (hm : m ≤ 64) (h : ∀ k, s.testBit k = true → k < m) (P : Nat → Prop) : (∀ k ∈ itemsL s, P k) ↔ ∀ k, s.testBit k = true → P k := by
  constructor
  · intro h1 k hk
    exact h1 k (itemsL_mem.2 ⟨Nat.lt_of_lt_of_le (h k hk) hm, hk⟩)
  · intro h1 k hk
    exact h1 k (itemsL_mem.1 hk).2
theorem step_all (n x : Nat) : ∀ (l out : List Nat) (M M' : Mt) (L : List Nat), GoodM M → BdL out M.length → BdL l M.length → stepM n x l out M = some (L, M') → Ext M L M' ∧ ∀ (t : List Nat) (i : Nat), t[i]? = some x → (LsP L (SatM t M' (i + 1)) ↔ LsP out (SatM t M (i + 1)) ∨ LsP l (SatM t M i))
  | [], out, M, M', L, hM, ho, _, h => by
    unfold stepM at h
    injection h with h; injection h with h1 h2; subst h1 h2
    exact ⟨⟨List.prefix_refl _, hM, ho⟩, fun t i _ => ⟨Or.inl, fun h => h.elim id fun ⟨s, hs, _⟩ => by cases hs⟩⟩
  | s :: ss, out, M, M', L, hM, ho, hl, h => by
    unfold stepM at h
    obtain ⟨m, M1, hm, h2⟩ := bindM_some h
    obtain ⟨o, M2, hq, h3⟩ := bindM_some h2
    have hs0 := hl s (by simp)
    obtain ⟨e1, s1⟩ := set_ok n x (itemsL s) [0] M M1 m hM (bdL_yes true _) (fun k hk => hs0 k (itemsL_mem.1 hk).2) hm
    have e := (twoM_some hq).1
    subst e
    have hbd := two_bd hq (ho.mono (pre_len e1.pre)) e1.bd
    obtain ⟨e2, s2⟩ := step_all n x ss o _ M' L e1.good hbd (fun z hz k hk => Nat.lt_of_lt_of_le (hl z (by simp [hz]) k hk) (pre_len e1.pre)) h3
    refine ⟨⟨e1.pre.trans e2.pre, e2.good, e2.bd⟩, fun t i hx => ?_⟩
    have hy : LsP [0] (SatM t M (i + 1)) := (lsP_yes true _).2 rfl
    rw [s2 t i hx, two_ls hq, s1 t i hx, ← ls_pre e1.pre ho, ← ls_pre e1.pre (fun z hz => hl z (by simp [hz])), items_all hM.few hs0]
    simp only [Bool.false_eq_true, if_false]
    constructor
    · rintro ((h1 | ⟨_, h1⟩) | ⟨z, hz, h1⟩)
      · exact Or.inl h1
      · exact Or.inr ⟨s, by simp, h1⟩
      · exact Or.inr ⟨z, by simp [hz], h1⟩
    · rintro (h1 | ⟨z, hz, h1⟩)
      · exact Or.inl (Or.inl h1)
      · rcases List.mem_cons.1 hz with rfl | hz
        · exact Or.inl (Or.inr ⟨hy, h1⟩)
        · exact Or.inr ⟨z, hz, h1⟩
/-- A step says of the rest what the list said. -/
theorem step_ok {n x : Nat} {l : List Nat} {M M' : Mt} {L : List Nat} (hM : GoodM M) (hl : BdL l M.length) (h : stepM n x l [] M = some (L, M')) : Ext M L M' ∧ ∀ (t : List Nat) (i : Nat), t[i]? = some x → (LsP L (SatM t M' (i + 1)) ↔ LsP l (SatM t M i)) := by
  obtain ⟨e, s⟩ := step_all n x l [] M M' L hM (fun z hz => by cases hz) hl h
  refine ⟨e, fun t i hx => ?_⟩
  rw [s t i hx]
  exact ⟨fun h => h.elim (fun ⟨z, hz, _⟩ => by cases hz) id, Or.inr⟩
/-- What a step tells is least. -/
theorem step_least {n x : Nat} : ∀ {l out : List Nat} {M M' : Mt} {L : List Nat}, out = leastL out → stepM n x l out M = some (L, M') → L = leastL L
  | [], out, M, M', L, ho, h => by
    unfold stepM at h
    injection h with h; injection h with h1 h2; subst h1 h2
    exact ho
  | s :: ss, out, M, M', L, _, h => by
    unfold stepM at h
    obtain ⟨m, M1, _, h⟩ := bindM_some h
    obtain ⟨o, M2, hq, h⟩ := bindM_some h
    refine step_least ?_ h
    rw [(twoM_some hq).2]
    simp only [Bool.false_eq_true, if_false]
    exact (leastL_again _).symm
/-- At the end. -/
theorem sat_end (t : List Nat) (M : Mt) (k : Nat) : SatM t M t.length k ↔ SatM [] M 0 k := by
  unfold SatM
  constructor
  · rintro ⟨T, hT, h1, h2⟩
    refine ⟨T, hT, h1, ?_⟩
    have := (cut_sem t t.length (Nat.le_refl _) T hT.wf 0 (by omega)).1
    rw [List.drop_length, Nat.zero_add] at this
    exact this.2 h2
  · rintro ⟨T, hT, h1, h2⟩
    refine ⟨T, hT, h1, ?_⟩
    have := (cut_sem t t.length (Nat.le_refl _) T hT.wf 0 (by omega)).1
    rw [List.drop_length, Nat.zero_add] at this
    exact this.1 h2
/-- Is a list final? -/
def FinP (M : Mt) (l : List Nat) : Prop := LsP l (SatM [] M 0)
theorem finP_end (t : List Nat) (M : Mt) (l : List Nat) : LsP l (SatM t M t.length) ↔ FinP M l := lsP_congr fun _ _ k _ => sat_end t M k
structure At (t : List Nat) (T : Tr) (i : Nat) (l : List Nat) (M : Mt) : Prop where
  good : GoodM M
  bd : BdL l M.length
  says : LsP l (SatM t M i) ↔ (semTr t T).1 0
theorem good_nil : GoodM [] := ⟨fun f hf => (by cases hf), by simp⟩
theorem At.start {t : List Nat} {T : Tr} {l : List Nat} {M : Mt} (hT : KT T) (h : needM T [] = some (l, M)) : At t T 0 l M := by
  obtain ⟨e, s⟩ := need_ok T good_nil hT h
  exact ⟨e.good, e.bd, s t 0⟩
theorem At.step {t : List Nat} {T : Tr} {i n x : Nat} {l l' : List Nat} {M M' : Mt} (h : At t T i l M) (hx : t[i]? = some x) (hs : stepM n x l [] M = some (l', M')) : At t T (i + 1) l' M' := by
  obtain ⟨e, s⟩ := step_ok h.good h.bd hs
  exact ⟨e.good, e.bd, (s t i hx).trans h.says⟩
theorem At.fin {t : List Nat} {T : Tr} {l : List Nat} {M : Mt} (h : At t T t.length l M) : FinP M l ↔ (semTr t T).1 0 := (finP_end t M l).symm.trans h.says
end Go.Proofs.YtnedkpbpeolfoaaDoor
namespace Go.Proofs.YtnedkpbpeolfoaaDoor
/-- An answer that is told again wherever all was met. -/
def Again (g : Mt → Rt) : Prop := ∀ M L M1, g M = some (L, M1) → M <+: M1 ∧ ∀ M2, M1 <+: M2 → g M2 = some (L, M2)
theorem again_pure (l : List Nat) : Again fun M => some (l, M) := fun M L M1 h => by
  injection h with h; injection h with h1 h2; subst h1 h2
  exact ⟨List.prefix_refl _, fun M2 _ => rfl⟩
theorem again_two (and : Bool) (a b : List Nat) : Again fun M => twoM and a b M := fun M L M1 h => by
  have e := (twoM_some h).1
  subst e
  refine ⟨List.prefix_refl _, fun M2 _ => ?_⟩
  show twoM and a b M2 = _
  unfold twoM at h ⊢
  cases hq : (if and then andM a b else orM a b) with
  | none => rw [hq] at h; cases h
  | some q =>
    rw [hq] at h
    injection h with h; injection h with h1 h2
    rw [← h1]; rfl
theorem again_bind {g : Mt → Rt} {k : List Nat → Mt → Rt} (hg : Again g) (hk : ∀ l, Again (k l)) : Again fun M => bindM (g M) k := fun M L M1 h => by
  obtain ⟨a, Ma, ha, h2⟩ := bindM_some h
  obtain ⟨p1, q1⟩ := hg M a Ma ha
  obtain ⟨p2, q2⟩ := hk a Ma L M1 h2
  refine ⟨p1.trans p2, fun M2 h3 => ?_⟩
  show bindM (g M2) k = _
  rw [q1 M2 (p2.trans h3)]
  exact q2 M2 h3
theorem again_meet (f : List Tk) : Again (meetM f) := fun M L M1 h => by
  unfold meetM at h
  split at h
  · rename_i i hi
    injection h with h; injection h with h1 h2; subst h1 h2
    refine ⟨List.prefix_refl _, fun M2 hp => ?_⟩
    obtain ⟨r, rfl⟩ := hp
    unfold meetM
    rw [List.findIdx?_append, hi]; rfl
  · rename_i hi
    split at h
    · injection h with h; injection h with h1 h2; subst h1 h2
      refine ⟨List.prefix_append _ _, fun M2 hp => ?_⟩
      obtain ⟨r, rfl⟩ := hp
      unfold meetM
      rw [List.append_assoc, List.findIdx?_append, hi]
      simp [List.findIdx?_cons]
    · cases h
theorem again_need : ∀ T : Tr, Again (needM T)
  | .leaf k => by
    intro M L M1 h
    by_cases h0 : k.1 = 0
    · have e : needM (.leaf k) = fun M => some ([0], M) := by funext M; unfold needM; rw [if_pos h0]
      rw [e] at h ⊢
      exact again_pure [0] M L M1 h
    · by_cases h1 : k.1 = 1
      · have e : needM (.leaf k) = fun M => some ([], M) := by funext M; unfold needM; rw [if_neg h0, if_pos h1]
        rw [e] at h ⊢
        exact again_pure [] M L M1 h
      · have e : needM (.leaf k) = meetM (Tr.leaf k).flat := by funext M; unfold needM; rw [if_neg h0, if_neg h1]
        rw [e] at h ⊢
        exact again_meet _ M L M1 h
  | .un k c => fun M L M1 h => again_meet (Tr.un k c).flat M L M1 h
  | .bin k c d => by
    by_cases h0 : k.1 = 11 ∨ k.1 = 12
    · have e : needM (.bin k c d) = fun M => bindM (needM c M) fun a M1 => bindM (needM d M1) fun b M2 => twoM (k.1 == 11) a b M2 := by funext M; rw [needM, if_pos h0]
      rw [e]
      exact again_bind (again_need c) fun a => again_bind (again_need d) fun b => again_two _ a b
    · have e : needM (.bin k c d) = meetM (Tr.bin k c d).flat := by funext M; rw [needM, if_neg h0]
      rw [e]
      exact again_meet _
theorem again_none : Again fun _ => none := fun M L M1 h => by cases h
theorem again_both (x : Nat) : ∀ n, (∀ T, Again (aftM n T x)) ∧ (∀ box r s f, Again (pthM n box r s f x))
  | 0 => ⟨fun T => by rw [show aftM 0 T x = fun _ => none by funext M; rw [aftM_zero]]; exact again_none, fun box r s f => by rw [show pthM 0 box r s f x = fun _ => none by funext M; rw [pthM_zero]]; exact again_none⟩
  | n + 1 => by
    obtain ⟨ih, jh⟩ := again_both x n
    refine ⟨fun T => ?_, fun box r s f => ?_⟩
    · match T with
      | .leaf k =>
        rw [show aftM (n + 1) (.leaf k) x = fun M => some (yesM (if k.1 = 2 then x.testBit k.2 else k.1 == 0 || k.1 == 4), M) by funext M; rw [aftM_leaf]]
        exact again_pure _
      | .un k c =>
        by_cases h6 : k.1 = 6
        · rw [show aftM (n + 1) (.un k c) x = fun M => some (yesM (!plV x c), M) by funext M; rw [aftM_un, if_pos h6]]
          exact again_pure _
        · by_cases h7 : k.1 = 7
          · rw [show aftM (n + 1) (.un k c) x = fun M => bindM (needM (.leaf (4, 0)) M) fun a M1 => bindM (needM c M1) fun b M2 => twoM true a b M2 by funext M; rw [aftM_un, if_neg h6, if_pos h7]]
            exact again_bind (again_need _) fun a => again_bind (again_need _) fun b => again_two _ a b
          · rw [show aftM (n + 1) (.un k c) x = fun M => bindM (needM (.leaf (5, 0)) M) fun a M1 => bindM (needM c M1) fun b M2 => twoM false a b M2 by funext M; rw [aftM_un, if_neg h6, if_neg h7]]
            exact again_bind (again_need _) fun a => again_bind (again_need _) fun b => again_two _ a b
      | .bin k c d =>
        by_cases h1 : k.1 = 11 ∨ k.1 = 12
        · rw [show aftM (n + 1) (.bin k c d) x = fun M => bindM (aftM n c x M) fun a M1 => bindM (aftM n d x M1) fun b M2 => twoM (k.1 == 11) a b M2 by funext M; rw [aftM_bin, if_pos h1]]
          exact again_bind (ih c) fun a => again_bind (ih d) fun b => again_two _ a b
        · by_cases h2 : k.1 = 15 ∨ k.1 = 16
          · rw [show aftM (n + 1) (.bin k c d) x = fun M => bindM (aftM n d x M) fun b M1 => bindM (aftM n c x M1) fun a M2 => bindM (needM (.bin k c d) M2) fun u M3 => bindM (twoM (k.1 == 15) a u M3) fun v M4 => twoM (k.1 == 16) b v M4 by funext M; rw [aftM_bin, if_neg h1, if_pos h2]]
            exact again_bind (ih d) fun b => again_bind (ih c) fun a => again_bind (again_need _) fun u => again_bind (again_two _ a u) fun v => again_two _ b v
          · rw [show aftM (n + 1) (.bin k c d) x = fun M => bindM (aftM n d x M) fun s M1 => pthM n (k.1 == 18) c s d x M1 by funext M; rw [aftM_bin, if_neg h1, if_neg h2]]
            exact again_bind (ih d) fun s => jh _ c s d
    · match r with
      | .leaf k => rw [show pthM (n + 1) box (.leaf k) s f x = fun _ => none by funext M; rw [pthM_leaf]]; exact again_none
      | .un k c =>
        by_cases h1 : k.1 = 19
        · by_cases hv : plV x c = true
          · rw [show pthM (n + 1) box (.un k c) s f x = needM f by funext M; rw [pthM_un, if_pos h1, if_pos hv]]
            exact again_need f
          · rw [show pthM (n + 1) box (.un k c) s f x = fun M => some (yesM box, M) by funext M; rw [pthM_un, if_pos h1, if_neg hv]]
            exact again_pure _
        · by_cases h2 : k.1 = 20
          · rw [show pthM (n + 1) box (.un k c) s f x = fun M => bindM (aftM n (if box then (kTr c).2 else c) x M) fun a M1 => twoM (!box) a s M1 by funext M; rw [pthM_un, if_neg h1, if_pos h2]]
            exact again_bind (ih _) fun a => again_two _ a s
          · rw [show pthM (n + 1) box (.un k c) s f x = fun M => bindM (pthM n box c (yesM box) (.bin (modeO box, 0) (.un k c) f) x M) fun a M1 => twoM box s a M1 by funext M; rw [pthM_un, if_neg h1, if_neg h2]]
            exact again_bind (jh _ _ _ _) fun a => again_two _ s a
      | .bin k c d =>
        by_cases h1 : k.1 = 21
        · rw [show pthM (n + 1) box (.bin k c d) s f x = fun M => bindM (pthM n box c s f x M) fun a M1 => bindM (pthM n box d s f x M1) fun b M2 => twoM box a b M2 by funext M; rw [pthM_bin, if_pos h1]]
          exact again_bind (jh _ _ _ _) fun a => again_bind (jh _ _ _ _) fun b => again_two _ a b
        · rw [show pthM (n + 1) box (.bin k c d) s f x = fun M => bindM (pthM n box d s f x M) fun a M1 => pthM n box c a (.bin (modeO box, 0) d f) x M1 by funext M; rw [pthM_bin, if_neg h1]]
          exact again_bind (jh _ _ _ _) fun a => jh _ _ _ _
end Go.Proofs.YtnedkpbpeolfoaaDoor
namespace Go.Proofs.YtnedkpbpeolfoaaDoor
theorem get_pre {M M' : Mt} (h : M <+: M') {k : Nat} (hk : k < M.length) : M'.getD k [] = M.getD k [] := by
  rw [List.getD_eq_getElem?_getD, List.getD_eq_getElem?_getD, pre_get h hk]
/-- Of obligations that were met. -/
theorem set_again (n x : Nat) : ∀ (ks m : List Nat) (M M1 : Mt) (L : List Nat), (∀ k ∈ ks, k < M.length) → setM n x ks m M = some (L, M1) → M <+: M1 ∧ ∀ M2, M1 <+: M2 → setM n x ks m M2 = some (L, M2)
  | [], m, M, M1, L, _, h => by
    unfold setM at h
    injection h with h; injection h with h1 h2; subst h1 h2
    exact ⟨List.prefix_refl _, fun M2 _ => rfl⟩
  | k :: ks, m, M, M1, L, hk, h => by
    unfold setM at h
    obtain ⟨a, Ma, ha, h2⟩ := bindM_some h
    obtain ⟨b, Mb, hb, h3⟩ := bindM_some h2
    obtain ⟨p1, q1⟩ := (again_both x n).1 _ M a Ma ha
    obtain ⟨p2, q2⟩ := again_two true m a Ma b Mb hb
    obtain ⟨p3, q3⟩ := set_again n x ks b Mb M1 L (fun j hj => Nat.lt_of_lt_of_le (hk j (by simp [hj])) ((p1.trans p2).length_le)) h3
    refine ⟨(p1.trans p2).trans p3, fun M2 hp => ?_⟩
    unfold setM
    rw [get_pre (((p1.trans p2).trans p3).trans hp) (hk k (by simp)), q1 M2 ((p2.trans p3).trans hp)]
    show bindM (twoM true m a M2) _ = _
    rw [show twoM true m a M2 = some (b, M2) from q2 M2 (p3.trans hp)]
    exact q3 M2 hp
theorem step_again (n x : Nat) : ∀ (l out : List Nat) (M M1 : Mt) (L : List Nat), BdL l M.length → stepM n x l out M = some (L, M1) → M <+: M1 ∧ ∀ M2, M1 <+: M2 → stepM n x l out M2 = some (L, M2)
  | [], out, M, M1, L, _, h => by
    unfold stepM at h
    injection h with h; injection h with h1 h2; subst h1 h2
    exact ⟨List.prefix_refl _, fun M2 _ => rfl⟩
  | s :: ss, out, M, M1, L, hl, h => by
    unfold stepM at h
    obtain ⟨a, Ma, ha, h2⟩ := bindM_some h
    obtain ⟨b, Mb, hb, h3⟩ := bindM_some h2
    obtain ⟨p1, q1⟩ := set_again n x (itemsL s) [0] M Ma a (fun k hk => hl s (by simp) k (itemsL_mem.1 hk).2) ha
    obtain ⟨p2, q2⟩ := again_two false out a Ma b Mb hb
    obtain ⟨p3, q3⟩ := step_again n x ss b Mb M1 L (fun z hz k hk => Nat.lt_of_lt_of_le (hl z (by simp [hz]) k hk) ((p1.trans p2).length_le)) h3
    refine ⟨(p1.trans p2).trans p3, fun M2 hp => ?_⟩
    unfold stepM
    rw [q1 M2 ((p2.trans p3).trans hp)]
    show bindM (twoM false out a M2) _ = _
    rw [show twoM false out a M2 = some (b, M2) from q2 M2 (p3.trans hp)]
    exact q3 M2 hp
end Go.Proofs.YtnedkpbpeolfoaaDoor
namespace Go.Proofs.YtnedkpbpeolfoaaDoor
/-- How deep it goes at most. -/
def fuelN : Nat := 5000
theorem pk1 : needM (growT [(2, 0), (2, 1), (15, 0)]) [] = some ([1], [[(2, 0), (2, 1), (15, 0)]]) := by decide +kernel
theorem pk2 : stepM fuelN 1 [1] [] [[(2, 0), (2, 1), (15, 0)]] = some ([1], [[(2, 0), (2, 1), (15, 0)]]) := by decide +kernel
theorem pk3 : stepM fuelN 2 [1] [] [[(2, 0), (2, 1), (15, 0)]] = some ([0], [[(2, 0), (2, 1), (15, 0)]]) := by decide +kernel
theorem pk4 : stepM fuelN 0 [1] [] [[(2, 0), (2, 1), (15, 0)]] = some ([], [[(2, 0), (2, 1), (15, 0)]]) := by decide +kernel
end Go.Proofs.YtnedkpbpeolfoaaDoor
namespace Go.Proofs.YtnedkpbpeolfoaaDoor
theorem two_len {and : Bool} {a b : List Nat} {M M' : Mt} {l : List Nat} (h : twoM and a b M = some (l, M')) : l.length ≤ 1024 := by
  have h2 := (twoM_some h).2
  unfold twoM at h
  cases and with
  | true =>
    simp only [if_true] at h h2
    unfold andM at h
    split at h
    · rename_i hl
      rw [h2]
      exact Nat.le_trans (leastL_len _) (by rw [uniL_length]; exact hl)
    · cases h
  | false =>
    simp only [Bool.false_eq_true, if_false] at h h2
    unfold orM at h
    split at h
    · rename_i hl
      rw [h2]
      exact Nat.le_trans (leastL_len _) (by rw [List.length_append]; exact hl)
    · cases h
theorem meet_len {f : List Tk} {M M' : Mt} {l : List Nat} (h : meetM f M = some (l, M')) : l.length ≤ 1024 := by
  unfold meetM at h
  split at h
  · injection h with h; injection h with h1 h2; subst h1; simp
  · split at h
    · injection h with h; injection h with h1 h2; subst h1; simp
    · cases h
theorem need_len : ∀ (T : Tr) {M M' : Mt} {l : List Nat}, needM T M = some (l, M') → l.length ≤ 1024
  | .leaf k, M, M', l, h => by
    unfold needM at h
    split at h
    · injection h with h; injection h with h1 h2; subst h1; simp
    · split at h
      · injection h with h; injection h with h1 h2; subst h1; simp
      · exact meet_len h
  | .un k c, M, M', l, h => meet_len h
  | .bin k c d, M, M', l, h => by
    unfold needM at h
    split at h
    · obtain ⟨a, M1, _, h2⟩ := bindM_some h
      obtain ⟨b, M2, _, h3⟩ := bindM_some h2
      exact two_len h3
    · exact meet_len h
theorem step_len (n x : Nat) : ∀ (l out : List Nat) {M M' : Mt} {L : List Nat}, out.length ≤ 1024 → stepM n x l out M = some (L, M') → L.length ≤ 1024
  | [], out, M, M', L, ho, h => by
    unfold stepM at h
    injection h with h; injection h with h1 h2; subst h1; exact ho
  | s :: ss, out, M, M', L, _, h => by
    unfold stepM at h
    obtain ⟨m, M1, _, h2⟩ := bindM_some h
    obtain ⟨o, M2, ho, h3⟩ := bindM_some h2
    exact step_len n x ss o (two_len ho) h3
theorem lt_of_bd {l : List Nat} {m : Nat} (h : BdL l m) (hm : m ≤ 64) : ∀ x ∈ l, x < 2 ^ 64 := fun x hx =>
  Nat.lt_pow_two_of_testBit x fun i hi => by
    cases ht : x.testBit i with
    | false => rfl
    | true => have := h x hx i ht; omega
theorem At.lt {t : List Nat} {T : Tr} {i : Nat} {l : List Nat} {M : Mt} (h : At t T i l M) : ∀ x ∈ l, x < 2 ^ 64 := lt_of_bd h.bd h.good.few
/-- The formulas of two, put together. -/
theorem kt_two {a b : Tr} (ha : KT a) (hb : KT b) (op : Nat) (ho : op = 11 ∨ op = 12) : KT (.bin (op, 0) a b) := by
  refine ⟨wf_bin (by rcases ho with rfl | rfl <;> rfl) (by rcases ho with rfl | rfl <;> simp [fit2T, ha.np, hb.np]) ha.wf hb.wf, by rcases ho with rfl | rfl <;> rfl, ?_⟩
  rcases ho with rfl | rfl <;> simp [kerT, ha.kr, hb.kr]
theorem isKer_kt {ts : List Tk} (h : IsKer ts) : ∃ T, KT T ∧ ts = T.flat := by
  obtain ⟨T, h1, h2, h3, h4⟩ := h
  exact ⟨T, ⟨h1, h2, h3⟩, h4⟩
theorem chk_kt {ts : List Tk} (h : chkE ts = 0) : ts.length ≤ 2048 ∧ ∃ T, KT T ∧ ts = T.flat := by
  obtain ⟨h1, h2⟩ := chk_zero.1 h
  exact ⟨h1, isKer_kt h2⟩
end Go.Proofs.YtnedkpbpeolfoaaDoor
namespace Go.Proofs.YtnedkpbpeolfoaaDoor
open Go.RowKit Go.Maps
/-- A call that may change an object's own blocks F, and make new ones: the object lies in F' behind it. -/
structure Fr (w w' : World) (F F' : Nat → Prop) : Prop where
  os : w'.os = w.os
  tape : w'.tape = w.tape
  output : w'.output = w.output
  size : w.heap.size ≤ w'.heap.size
  keep : ∀ k, k < w.heap.size → ¬ F k → w'.heap[k]? = w.heap[k]?
  foot : ∀ k, F' k → F k ∨ w.heap.size ≤ k
theorem Fr.below {w w' : World} {F F' : Nat → Prop} {B : Nat} (h : Fr w w' F F') (hF : ∀ k, F k → B ≤ k) (hB : B ≤ w.heap.size) : Below B w w' :=
  ⟨h.os, h.tape, h.output, h.size, fun k hk => h.keep k (by omega) (fun hf => by have := hF k hf; omega)⟩
theorem Fr.ge {w w' : World} {F F' : Nat → Prop} {B : Nat} (h : Fr w w' F F') (hF : ∀ k, F k → B ≤ k) (hB : B ≤ w.heap.size) : ∀ k, F' k → B ≤ k := fun k hk => by
  rcases h.foot k hk with h1 | h1
  · exact hF k h1
  · omega
theorem Fr.out {w w' : World} {F F' : Nat → Prop} (h : Fr w w' F F') {k : Nat} (hk : ¬ F k) (hl : k < w.heap.size) : ¬ F' k := fun hf => by
  rcases h.foot k hf with h1 | h1
  · exact hk h1
  · omega
theorem Fr.tks {w w' : World} {F F' : Nat → Prop} (h : Fr w w' F F') {a : Option Addr} {len cap : Nat} {ts : List Tk} (hT : TkSl w a len cap ts) (hf : 0 < len → ∀ x, a = some x → ¬ F x.block) : TkSl w' a len cap ts := by
  by_cases hl0 : len = 0
  · have hnil : ts = [] := List.eq_nil_of_length_eq_zero (by rw [hT.hlen]; exact hl0)
    subst hnil
    exact ⟨hT.hlen, hT.hcap, hT.bd, hT.nn, fun x hx k hk => absurd hk (by simp), fun x hx k hk => absurd hk (by simp), hT.ok⟩
  have hl : 0 < len := by omega
  cases a with
  | none => exact ⟨hT.hlen, hT.hcap, hT.bd, hT.nn, fun x hx => (by cases hx), fun x hx => (by cases hx), hT.ok⟩
  | some y =>
    refine hT.keep fun p v hp hx => ?_
    have e := hx y rfl
    have hl2 := World.block_lt_of_cell? _ _ hp
    have := h.keep p.block hl2 (by rw [e]; exact hf hl y rfl)
    unfold World.cell? at hp ⊢
    rw [this]; exact hp
theorem Fr.own {w w' : World} {F F' : Nat → Prop} (h : Fr w w' F F') {base e size n : Nat} {v : Value} {xs : List Value} (ho : w.ownsRow base e size v n xs) (hf : ∀ k, v.ownBlock = some k → ¬ F k) : w'.ownsRow base e size v n xs := by
  obtain ⟨hl, ho⟩ := ho
  refine ⟨hl, ho.imp id ?_⟩
  rintro ⟨g, cap, cur, rfl, hg, hcell, r⟩
  exact ⟨g, cap, cur, rfl, hg, (h.keep g (Array.getElem?_eq_some_iff.1 hcell).1 (hf g rfl)).trans hcell, r⟩
theorem Fr.trans {w w1 w2 : World} {F F1 F2 : Nat → Prop} (h : Fr w w1 F F1) (k : Fr w1 w2 F1 F2) : Fr w w2 F F2 := by
  refine ⟨k.os.trans h.os, k.tape.trans h.tape, k.output.trans h.output, Nat.le_trans h.size k.size, fun j hj hF => ?_, fun j hj => ?_⟩
  · exact (k.keep j (Nat.lt_of_lt_of_le hj h.size) (h.out hF hj)).trans (h.keep j hj hF)
  · rcases k.foot j hj with h1 | h1
    · exact h.foot j h1
    · exact Or.inr (Nat.le_trans h.size h1)
theorem Fr.ofBelow {w w' : World} {F : Nat → Prop} (h : Below w.heap.size w w') : Fr w w' F F := ⟨h.os, h.tape, h.output, h.size, fun k hk _ => h.block k hk, fun _ hk => Or.inl hk⟩
theorem Fr.cell {w w' : World} {F F' : Nat → Prop} (h : Fr w w' F F') {p : Addr} {v : Value} (hc : w.cell? p = some v) (hf : ¬ F p.block) : w'.cell? p = some v := by
  have := h.keep p.block (World.block_lt_of_cell? _ _ hc) hf
  unfold World.cell? at hc ⊢
  rw [this]; exact hc
theorem Fr.intSl {w w' : World} {F F' : Nat → Prop} (h : Fr w w' F F') {P : Program} {T : TypeId} {q : IntKind} {a : Option Addr} {len cap : Nat} {zs : List Int} (hS : IntSl P T q w a len cap zs) (hf : ∀ k, k < len → ¬ F (adOf a k).block) : IntSl P T q w' a len cap zs :=
  ⟨hS.hlen, hS.hcap, hS.bd, hS.idx, fun k hk => h.cell (hS.cell k hk) (hf k hk), fun k hk => Nat.lt_of_lt_of_le (hS.blk k hk) h.size, hS.nn⟩
end Go.Proofs.YtnedkpbpeolfoaaDoor
namespace Go.Proofs.YtnedkpbpeolfoaaDoor
open Go.RowKit Go.Maps
theorem Tryd.true_new (w : World) : Calls Tryd.prog 31 #[] w (LRN [0] w) := by
  have HU : Hid _ := Tryd.set_lit [0] w (by decide)
  have HB : Hid _ := below_new w (.cells ((iU [0]).map (Value.int .u64)).toArray 60)
  go_enter Tryd.func31, Tryd.ntmps31
  go_wp2
  go_ret
  exact ⟨_, _, rfl, HU.out, HB.out, fun k _ => by simp [adOf, add_plain]⟩
end Go.Proofs.YtnedkpbpeolfoaaDoor
namespace Go.Proofs.YtnedkpbpeolfoaaDoor
open Go.RowKit Go.Maps
/-- Block g is a row of just these numbers. -/
def RowI (w : World) (e : TypeId) (g : Nat) (cur : List Int) : Prop := w.heap[g]? = some (.cells (cur.map (Value.int .i64)).toArray e (0, 0))
theorem RowI.owns {w : World} {e : TypeId} {g base n : Nat} {cur : List Int} (h : RowI w e g cur) (hb : base ≤ g) (hl : cur.length = n) (hm : n ≤ maxLen) : w.ownsRow base e 1 (.slice (some ⟨g, 0, none⟩) n n) n (cur.map (Value.int .i64)) :=
  ⟨by simp [hl], Or.inr ⟨g, n, _, rfl, hb, h, Nat.le_refl _, hm, by simp [hl], by rw [Nat.mul_one, List.take_of_length_le (by simp [hl])]⟩⟩
theorem Tryd.sizeInt : (Tryd.prog.info? 3).map (·.size) = some 1 := by kernel_rfl
end Go.Proofs.YtnedkpbpeolfoaaDoor
namespace Go.Proofs.YtnedkpbpeolfoaaDoor
open Go.RowKit Go.Maps
theorem blk_tk {w : World} {g : Nat} {t : TypeId} {a b : Nat} (h : Blk w g t a b) (ha : a < 256) (hb : b < 256) : TkSl w (some ⟨g, 0, none⟩) 1 1 [(a, b)] := by
  refine ⟨rfl, Nat.le_refl _, by decide, fun hn => (nomatch hn), fun x hx k hk => ?_, fun x hx k hk => ?_, fun t ht => ?_⟩
  · injection hx with hx; subst hx
    obtain rfl : k = 0 := by simpa using hk
    exact h.c0
  · injection hx with hx; subst hx
    obtain rfl : k = 0 := by simpa using hk
    exact h.c1
  · rw [List.mem_singleton.1 ht]; exact ⟨ha, hb⟩
end Go.Proofs.YtnedkpbpeolfoaaDoor
namespace Go.Proofs.YtnedkpbpeolfoaaDoor
open Go.RowKit Go.Maps
/-- A list of letters, wherever it lies. -/
structure LtSl (w : World) (a : Option Addr) (len cap : Nat) (zs : List Int) : Prop where
  sl : IntSl Tryd.prog 45 .u8 w a len cap zs
  ok : ∀ z ∈ zs, 0 ≤ z ∧ z < 256
theorem LtSl.up {w w' : World} {a : Option Addr} {len cap : Nat} {zs : List Int} (h : LtSl w a len cap zs) (hb : Below w.heap.size w w') : LtSl w' a len cap zs := ⟨h.sl.up hb, h.ok⟩
def zN (zs : List Int) : List Nat := zs.map Int.toNat
theorem zN_len (zs : List Int) : (zN zs).length = zs.length := by simp [zN]
end Go.Proofs.YtnedkpbpeolfoaaDoor
namespace Go.Proofs.YtnedkpbpeolfoaaDoor
open Go.RowKit Go.Maps
theorem ownI_sl {P : Program} {T e : TypeId} {w : World} {base n : Nat} {v : Value} {zs : List Int} (h : w.ownsRow base e 1 v n (zs.map (Value.int .i64))) (hu : P.underlying T = some (.slice e)) (hs : (P.info? e).map (·.size) = some 1) :
    ∃ a cap, v = .slice a n cap ∧ IntSl P T .i64 w a n cap zs ∧ (∀ k, k < n → base ≤ (adOf a k).block) ∧ ∀ x, a = some x → x.block < w.heap.size := by
  obtain ⟨hl, h⟩ := h
  simp at hl
  rcases h with ⟨rfl, rfl⟩ | ⟨g, cap, cur, rfl, hg, hcell, hnc, hcm, hsz, htk⟩
  · have : zs = [] := List.eq_nil_of_length_eq_zero hl
    subst this
    exact ⟨none, 0, rfl, ⟨rfl, Nat.le_refl _, Nat.zero_le _, fun m k w hk hm => absurd hk (by omega), fun k hk => absurd hk (by omega), fun k hk => absurd hk (by omega), fun _ => rfl⟩, fun k hk => absurd hk (by omega), fun x hx => by cases hx⟩
  · have had : ∀ k, adOf (some ⟨g, 0, none⟩) k = ⟨g, k, none⟩ := fun k => by simp [adOf, add_plain]
    have hlt : g < w.heap.size := (Array.getElem?_eq_some_iff.1 hcell).1
    refine ⟨some ⟨g, 0, none⟩, cap, rfl, ⟨hl, hnc, hcm, fun m k w hk hm => idx_of hu hs (by simp) k w hk, fun k hk => ?_, fun k hk => by rw [had]; exact hlt, by simp⟩, fun k hk => by rw [had]; exact hg, fun x hx => by injection hx with hx; rw [← hx]; exact hlt⟩
    rw [had]
    have hk2 : (cur.toList.take (n * 1))[k]? = some (.int .i64 (zs.getD k 0)) := by
      rw [htk]; simp [List.getD_eq_getElem?_getD, List.getElem?_eq_getElem (show k < zs.length by omega)]
    rw [List.getElem?_take, if_pos (by omega)] at hk2
    simp [World.cell?, hcell]
    simpa using hk2
end Go.Proofs.YtnedkpbpeolfoaaDoor
namespace Go.Proofs.YtnedkpbpeolfoaaDoor
open Go.RowKit Go.Maps
def tokOf (z : Int) : Tk := if z < 100 then (2, z.toNat) else ((z - 100).toNat, 0)
theorem tokOf_ok {z : Int} (h0 : 0 ≤ z) (h1 : z < 356) : (tokOf z).1 < 256 ∧ (tokOf z).2 < 256 := by
  unfold tokOf; split
  · exact ⟨by dsimp only; omega, by dsimp only; omega⟩
  · exact ⟨by dsimp only; omega, by dsimp only; omega⟩
theorem Tryd.op_any (op : Nat) (w : World) (h : op < 256) :
    Calls Tryd.prog 43 #[.int .u8 (op : Int)] w fun e w' => e = .returned (.int .i64 (100 + (op : Int))) ∧ w' = w := by
  have h1 : IntKind.i64.wrap (op : Int) = (op : Int) := by rw [IntKind.wrap_i64]; omega
  have h2 : IntKind.i64.wrap (100 + (op : Int)) = 100 + (op : Int) := by rw [IntKind.wrap_i64]; omega
  go_enter Tryd.func43, Tryd.ntmps43
  go_wp2
  go_ret
  exact ⟨rfl, rfl⟩
set_option maxHeartbeats 1000000 in
theorem Tryd.t_any (a : Option Addr) (len cap : Nat) (zs : List Int) (w : World) (hS : IntSl Tryd.prog 31 .i64 w a len cap zs) (hz : ∀ z ∈ zs, 0 ≤ z ∧ z < 356) (hl : len ≤ 1000) :
    Calls Tryd.prog 42 #[.slice a len cap] w fun e w' => ∃ v, e = .returned v ∧ w'.ownsRow w.heap.size 49 2 v (zs.map tokOf).length (encT (zs.map tokOf)) ∧ Below w.heap.size w w' := by
  have hlen := hS.hlen
  go_enter Tryd.func42, Tryd.ntmps42
  go_wp2
  go_loopw [3, 4] (fun v j wr => ∃ k : Nat, k ≤ len ∧ j = .int .i64 k ∧ Hid (wr.ownsRow w.heap.size 49 2 v ((zs.take k).map tokOf).length (encT ((zs.take k).map tokOf))) ∧ Hid (Below w.heap.size w wr)) (fun _ j _ => len - (intOf j).toNat)
  case atStart => exact ⟨0, Nat.zero_le _, rfl, ⟨rfl, Or.inl ⟨rfl, rfl⟩⟩, Below.refl _ _⟩
  case round =>
    obtain ⟨k, hk, rfl, HO, hbk⟩ := hrel
    by_cases hlt : k < len
    · have hkl : k < zs.length := by omega
      have hSk := hS.up hbk.out
      have hidx := fun w' => hSk.idx len k w' hlt (Nat.le_refl _)
      have hc := hSk.cell k hlt
      have hg : zs.getD k 0 = zs[k] := by simp [List.getD_eq_getElem?_getD, List.getElem?_eq_getElem hkl]
      have hzz := hz zs[k] (List.getElem_mem hkl)
      rw [hg] at hc
      have HN : Hid ((zs.take (k + 1)).map tokOf = (zs.take k).map tokOf ++ [tokOf zs[k]]) := by
        show _ = _
        rw [List.take_add_one, List.getElem?_eq_getElem hkl, List.map_append]; rfl
      have hlk : ((zs.take k).map tokOf).length ≤ 1000 := by simp; omega
      have hsz := hbk.out.size
      have hlt2 := World.ownsRow.lt HO.out
      clear hg hSk
      generalize (zs.take k).map tokOf = J at *
      generalize zs[k] = z at *
      by_cases h100 : z < 100
      · have hto : tokOf z = (2, z.toNat) := by unfold tokOf; rw [if_pos h100]
        obtain ⟨n, rfl⟩ : ∃ n : Nat, z = (n : Int) := ⟨z.toNat, by omega⟩
        have hw8 : IntKind.u8.wrap (n : Int) = (n : Int) := by rw [IntKind.wrap_u8]; omega
        rw [hto, Int.toNat_natCast] at HN
        have HB : Hid (Blk _ _ _ _ _) := Blk.new wr 49 2 n
        have HO1 : Hid (World.ownsRow _ _ _ _ _ _ _) := World.ownsRow.alloc HO.out (.cells #[.int .u8 ((2 : Nat) : Int), .int .u8 (n : Int)] 49)
        have HTK : Hid (TkSl _ _ _ _ _) := blk_tk HB.out (by decide) (by omega)
        go_wp2_with (at_builtin; refine Tryd.append_tks rfl _ _ rfl w.heap.size _ J [(2, n)] _ 1 1 rfl rfl HO1.out HTK.out (by omega) (by simp) (by simp; omega) ?_)
        intro v3 w3 hown3 hgr3
        have HO3 : Hid (w3.ownsRow w.heap.size 49 2 v3 (J ++ [(2, n)]).length (encT (J ++ [(2, n)]))) := by rw [List.length_append]; exact hown3
        have hb3 : Hid (Below w.heap.size w w3) := (hbk.out.alloc hsz _).grown hgr3 (by simp; omega) (fun j e => (hlt2 j e).1)
        clear hown3 hgr3
        go_wp2
        go_roundw
        case rel => exact ⟨k + 1, by omega, by go_num, by rw [HN.out]; exact HO3, hb3⟩
        case measure => simp [intOf]; omega
      · have hto : tokOf z = ((z - 100).toNat, 0) := by unfold tokOf; rw [if_neg h100]
        obtain ⟨n, rfl⟩ : ∃ n : Nat, z = (n : Int) + 100 := ⟨(z - 100).toNat, by omega⟩
        have e1 : ((n : Int) + 100 - 100).toNat = n := by omega
        have hw8 : IntKind.u8.wrap (n : Int) = (n : Int) := by rw [IntKind.wrap_u8]; omega
        have hws : IntKind.i64.wrap ((n : Int) + 100 - 100) = (n : Int) := by rw [IntKind.wrap_i64]; omega
        rw [hto, e1] at HN
        clear e1
        have HB : Hid (Blk _ _ _ _ _) := Blk.new wr 49 n 0
        have HO1 : Hid (World.ownsRow _ _ _ _ _ _ _) := World.ownsRow.alloc HO.out (.cells #[.int .u8 (n : Int), .int .u8 ((0 : Nat) : Int)] 49)
        have HTK : Hid (TkSl _ _ _ _ _) := blk_tk HB.out (by omega) (by decide)
        go_wp2_with (at_builtin; refine Tryd.append_tks rfl _ _ rfl w.heap.size _ J [(n, 0)] _ 1 1 rfl rfl HO1.out HTK.out (by omega) (by simp) (by simp; omega) ?_)
        intro v3 w3 hown3 hgr3
        have HO3 : Hid (w3.ownsRow w.heap.size 49 2 v3 (J ++ [(n, 0)]).length (encT (J ++ [(n, 0)]))) := by rw [List.length_append]; exact hown3
        have hb3 : Hid (Below w.heap.size w w3) := (hbk.out.alloc hsz _).grown hgr3 (by simp; omega) (fun j e => (hlt2 j e).1)
        clear hown3 hgr3
        go_wp2
        go_roundw
        case rel => exact ⟨k + 1, by omega, by go_num, by rw [HN.out]; exact HO3, hb3⟩
        case measure => simp [intOf]; omega
    · obtain rfl : k = len := by omega
      have HF : Hid (wr.ownsRow w.heap.size 49 2 u3 (zs.map tokOf).length (encT (zs.map tokOf))) := by
        have h := HO.out
        rw [List.take_of_length_le (by omega)] at h; exact h
      go_wp2
      go_ret
      exact ⟨u3, rfl, HF.out, hbk.out⟩
end Go.Proofs.YtnedkpbpeolfoaaDoor
namespace Go.Proofs.YtnedkpbpeolfoaaDoor
open Go.RowKit Go.Maps
theorem chk_form {ts : List Tk} (hl : ts.length ≤ 2048) (h : ¬ IsKer ts) : chkE ts = 7 := by
  unfold chkE
  rw [if_neg (by omega), if_neg h]
def ChkC (F : FuncId) : Prop := ∀ (a : Option Addr) (len cap : Nat) (ts : List Tk) (w : World), TkSl w a len cap ts → Calls Tryd.prog F #[.slice a len cap] w fun e w' => e = .returned (.int .i64 (chkE ts : Int)) ∧ Below w.heap.size w w'
theorem Tryd.kint_lit (zs : List Int) (w : World) (hl : zs.length ≤ 20) : IntSl Tryd.prog 31 .i64 (w.alloc (.cells (zs.map (Value.int .i64)).toArray 3)) (some ⟨w.heap.size, 0, none⟩) zs.length zs.length zs := by
  have h1 : (w.alloc (.cells (zs.map (Value.int .i64)).toArray 3)).ownsRow w.heap.size 3 1 (.slice (some ⟨w.heap.size, 0, none⟩) zs.length zs.length) zs.length (zs.map (Value.int .i64)) := RowI.owns (cur := zs) (MapKept.heap_alloc w _).1 (Nat.le_refl _) rfl (by unfold maxLen; omega)
  obtain ⟨a, cap, h2, h3, _⟩ := ownI_sl h1 Tryd.underlying31 Tryd.sizeInt
  injection h2 with h2 _ h4
  rw [← h2, ← h4] at h3
  exact h3
end Go.Proofs.YtnedkpbpeolfoaaDoor
namespace Go.Proofs.YtnedkpbpeolfoaaDoor
open Go.RowKit Go.Maps
/-- A prog in memory: its blocks, where it lies, what was to do at the beginning, what was met. -/
abbrev PrgP := World → (Nat → Prop) → Nat → List Nat → Mt → Prop
def pgV (p : Nat) : Value := .pointer (some ⟨p, 0, none⟩)
/-- A list of sets that is none of an object's blocks. -/
structure US (w : World) (F : Nat → Prop) (a : Option Addr) (n c : Nat) (l : List Nat) : Prop where
  sl : USl w a n c l
  nf : ∀ k, k < n → ¬ F (adOf a k).block
/-- What is asked of the landed package prog. -/
structure ProgC (Prg : PrgP) : Prop where
  lt : ∀ {w F p l0 M}, Prg w F p l0 M → ∀ k, F k → k < w.heap.size
  up : ∀ {w w' F p l0 M}, Prg w F p l0 M → Below w.heap.size w w' → Prg w' F p l0 M
  new : ∀ (a : Option Addr) (len cap : Nat) (ts : List Tk) (w : World), TkSl w a len cap ts → Tab64 w → Calls Tryd.prog 24 #[.slice a len cap] w fun e w' => Below w.heap.size w w' ∧
    ((chkE ts ≠ 0 ∧ e = .returned (.tuple #[.pointer none, .int .i64 (chkE ts : Int)])) ∨
      ∃ T, KT T ∧ ts = T.flat ∧ chkE ts = 0 ∧ ((needM T [] = none ∧ e = .returned (.tuple #[.pointer none, .int .i64 9])) ∨
        ∃ l0 M p F, needM T [] = some (l0, M) ∧ e = .returned (.tuple #[pgV p, .int .i64 0]) ∧ Prg w' F p l0 M ∧ ∀ k, F k → w.heap.size ≤ k))
  start : ∀ {w F p l0 M}, Prg w F p l0 M → Calls Tryd.prog 6 #[pgV p] w fun e w' => ∃ a c F', e = .returned (.slice a l0.length c) ∧ US w' F' a l0.length c l0 ∧ Prg w' F' p l0 M ∧ Fr w w' F F'
  step : ∀ {w F p l0 M} (a : Option Addr) (n c : Nat) (l : List Nat) (x : Nat), Prg w F p l0 M → Tab64 w → US w F a n c l → Sm l → n ≤ 1024 → BdL l M.length → x < 256 →
    Calls Tryd.prog 5 #[pgV p, .slice a n c, .int .u8 (x : Int)] w fun e w' => ∃ F', Fr w w' F F' ∧
      ((∃ q d, stepM fuelN x l [] M = none ∧ e = .returned (.tuple #[.slice q 0 d, .int .i64 9]) ∧ US w' F' q 0 d [] ∧ Prg w' F' p l0 M) ∨
        ∃ L M' q d, stepM fuelN x l [] M = some (L, M') ∧ e = .returned (.tuple #[.slice q L.length d, .int .i64 0]) ∧ US w' F' q L.length d L ∧ Prg w' F' p l0 M')
  arg : ∀ {w F p l0 M} (a : Option Addr) (n c : Nat) (l : List Nat) (x : Nat), Prg w F p l0 M → US w F a n c l → Sm l → n ≤ 1024 → ¬ BdL l M.length → x < 256 →
    Calls Tryd.prog 5 #[pgV p, .slice a n c, .int .u8 (x : Int)] w fun e w' => ∃ F' q d, e = .returned (.tuple #[.slice q 0 d, .int .i64 2]) ∧ US w' F' q 0 d [] ∧ Prg w' F' p l0 M ∧ Fr w w' F F'
  fin : ∀ {w F p l0 M} (a : Option Addr) (n c : Nat) (l : List Nat), Prg w F p l0 M → Tab64 w → US w F a n c l → Sm l → n ≤ 1024 →
    Calls Tryd.prog 8 #[pgV p, .slice a n c] w fun e w' => ∃ b F', e = .returned (.bool b) ∧ (b = true ↔ FinP M l) ∧ Prg w' F' p l0 M ∧ Fr w w' F F'
/-- A prog made since a world. -/
structure PS (Prg : PrgP) (w0 wr : World) (F : Nat → Prop) (p : Nat) (l0 : List Nat) (M : Mt) : Prop where
  prg : Prg wr F p l0 M
  ge : ∀ k, F k → w0.heap.size ≤ k
  bel : Below w0.heap.size w0 wr
theorem PS.fr {Prg : PrgP} {w0 wr w' : World} {F F' : Nat → Prop} {p : Nat} {l0 : List Nat} {M M' : Mt} (h : PS Prg w0 wr F p l0 M) (hP : Prg w' F' p l0 M') (fr : Fr wr w' F F') : PS Prg w0 w' F' p l0 M' :=
  ⟨hP, fr.ge h.ge h.bel.size, h.bel.trans (fr.below h.ge h.bel.size)⟩
theorem PS.up {Prg : PrgP} (C : ProgC Prg) {w0 wr w' : World} {F : Nat → Prop} {p : Nat} {l0 : List Nat} {M : Mt} (h : PS Prg w0 wr F p l0 M) (hb : Below wr.heap.size wr w') : PS Prg w0 w' F p l0 M := ⟨C.up h.prg hb, h.ge, below_step h.bel hb⟩
theorem US.fr {w w' : World} {F F' : Nat → Prop} {a : Option Addr} {n c : Nat} {l : List Nat} (h : US w F a n c l) (fr : Fr w w' F F') : US w' F' a n c l := ⟨fr.intSl h.sl h.nf, fun k hk => fr.out (h.nf k hk) (h.sl.blk k hk)⟩
theorem US.up {w w' : World} {F : Nat → Prop} {a : Option Addr} {n c : Nat} {l : List Nat} (h : US w F a n c l) (hb : Below w.heap.size w w') : US w' F a n c l := ⟨h.sl.up hb, h.nf⟩
/-- Numbers of a prog's own world stay. -/
theorem nil_us (w : World) (F : Nat → Prop) : US w F none 0 0 [] := ⟨usl_nil, fun k hk => absurd hk (by omega)⟩
end Go.Proofs.YtnedkpbpeolfoaaDoor
namespace Go.Proofs.YtnedkpbpeolfoaaDoor
/-- An item: its token, the numbers of what it takes (-1: there is none). -/
structure It where
  op : Nat
  p : Nat
  a : Int
  b : Int
deriving DecidableEq
def itemOf (k : Tk) (args : List Nat) : It := match args with
  | [] => ⟨k.1, k.2, -1, -1⟩
  | [x] => ⟨k.1, k.2, (x : Int), -1⟩
  | x :: y :: _ => ⟨k.1, k.2, (x : Int), (y : Int)⟩
/-- An item's number, or a new one behind all others. -/
def addI (items : List It) (x : It) : List It × Nat := match items.findIdx? (· = x) with
  | some j => (items, j)
  | none => (items ++ [x], items.length)
theorem addI_cases (items : List It) (x : It) : (∃ j, addI items x = (items, j) ∧ items[j]? = some x) ∨ (addI items x = (items ++ [x], items.length) ∧ x ∉ items) := by
  unfold addI
  cases h : items.findIdx? (· = x) with
  | none =>
    refine Or.inr ⟨rfl, fun hx => ?_⟩
    have := List.findIdx?_eq_none_iff.1 h x hx
    simp at this
  | some j =>
    refine Or.inl ⟨j, rfl, ?_⟩
    obtain ⟨hj, h1, _⟩ := List.findIdx?_eq_some_iff_getElem.1 h
    rw [List.getElem?_eq_getElem hj]
    simpa using h1
/-- A tree is kept, part by part. -/
def insT (items : List It) : Tr → List It × Nat
  | .leaf k => addI items (itemOf k [])
  | .un k c => addI (insT items c).1 (itemOf k [(insT items c).2])
  | .bin k c d => addI (insT (insT items c).1 d).1 (itemOf k [(insT items c).2, (insT (insT items c).1 d).2])
/-- An item's number is a tree's. -/
inductive Rep (items : List It) : Nat → Tr → Prop where
  | leaf {n : Nat} {k : Tk} : items[n]? = some (itemOf k []) → Rep items n (.leaf k)
  | un {n m : Nat} {k : Tk} {c : Tr} : items[n]? = some (itemOf k [m]) → m < n → Rep items m c → Rep items n (.un k c)
  | bin {n m l : Nat} {k : Tk} {c d : Tr} : items[n]? = some (itemOf k [m, l]) → m < n → l < n → Rep items m c → Rep items l d → Rep items n (.bin k c d)
theorem Rep.lt {items : List It} {n : Nat} {T : Tr} (h : Rep items n T) : n < items.length := by
  cases h with
  | leaf h => exact (List.getElem?_eq_some_iff.1 h).1
  | un h _ _ => exact (List.getElem?_eq_some_iff.1 h).1
  | bin h _ _ _ _ => exact (List.getElem?_eq_some_iff.1 h).1
theorem get_more {items : List It} {n : Nat} {x : It} (l : List It) (h : items[n]? = some x) : (items ++ l)[n]? = some x := by
  rw [List.getElem?_append_left (List.getElem?_eq_some_iff.1 h).1]; exact h
theorem Rep.more {items : List It} (l : List It) {n : Nat} {T : Tr} (h : Rep items n T) : Rep (items ++ l) n T := by
  induction h with
  | leaf h => exact .leaf (get_more l h)
  | un h h1 _ ih => exact .un (get_more l h) h1 ih
  | bin h h1 h2 _ _ ih jh => exact .bin (get_more l h) h1 h2 ih jh
theorem itemOf_k {k k' : Tk} {a a' : List Nat} (h : itemOf k a = itemOf k' a') : k = k' ∧ a.take 2 = a'.take 2 := by
  obtain ⟨k1, k2⟩ := k
  obtain ⟨k1', k2'⟩ := k'
  have ho : k1 = k1' ∧ k2 = k2' ∧ (itemOf (k1, k2) a).a = (itemOf (k1', k2') a').a ∧ (itemOf (k1, k2) a).b = (itemOf (k1', k2') a').b := by
    refine ⟨?_, ?_, by rw [h], by rw [h]⟩
    · have := congrArg It.op h
      match a, a' with
      | [], [] => exact this
      | [], [_] => exact this
      | [], _ :: _ :: _ => exact this
      | [_], [] => exact this
      | [_], [_] => exact this
      | [_], _ :: _ :: _ => exact this
      | _ :: _ :: _, [] => exact this
      | _ :: _ :: _, [_] => exact this
      | _ :: _ :: _, _ :: _ :: _ => exact this
    · have := congrArg It.p h
      match a, a' with
      | [], [] => exact this
      | [], [_] => exact this
      | [], _ :: _ :: _ => exact this
      | [_], [] => exact this
      | [_], [_] => exact this
      | [_], _ :: _ :: _ => exact this
      | _ :: _ :: _, [] => exact this
      | _ :: _ :: _, [_] => exact this
      | _ :: _ :: _, _ :: _ :: _ => exact this
  obtain ⟨rfl, rfl, ha, hb⟩ := ho
  refine ⟨rfl, ?_⟩
  match a, a', ha, hb with
  | [], [], _, _ => rfl
  | [], [y], ha, _ => exact absurd (show (-1 : Int) = (y : Int) from ha) (by omega)
  | [], y :: _ :: _, ha, _ => exact absurd (show (-1 : Int) = (y : Int) from ha) (by omega)
  | [x], [], ha, _ => exact absurd (show (x : Int) = -1 from ha) (by omega)
  | [x], [y], ha, _ =>
    have : (x : Int) = (y : Int) := ha
    have e : x = y := by omega
    rw [e]
  | [x], _ :: z :: _, _, hb => exact absurd (show (-1 : Int) = (z : Int) from hb) (by omega)
  | x :: _ :: _, [], ha, _ => exact absurd (show (x : Int) = -1 from ha) (by omega)
  | _ :: z :: _, [_], _, hb => exact absurd (show (z : Int) = -1 from hb) (by omega)
  | x :: z :: _, y :: t :: _, ha, hb =>
    have h1 : (x : Int) = (y : Int) := ha
    have h2 : (z : Int) = (t : Int) := hb
    have e1 : x = y := by omega
    have e2 : z = t := by omega
    subst e1 e2
    simp
/-- A number is one tree's. -/
theorem Rep.tree {items : List It} : ∀ {T T' : Tr} {n : Nat}, Rep items n T → Rep items n T' → T = T'
  | .leaf k, T', n, .leaf h, h' => by
    cases h' with
    | leaf h2 => rw [h] at h2; injection h2 with h2; rw [(itemOf_k h2).1]
    | un h2 _ _ => rw [h] at h2; injection h2 with h2; have := (itemOf_k h2).2; simp at this
    | bin h2 _ _ _ _ => rw [h] at h2; injection h2 with h2; have := (itemOf_k h2).2; simp at this
  | .un k c, T', n, .un h _ hc, h' => by
    cases h' with
    | leaf h2 => rw [h] at h2; injection h2 with h2; have := (itemOf_k h2).2; simp at this
    | un h2 _ hc2 =>
      rw [h] at h2; injection h2 with h2
      have := itemOf_k h2
      simp at this
      obtain ⟨e1, e2⟩ := this
      subst e1 e2
      rw [Rep.tree hc hc2]
    | bin h2 _ _ _ _ => rw [h] at h2; injection h2 with h2; have := (itemOf_k h2).2; simp at this
  | .bin k c d, T', n, .bin h _ _ hc hd, h' => by
    cases h' with
    | leaf h2 => rw [h] at h2; injection h2 with h2; have := (itemOf_k h2).2; simp at this
    | un h2 _ _ => rw [h] at h2; injection h2 with h2; have := (itemOf_k h2).2; simp at this
    | bin h2 _ _ hc2 hd2 =>
      rw [h] at h2; injection h2 with h2
      have := itemOf_k h2
      simp at this
      obtain ⟨e1, e2, e3⟩ := this
      subst e1 e2 e3
      rw [Rep.tree hc hc2, Rep.tree hd hd2]
theorem nodup_at {items : List It} (hn : items.Nodup) {i j : Nat} {x : It} (h : items[i]? = some x) (h' : items[j]? = some x) : i = j := by
  obtain ⟨hi, e1⟩ := List.getElem?_eq_some_iff.1 h
  obtain ⟨hj, e2⟩ := List.getElem?_eq_some_iff.1 h'
  exact (List.getElem_inj hn).1 (e1.trans e2.symm)
/-- A tree has one number. -/
theorem Rep.num {items : List It} (hn : items.Nodup) : ∀ {T : Tr} {n m : Nat}, Rep items n T → Rep items m T → n = m
  | .leaf k, n, m, .leaf h, .leaf h' => nodup_at hn h h'
  | .un k c, n, m, .un h _ hc, .un h' _ hc' => by
    have e := Rep.num hn hc hc'
    subst e
    exact nodup_at hn h h'
  | .bin k c d, n, m, .bin h _ _ hc hd, .bin h' _ _ hc' hd' => by
    have e := Rep.num hn hc hc'
    have e' := Rep.num hn hd hd'
    subst e e'
    exact nodup_at hn h h'
theorem addI_pre (items : List It) (x : It) : ∃ l, (addI items x).1 = items ++ l ∧ l.length ≤ 1 := by
  rcases addI_cases items x with ⟨j, e, _⟩ | ⟨e, _⟩
  · exact ⟨[], by rw [e, List.append_nil], by simp⟩
  · exact ⟨[x], by rw [e], by simp⟩
theorem addI_at (items : List It) (x : It) : (addI items x).1[(addI items x).2]? = some x := by
  rcases addI_cases items x with ⟨j, e, h⟩ | ⟨e, _⟩
  · rw [e]; exact h
  · rw [e]; simp
theorem addI_nodup {items : List It} (hn : items.Nodup) (x : It) : (addI items x).1.Nodup := by
  rcases addI_cases items x with ⟨j, e, h⟩ | ⟨e, hx⟩
  · rw [e]; exact hn
  · rw [e]; exact List.nodup_append.2 ⟨hn, by simp, fun a ha b hb => by simp at hb; subst hb; exact fun e => hx (e ▸ ha)⟩
/-- Each item takes items of lesser numbers. -/
def Low (items : List It) : Prop := ∀ (n : Nat) (x : It), items[n]? = some x → x.a < (n : Int) ∧ x.b < (n : Int)
theorem addI_low {items : List It} (h : Low items) {x : It} (ha : x.a < (items.length : Int)) (hb : x.b < (items.length : Int)) : Low (addI items x).1 := by
  rcases addI_cases items x with ⟨j, e, _⟩ | ⟨e, _⟩
  · rw [e]; exact h
  · rw [e]
    intro n y hy
    by_cases hn : n < items.length
    · rw [List.getElem?_append_left hn] at hy; exact h n y hy
    · have hn2 := (List.getElem?_eq_some_iff.1 hy).1
      simp at hn2
      obtain rfl : n = items.length := by omega
      simp at hy
      subst hy
      exact ⟨ha, hb⟩
/-- What keeping a tree does. -/
structure Ins (items : List It) (T : Tr) (r : List It × Nat) : Prop where
  rep : Rep r.1 r.2 T
  pre : ∃ l, r.1 = items ++ l ∧ l.length ≤ T.size
  nodup : r.1.Nodup
  low : Low r.1
theorem low_lt {items : List It} (h : Low items) {n m : Nat} {k : Tk} (e : items[n]? = some (itemOf k [m])) : m < n := by
  have := (h n _ e).1
  simp [itemOf] at this
  exact this
theorem low_lt2 {items : List It} (h : Low items) {n m l : Nat} {k : Tk} (e : items[n]? = some (itemOf k [m, l])) : m < n ∧ l < n := by
  have := h n _ e
  simp [itemOf] at this
  exact this
theorem insT_ok : ∀ (T : Tr) (items : List It), items.Nodup → Low items → Ins items T (insT items T)
  | .leaf k, items, hn, hl => by
    have hlow := addI_low (x := itemOf k []) hl (by show (-1 : Int) < _; omega) (by show (-1 : Int) < _; omega)
    exact ⟨.leaf (addI_at _ _), addI_pre _ _, addI_nodup hn _, hlow⟩
  | .un k c, items, hn, hl => by
    have ih := insT_ok c items hn hl
    have hlt := ih.rep.lt
    obtain ⟨l, e, hll⟩ := ih.pre
    have hlow := addI_low (x := itemOf k [(insT items c).2]) ih.low (by show ((insT items c).2 : Int) < _; omega) (by show (-1 : Int) < _; omega)
    obtain ⟨l', e', hl'⟩ := addI_pre (insT items c).1 (itemOf k [(insT items c).2])
    have hat := addI_at (insT items c).1 (itemOf k [(insT items c).2])
    refine ⟨?_, ⟨l ++ l', ?_, ?_⟩, addI_nodup ih.nodup _, hlow⟩
    · refine .un hat (low_lt hlow hat) ?_
      show Rep (addI (insT items c).1 (itemOf k [(insT items c).2])).1 _ _
      rw [e']; exact ih.rep.more _
    · show (addI (insT items c).1 (itemOf k [(insT items c).2])).1 = _
      rw [e', e, List.append_assoc]
    · simp [Tr.size]; omega
  | .bin k c d, items, hn, hl => by
    have ih := insT_ok c items hn hl
    have jh := insT_ok d (insT items c).1 ih.nodup ih.low
    have hlt := ih.rep.lt
    have hlt2 := jh.rep.lt
    obtain ⟨l, e, hll⟩ := ih.pre
    obtain ⟨l2, e2, hll2⟩ := jh.pre
    have hge : (insT items c).1.length ≤ (insT (insT items c).1 d).1.length := by rw [e2]; simp
    have hlow := addI_low (x := itemOf k [(insT items c).2, (insT (insT items c).1 d).2]) jh.low (by show ((insT items c).2 : Int) < _; omega) (by show ((insT (insT items c).1 d).2 : Int) < _; omega)
    obtain ⟨l', e', hl'⟩ := addI_pre (insT (insT items c).1 d).1 (itemOf k [(insT items c).2, (insT (insT items c).1 d).2])
    have hat := addI_at (insT (insT items c).1 d).1 (itemOf k [(insT items c).2, (insT (insT items c).1 d).2])
    have hll3 := low_lt2 hlow hat
    refine ⟨?_, ⟨l ++ l2 ++ l', ?_, ?_⟩, addI_nodup jh.nodup _, hlow⟩
    · refine .bin hat hll3.1 hll3.2 ?_ ?_
      · show Rep (addI (insT (insT items c).1 d).1 (itemOf k [(insT items c).2, (insT (insT items c).1 d).2])).1 _ _
        rw [e', e2, List.append_assoc]; exact ih.rep.more _
      · show Rep (addI (insT (insT items c).1 d).1 (itemOf k [(insT items c).2, (insT (insT items c).1 d).2])).1 _ _
        rw [e']; exact jh.rep.more _
    · show (addI (insT (insT items c).1 d).1 (itemOf k [(insT items c).2, (insT (insT items c).1 d).2])).1 = _
      rw [e', e2, e, List.append_assoc, List.append_assoc, List.append_assoc]
    · simp [Tr.size]; omega
theorem addI_there {items : List It} (hn : items.Nodup) {n : Nat} {x : It} (h : items[n]? = some x) : addI items x = (items, n) := by
  rcases addI_cases items x with ⟨j, e, h'⟩ | ⟨_, hx⟩
  · rw [e, nodup_at hn h' h]
  · exact absurd (List.mem_of_getElem? h) hx
/-- A tree that is there adds nothing. -/
theorem ins_there {items : List It} (hn : items.Nodup) : ∀ {T : Tr} {n : Nat}, Rep items n T → insT items T = (items, n)
  | .leaf k, n, .leaf h => addI_there hn h
  | .un k c, n, .un h _ hc => by
    have ih := ins_there hn hc
    show addI (insT items c).1 (itemOf k [(insT items c).2]) = _
    rw [ih]
    exact addI_there hn h
  | .bin k c d, n, .bin h _ _ hc hd => by
    have ih := ins_there hn hc
    have jh := ins_there hn hd
    show addI (insT (insT items c).1 d).1 (itemOf k [(insT items c).2, (insT (insT items c).1 d).2]) = _
    rw [ih]
    dsimp only
    rw [jh]
    exact addI_there hn h
def tkStep (s : List It × List Nat) (k : Tk) : List It × List Nat := ((addI s.1 (itemOf k (s.2.drop (s.2.length - takC k)))).1, s.2.take (s.2.length - takC k) ++ [(addI s.1 (itemOf k (s.2.drop (s.2.length - takC k)))).2])
def tkS (ts : List Tk) (s : List It × List Nat) : List It × List Nat := ts.foldl tkStep s
theorem tkS_app (a b : List Tk) (s : List It × List Nat) : tkS (a ++ b) s = tkS b (tkS a s) := by unfold tkS; rw [List.foldl_append]
theorem tkS_tree : ∀ T : Tr, T.WF → ∀ items st, tkS T.flat (items, st) = ((insT items T).1, st ++ [(insT items T).2])
  | .leaf (op, p), h, items, st => by
    have e := tak_of h.1
    have hd := drop_at st [] 0 rfl
    rw [List.append_nil] at hd
    show tkStep (items, st) (op, p) = _
    unfold tkStep
    dsimp only
    rw [e, hd.1, hd.2]; rfl
  | .un (op, p) c, h, items, st => by
    have e := tak_of h.1
    have hd := drop_at st [(insT items c).2] 1 rfl
    show tkS (c.flat ++ [(op, p)]) (items, st) = _
    rw [tkS_app, tkS_tree c h.2.2]
    show tkStep _ (op, p) = _
    unfold tkStep
    dsimp only
    rw [e, hd.1, hd.2]; rfl
  | .bin (op, p) c d, h, items, st => by
    have e := tak_of h.1
    have hd := drop_at st [(insT items c).2, (insT (insT items c).1 d).2] 2 rfl
    show tkS (c.flat ++ d.flat ++ [(op, p)]) (items, st) = _
    rw [tkS_app, tkS_app, tkS_tree c h.2.2.1, tkS_tree d h.2.2.2]
    show tkStep _ (op, p) = _
    rw [show st ++ [(insT items c).2] ++ [(insT (insT items c).1 d).2] = st ++ [(insT items c).2, (insT (insT items c).1 d).2] by simp]
    unfold tkStep
    dsimp only
    rw [e, hd.1, hd.2]; rfl
end Go.Proofs.YtnedkpbpeolfoaaDoor
namespace Go.Proofs.YtnedkpbpeolfoaaDoor
/-- Each item is some part of a kernel formula, or a path in one. -/
def Whole (items : List It) : Prop := ∀ n, n < items.length → ∃ T : Tr, Rep items n T
theorem addI_whole {items : List It} (h : Whole items) {x : It} (hx : x ∉ items → ∃ T, Rep (items ++ [x]) items.length T) : Whole (addI items x).1 := by
  rcases addI_cases items x with ⟨j, e, _⟩ | ⟨e, hn⟩
  · rw [e]; exact h
  · rw [e]
    intro n hlt
    by_cases hn2 : n < items.length
    · obtain ⟨T, hT⟩ := h n hn2
      exact ⟨T, hT.more _⟩
    · simp at hlt
      obtain rfl : n = items.length := by omega
      exact hx hn
theorem insT_whole : ∀ (T : Tr) (items : List It), items.Nodup → Low items → Whole items → Whole (insT items T).1
  | .leaf k, items, _, _, hw => addI_whole hw fun _ => ⟨.leaf k, .leaf (by simp)⟩
  | .un k c, items, hn, hl, hw => by
    have ih := insT_ok c items hn hl
    have iw := insT_whole c items hn hl hw
    exact addI_whole iw fun _ => ⟨.un k c, .un (by simp) ih.rep.lt (ih.rep.more _)⟩
  | .bin k c d, items, hn, hl, hw => by
    have ih := insT_ok c items hn hl
    have iw := insT_whole c items hn hl hw
    have jh := insT_ok d _ ih.nodup ih.low
    have jw := insT_whole d _ ih.nodup ih.low iw
    obtain ⟨l, e, _⟩ := jh.pre
    have hc : Rep (insT (insT items c).1 d).1 (insT items c).2 c := by rw [e]; exact ih.rep.more _
    exact addI_whole jw fun _ => ⟨.bin k c d, .bin (by simp) hc.lt jh.rep.lt (hc.more _) (jh.rep.more _)⟩
/-- A table's items. -/
structure TabIs (items : List It) : Prop where
  nodup : items.Nodup
  low : Low items
  whole : Whole items
  few : items.length ≤ 4096
theorem tabIs_nil : TabIs [] := ⟨by simp, fun n x h => (by simp at h), fun n h => (by simp at h), by simp⟩
/-- All items, if a formula's are put to them; its number. -/
def kI (items : List It) (ts : List Tk) : List It := (tkS ts (items, [])).1
def kN (items : List It) (ts : List Tk) : Nat := (tkS ts (items, [])).2.getLast?.getD 0
theorem kI_tree {T : Tr} (h : T.WF) (items : List It) : kI items T.flat = (insT items T).1 ∧ kN items T.flat = (insT items T).2 := by
  unfold kI kN
  rw [tkS_tree T h]
  exact ⟨rfl, by simp⟩
noncomputable def keepE (items : List It) (ts : List Tk) : Nat := if chkE ts ≠ 0 then chkE ts else if 4096 < (kI items ts).length then 3 else 0
noncomputable def keepI (items : List It) (ts : List Tk) : List It := if keepE items ts = 0 then kI items ts else items
noncomputable def keepN (items : List It) (ts : List Tk) : Nat := if keepE items ts = 0 then kN items ts else 0
noncomputable def findB (items : List It) (ts : List Tk) : Bool := decide (chkE ts = 0) && decide (kI items ts = items)
noncomputable def findN (items : List It) (ts : List Tk) : Nat := if findB items ts = true then kN items ts else 0
/-- What is known of a formula that was kept. -/
structure Kept (items : List It) (ts : List Tk) (n : Nat) (items' : List It) : Prop where
  is : TabIs items'
  pre : ∃ l, items' = items ++ l
  rep : ∃ T : Tr, T.WF ∧ pathT T = false ∧ ts = T.flat ∧ Rep items' n T
  lt : n < items'.length
  again : keepE items' ts = 0 ∧ keepI items' ts = items' ∧ keepN items' ts = n
  find : findB items' ts = true ∧ findN items' ts = n
theorem kept {items : List It} (h : TabIs items) {ts : List Tk} (he : keepE items ts = 0) : Kept items ts (keepN items ts) (keepI items ts) := by
  have hI : keepI items ts = kI items ts := if_pos he
  have hN : keepN items ts = kN items ts := if_pos he
  have hc : chkE ts = 0 := by
    unfold keepE at he
    by_cases hc : chkE ts = 0
    · exact hc
    · rw [if_pos hc] at he; exact absurd he hc
  have hl : ¬ 4096 < (kI items ts).length := by
    intro hl
    unfold keepE at he
    rw [if_neg (by omega), if_pos hl] at he
    cases he
  rw [hI, hN]
  obtain ⟨hts, T, hW, hp, hk, rfl⟩ := chk_zero.1 hc
  obtain ⟨e1, e2⟩ := kI_tree hW items
  rw [e1] at hl
  have ins := insT_ok T items h.nodup h.low
  have hw := insT_whole T items h.nodup h.low h.whole
  rw [e1, e2]
  obtain ⟨f1, f2⟩ := kI_tree hW (insT items T).1
  have there := ins_there ins.nodup ins.rep
  rw [there] at f1 f2
  have hE : keepE (insT items T).1 T.flat = 0 := by unfold keepE; rw [if_neg (by omega), f1, if_neg hl]
  refine ⟨⟨ins.nodup, ins.low, hw, by omega⟩, ?_, ⟨T, hW, hp, rfl, ins.rep⟩, ins.rep.lt, ⟨hE, ?_, ?_⟩, ?_, ?_⟩
  · obtain ⟨l, e, _⟩ := ins.pre
    exact ⟨l, e⟩
  · unfold keepI; rw [if_pos hE, f1]
  · unfold keepN; rw [if_pos hE, f2]
  · unfold findB; rw [f1, hc]; simp
  · have : findB (insT items T).1 T.flat = true := by unfold findB; rw [f1, hc]; simp
    unfold findN; rw [if_pos this, f2]
theorem flat_inj {T S : Tr} (hT : T.WF) (hS : S.WF) (h : T.flat = S.flat) : T = S := by
  have h1 := gS_tree T hT []
  have h2 := gS_tree S hS []
  rw [h, h2] at h1
  simpa using h1.symm
end Go.Proofs.YtnedkpbpeolfoaaDoor
namespace Go.Proofs.YtnedkpbpeolfoaaDoor
open Go.RowKit Go.Maps
def tbV (t : Nat) : Value := .pointer (some ⟨t, 0, none⟩)
def itV (x : It) : Value := .agg #[.int .u8 (x.op : Int), .int .u8 (x.p : Int), .int .i64 x.a, .int .i64 x.b]
theorem own_lt {w : World} {base e size n : Nat} {v : Value} {xs : List Value} (h : w.ownsRow base e size v n xs) : ∀ k, v.ownBlock = some k → k < w.heap.size := by
  intro k hk
  rcases h.2 with ⟨rfl, _⟩ | ⟨g, cap, cur, rfl, _, hcell, _⟩
  · cases hk
  · injection hk with hk
    dsimp only at hk
    subst hk
    exact (Array.getElem?_eq_some_iff.1 hcell).1
/-- One value more behind a row of the call's own. -/
theorem append_v1 {w : World} {ops : Array Oper} {rest : List Oper} {o : Oper} {a : Act} {Q : Exit → Act → World → Prop} {T E : TypeId} {z : Value} {bt : Nat} (hu : Tryd.prog.underlying T = some (.slice E)) (hin : (Tryd.prog.info? E).map (fun i => (i.zero, i.size, i.bytes)) = some (some z, 1, bt)) (hzs : z.cells.size = 1) (hbt : bt ≤ 1000) (hgd : o.guard = none) (s x : Operand)
    (ho : o.op = .call { callee := .builtin .append, args := #[s, x], argTypes := #[T, T] }) (base : Nat)
    (v : Value) (n : Nat) (xs : List Value) (y : Value) (g : Nat) (hs : a.eval s = v) (hx : a.eval x = .slice (some ⟨g, 0, none⟩) 1 1) (hown : w.ownsRow base E 1 v n xs)
    (hB : w.cell? ⟨g, 0, none⟩ = some y) (h1 : y.oneCell' = true) (hn : n ≤ 1000000) (hbase : base ≤ w.heap.size)
    (h : ∀ v' w', w'.ownsRow base E 1 v' (n + 1) (xs ++ [y]) → w.grownBy w' v.ownBlock → (v'.ownBlock = v.ownBlock ∨ v'.ownBlock = some w.heap.size) → wpList Tryd.prog ops Q rest (a.put o.dst v') w') : wpList Tryd.prog ops Q (o :: rest) a w := by
  obtain ⟨i, hi, hz0, hz1, hz2⟩ := info_parts hin
  have hb : (n + 1) * bt ≤ (1000000 + 1) * 1000 := Nat.mul_le_mul (by omega) hbt
  refine wpList_append_own_at w hgd s x T ho base E i _ 1 bt hu hi hz0 hz1 hz2 hzs (by decide) v n _ hs hown ⟨g, 0, none⟩ 1 1 [y] hx rfl ?_ ?_ (by unfold maxLen; omega) (by omega) hbase ?_
  · intro j u hj
    match j with
    | 0 => simp at hj; rw [← hj, add_plain]; exact hB
    | j + 1 => simp at hj
  · intro u hu'
    simp at hu'
    subst hu'
    exact h1
  · intro v' w' e1 e2 _ e3
    exact h v' w' e1 e2 e3
end Go.Proofs.YtnedkpbpeolfoaaDoor
namespace Go.Proofs.YtnedkpbpeolfoaaDoor
open Go.RowKit Go.Maps
/-- An item whose numbers fit. -/
def ItOk (x : It) : Prop := x.op < 256 ∧ x.p < 256 ∧ -1 ≤ x.a ∧ x.a < 100000000 ∧ -1 ≤ x.b ∧ x.b < 100000000
def klI (x : It) : Lit := .string (keyBytes [.int .u8 (x.op : Int), .int .u8 (x.p : Int), .int .i64 x.a, .int .i64 x.b])
theorem Tryd.laidOutT : laidOutB Tryd.prog = true := by kernel_rfl
theorem Tryd.keyTypeItem : Tryd.prog.keyType 81 = true := by kernel_rfl
theorem Tryd.lawItem : Keyed Tryd.prog 81 := Keyed.of_law (deep_law_laid Tryd.laidOutT (m := 3) (by omega) (of_decide_eq_true (by kernel_rfl)) (by kernel_rfl) (by kernel_rfl))
theorem Tryd.sizeTypes : ∃ n, Tryd.prog.types.size + 1 = n + 2 := ⟨Tryd.prog.types.size - 1, by have : 0 < Tryd.prog.types.size := of_decide_eq_true (by kernel_rfl); omega⟩
theorem Tryd.cellsItem : Tryd.prog.cellsOf 81 = 4 := by kernel_rfl
theorem Tryd.cellsOpI : Tryd.prog.cellsOf 47 = 1 := by kernel_rfl
theorem Tryd.cellsU8I : Tryd.prog.cellsOf 5 = 1 := by kernel_rfl
theorem Tryd.cellsIntI : Tryd.prog.cellsOf 3 = 1 := by kernel_rfl
theorem Tryd.itKey (x : It) (h : ItOk x) : keyOf Tryd.prog 81 (itV x) = some (klI x) := by
  obtain ⟨h1, h2, h3, h4, h5, h6⟩ := h
  obtain ⟨n, hn⟩ := Tryd.sizeTypes
  have w1 : (Lit.int .u8 (x.op : Int)).wf = true := WalkArith.wf_u8 (by omega)
  have w2 : (Lit.int .u8 (x.p : Int)).wf = true := WalkArith.wf_u8 (by omega)
  have w3 : (Lit.int .i64 x.a).wf = true := WalkArith.wf_i64 (by omega)
  have w4 : (Lit.int .i64 x.b).wf = true := WalkArith.wf_i64 (by omega)
  unfold keyOf itV klI
  rw [Tryd.underlying81, hn]
  simp [Tryd.keyTypeItem, Value.formed, Tryd.underlying81, Tryd.cellsItem, Value.cells, Program.keyLits, Tryd.cellsOpI, Tryd.cellsU8I, Tryd.cellsIntI, Tryd.underlying47, Tryd.underlying5, Tryd.underlying3, w1, w2, w3, w4]
theorem itV_inj {x y : It} (h : itV x = itV y) : x = y := by
  unfold itV at h
  obtain ⟨a, b, c, d⟩ := x
  obtain ⟨a', b', c', d'⟩ := y
  simp at h
  obtain ⟨h1, h2, h3, h4⟩ := h
  simp only [It.mk.injEq]
  omega
theorem Tryd.klI_inj {x y : It} (hx : ItOk x) (hy : ItOk y) (h : klI x = klI y) : x = y :=
  itV_inj (Tryd.lawItem.inj (Tryd.itKey x hx) (by rw [h]; exact Tryd.itKey y hy))
theorem klI_key (x : It) : WideAt.IsKeyLit (klI x) := trivial
/-- A block that is a map of n entries, from items to numbers. -/
def NumOf (w : World) (b n : Nat) (f : It → Option Nat) : Prop :=
  ∃ D : DataW Unit, w.ownsMap Tryd.prog 81 (plainElem Tryd.prog 3) b n D ∧ Tidy D ∧ Maps.size D = n ∧ ∀ x, ItOk x → has D (klI x) = (f x).isSome ∧ ∀ j, f x = some j → D.atKey (klI x) (.lit (.int .i64 0)) = .lit (.int .i64 (j : Int))
theorem NumOf.lt {w : World} {b n : Nat} {f : It → Option Nat} (h : NumOf w b n f) : b < w.heap.size := by
  obtain ⟨D, h, _⟩ := h; exact h.lt
theorem NumOf.far {w w' : World} {b n : Nat} {f : It → Option Nat} (h : NumOf w b n f) (hb : w'.heap[b]? = w.heap[b]?) : NumOf w' b n f := by
  obtain ⟨D, ⟨es, clock, h1, h2⟩, r⟩ := h
  exact ⟨D, ⟨es, clock, hb.trans h1, h2⟩, r⟩
theorem NumOf.isMap {w : World} {b n : Nat} {f : It → Option Nat} (h : NumOf w b n f) : ∃ es c, w.heap[b]? = some (.map es c) := by
  obtain ⟨D, ⟨es, clock, h1, h2⟩, r⟩ := h
  exact ⟨es, clock, h1⟩
theorem NumOf.alike {w : World} {b n : Nat} {f g : It → Option Nat} (h : NumOf w b n f) (hg : ∀ x, ItOk x → f x = g x) : NumOf w b n g := by
  obtain ⟨D, h1, h2, h3, h4⟩ := h
  exact ⟨D, h1, h2, h3, fun x hx => by rw [← hg x hx]; exact h4 x hx⟩
theorem num_made (w : World) : NumOf (w.alloc (.map #[] 0)) w.heap.size 0 (fun _ => none) :=
  ⟨.map [], World.ownsMap_made _ _ _ _, tidy_empty, rfl, fun x _ => ⟨rfl, fun j hj => by cases hj⟩⟩
theorem Tryd.zeroInt (w : World) : (zeroValue 3).run Tryd.prog w = .ok (.int .i64 0) w := by kernel_rfl
set_option maxRecDepth 100000 in
/-- What is found at an item. -/
theorem NumOf.look {w : World} {b n : Nat} {f : It → Option Nat} (h : NumOf w b n f) {x : It} (hx : ItOk x) :
    (Instr.lookup 26 (.map (some b)) (itV x) true).run Tryd.prog w = .ok (.tuple #[.int .i64 (((f x).getD 0 : Nat) : Int), .bool (f x).isSome]) w := by
  obtain ⟨D, h1, h2, h3, h4⟩ := h
  obtain ⟨hh, ha⟩ := h4 x hx
  obtain ⟨v, ps, hrun, hv⟩ := h1.look_ok Tryd.lawItem Tryd.underlying26 (Tryd.zeroInt w) (plainElem_int Tryd.underlying3 (by decide)) (Tryd.itKey x hx)
  obtain ⟨c, rfl, hc, hwc⟩ := plainElem_int_inv Tryd.underlying3 hv
  have hc' : D.atKey (klI x) (.lit (.int .i64 0)) = .lit (.int .i64 c) := congrArg Prod.fst hc
  rw [hrun, hh]
  cases hf : f x with
  | none =>
    rw [hf] at hh
    rw [atKey_of_not_has hh] at hc'
    injection hc' with hc'
    injection hc' with _ hc'
    subst hc'
    rfl
  | some j =>
    rw [ha j hf] at hc'
    injection hc' with hc'
    injection hc' with _ hc'
    subst hc'
    rfl
set_option maxRecDepth 100000 in
/-- An item that was not there gets a number. -/
theorem NumOf.put {w : World} {b n : Nat} {f : It → Option Nat} (h : NumOf w b n f) (hn : n ≤ 100000000) {x : It} (hx : ItOk x) (hf : f x = none) (j : Nat) (hj : j ≤ 100000000) :
    ∃ w', (Instr.mapUpdate 26 (.map (some b)) (itV x) (.int .i64 (j : Int))).run Tryd.prog w = .ok () w' ∧ NumOf w' b (n + 1) (fun y => if y = x then some j else f y) ∧ w.grownBy w' (some b) := by
  obtain ⟨D, h1, h2, h3, h4⟩ := h
  obtain ⟨hh, _⟩ := h4 x hx
  rw [hf] at hh
  obtain ⟨w', hrun, hown, hg⟩ := h1.update Tryd.lawItem Tryd.underlying26 (by unfold maxLen; omega) (Tryd.itKey x hx) (plainElem_int (a := (j : Int)) Tryd.underlying3 (WalkArith.wf_i64 (by omega)))
  refine ⟨w', hrun, ⟨_, hown, h2.put (klI_key x) _, ?_, fun y hy => ?_⟩, hg⟩
  · rw [size_put h2, hh, h3]; rfl
  · dsimp only
    by_cases e : y = x
    · subst e
      rw [if_pos rfl]
      refine ⟨has_put_same h2.isMap (klI_key y) _, fun i hi => ?_⟩
      injection hi with hi
      subst hi
      exact atKey_put_same h2.isMap (klI_key y) _ _
    · have ne : klI y ≠ klI x := fun he => e (Tryd.klI_inj hy hx he)
      rw [if_neg e, has_put_other ne]
      refine ⟨(h4 y hy).1, fun i hi => ?_⟩
      rw [atKey_put_other ne]
      exact (h4 y hy).2 i hi
set_option maxRecDepth 100000 in
/-- An item that was there is taken out. -/
theorem NumOf.drop {w : World} {b n : Nat} {f : It → Option Nat} (h : NumOf w b n f) {x : It} (hx : ItOk x) (hf : (f x).isSome = true) (ty : TypeId) :
    ∃ w', (Builtin.delete_ #[26, 81] ty #[.map (some b), itV x]).run Tryd.prog w = .ok (.tuple #[]) w' ∧ NumOf w' b (n - 1) (fun y => if y = x then none else f y) ∧ w.grownBy w' (some b) := by
  obtain ⟨D, h1, h2, h3, h4⟩ := h
  obtain ⟨hh, _⟩ := h4 x hx
  rw [hf] at hh
  obtain ⟨w', hrun, hown, ht⟩ := h1.drop Tryd.lawItem Tryd.underlying26 (Tryd.itKey x hx) ty
  have hsz : Maps.size (D.del (klI x)) = n - 1 := by
    have := size_del (k := klI x) h2
    rw [hh] at this
    simp at this
    omega
  have hown' : w'.ownsMap Tryd.prog 81 (plainElem Tryd.prog 3) b (n - 1) (D.del (klI x)) := by
    obtain ⟨es, clock, g1, g2, g3, g4⟩ := hown
    refine ⟨es, clock, g1, g2, ?_, g4⟩
    rw [← hsz, g4]
    simp [Maps.size, length_sorted]
  refine ⟨w', hrun, ⟨_, hown', h2.del _, hsz, fun y hy => ?_⟩, ht.grown⟩
  dsimp only
  by_cases e : y = x
  · subst e
    rw [if_pos rfl]
    exact ⟨has_del_same, fun i hi => by cases hi⟩
  · have ne : klI y ≠ klI x := fun he => e (Tryd.klI_inj hy hx he)
    rw [if_neg e, has_del_other ne]
    refine ⟨(h4 y hy).1, fun i hi => ?_⟩
    rw [atKey_del_other ne]
    exact (h4 y hy).2 i hi
end Go.Proofs.YtnedkpbpeolfoaaDoor
namespace Go.Proofs.YtnedkpbpeolfoaaDoor
open Go.RowKit Go.Maps
def encI (l : List It) : List Value := l.flatMap fun x => [.int .u8 (x.op : Int), .int .u8 (x.p : Int), .int .i64 x.a, .int .i64 x.b]
theorem encI_cons (x : It) (l : List It) : encI (x :: l) = .int .u8 (x.op : Int) :: .int .u8 (x.p : Int) :: .int .i64 x.a :: .int .i64 x.b :: encI l := rfl
theorem encI_append (xs ys : List It) : encI (xs ++ ys) = encI xs ++ encI ys := by simp [encI]
theorem encI_len : ∀ l : List It, (encI l).length = l.length * 4
  | [] => rfl
  | t :: ts => by rw [encI_cons]; simp [encI_len ts]; omega
theorem encI_get : ∀ (l : List It) (k : Nat) (h : k < l.length), (encI l)[4 * k]? = some (.int .u8 (l[k].op : Int)) ∧ (encI l)[4 * k + 1]? = some (.int .u8 (l[k].p : Int)) ∧ (encI l)[4 * k + 2]? = some (.int .i64 l[k].a) ∧ (encI l)[4 * k + 3]? = some (.int .i64 l[k].b)
  | [], k, h => absurd h (by simp)
  | t :: ts, 0, _ => ⟨rfl, rfl, rfl, rfl⟩
  | t :: ts, k + 1, h => by
    have := encI_get ts k (by simpa using h)
    rw [encI_cons, show 4 * (k + 1) = 4 * k + 1 + 1 + 1 + 1 by omega, show 4 * k + 1 + 1 + 1 + 1 + 1 = (4 * k + 1) + 1 + 1 + 1 + 1 by omega, show 4 * k + 1 + 1 + 1 + 1 + 2 = (4 * k + 2) + 1 + 1 + 1 + 1 by omega, show 4 * k + 1 + 1 + 1 + 1 + 3 = (4 * k + 3) + 1 + 1 + 1 + 1 by omega]
    simpa using this
theorem encI_take (l : List It) (n : Nat) : (encI l).take (n * 4) = encI (l.take n) := by
  by_cases h : n ≤ l.length
  · have e : encI l = encI (l.take n) ++ encI (l.drop n) := by rw [← encI_append, List.take_append_drop]
    have hl : (encI (l.take n)).length = n * 4 := by rw [encI_len, List.length_take, Nat.min_eq_left h]
    rw [e, ← hl, List.take_left]
  · rw [List.take_of_length_le (by rw [encI_len]; omega), List.take_of_length_le (by omega)]
theorem four_oneCell (x : It) : ∀ u ∈ encI [x], u.oneCell' = true := by
  intro u hu
  simp [encI] at hu
  rcases hu with rfl | rfl | rfl | rfl <;> rfl
theorem Tryd.sizeItem : (Tryd.prog.info? 81).map (·.size) = some 4 := by kernel_rfl
theorem Tryd.infoItem : (Tryd.prog.info? 81).map (fun i => (i.zero, i.size, i.bytes)) = some (some (.agg #[.int .u8 0, .int .u8 0, .int .i64 0, .int .i64 0]), 4, 24) := by kernel_rfl
def posI (items : List It) (x : It) : Option Nat := items.findIdx? (· = x)
theorem posI_some {items : List It} (hn : items.Nodup) {x : It} {j : Nat} : posI items x = some j ↔ items[j]? = some x := by
  unfold posI
  rw [List.findIdx?_eq_some_iff_getElem, List.getElem?_eq_some_iff]
  constructor
  · rintro ⟨hj, h, _⟩
    exact ⟨hj, by simpa using h⟩
  · rintro ⟨hj, h⟩
    refine ⟨hj, by simpa using h, fun i hi => ?_⟩
    intro he
    have he' : items[i] = x := by simpa using he
    have := (List.getElem_inj hn).1 (he'.trans h.symm)
    omega
theorem posI_none {items : List It} {x : It} : posI items x = none ↔ x ∉ items := by
  unfold posI
  rw [List.findIdx?_eq_none_iff]
  constructor
  · intro h hx
    simpa using h x hx
  · intro h y hy
    simp
    rintro rfl
    exact h hy
theorem posI_lt {items : List It} {x : It} {j : Nat} (h : posI items x = some j) : j < items.length := by
  unfold posI at h
  exact (List.findIdx?_eq_some_iff_getElem.1 h).1
/-- A table in memory: its variable, its items, its map. -/
structure TabI (w : World) (F : Nat → Prop) (t : Nat) (items : List It) : Prop where
  nd : items.Nodup
  few : items.length ≤ 4096
  ok : ∀ x ∈ items, ItOk x
  ex : ∃ v mb, w.heap[t]? = some (.cells #[tbV t, v, .map (some mb)] 112 (0, 0)) ∧ w.ownsRow 0 81 4 v items.length (encI items) ∧ NumOf w mb items.length (posI items) ∧ ∀ k, F k ↔ (k = t ∨ k = mb ∨ v.ownBlock = some k)
theorem TabI.lt {w : World} {F : Nat → Prop} {t : Nat} {items : List It} (h : TabI w F t items) : ∀ k, F k → k < w.heap.size := by
  obtain ⟨v, mb, h1, h2, h3, h4⟩ := h.ex
  intro k hk
  rcases (h4 k).1 hk with rfl | rfl | hk
  · exact (Array.getElem?_eq_some_iff.1 h1).1
  · exact h3.lt
  · exact own_lt h2 k hk
theorem owns_off {w w' : World} {base e size n : Nat} {v : Value} {xs : List Value} (h : w.ownsRow base e size v n xs) (hb : ∀ k, v.ownBlock = some k → w'.heap[k]? = w.heap[k]?) : w'.ownsRow base e size v n xs := by
  obtain ⟨hl, h⟩ := h
  refine ⟨hl, h.imp id ?_⟩
  rintro ⟨g, cap, cur, rfl, hg, hcell, r⟩
  exact ⟨g, cap, cur, rfl, hg, (hb g rfl).trans hcell, r⟩
theorem TabI.far {w w' : World} {F : Nat → Prop} {t : Nat} {items : List It} (h : TabI w F t items) (hb : ∀ k, F k → w'.heap[k]? = w.heap[k]?) : TabI w' F t items := by
  obtain ⟨v, mb, h1, h2, h3, h4⟩ := h.ex
  exact ⟨h.nd, h.few, h.ok, v, mb, (hb t ((h4 t).2 (Or.inl rfl))).trans h1, owns_off h2 (fun k hk => hb k ((h4 k).2 (Or.inr (Or.inr hk)))), h3.far (hb mb ((h4 mb).2 (Or.inr (Or.inl rfl)))), h4⟩
theorem TabI.up {w w' : World} {F : Nat → Prop} {t : Nat} {items : List It} (h : TabI w F t items) (hb : Below w.heap.size w w') : TabI w' F t items := h.far fun k hk => hb.block k (h.lt k hk)
theorem Fr.same {w w' : World} {F : Nat → Prop} (hb : Below w.heap.size w w') : Fr w w' F F := ⟨hb.os, hb.tape, hb.output, hb.size, fun k hk _ => hb.block k hk, fun _ hk => Or.inl hk⟩
/-- What the walk reads of a table's variable and of its items. -/
structure TabR (w : World) (t : Nat) (a : Option Addr) (n cap mb : Nat) (items : List It) : Prop where
  hn : items.length = n
  hc : n ≤ cap
  bd : cap ≤ maxLen
  nn : a = none → cap = 0
  blk : w.heap[t]? = some (.cells #[tbV t, .slice a n cap, .map (some mb)] 112 (0, 0))
  row : w.ownsRow 0 81 4 (.slice a n cap) n (encI items)
  num : NumOf w mb n (posI items)
theorem TabI.read {w : World} {F : Nat → Prop} {t : Nat} {items : List It} (h : TabI w F t items) : ∃ a cap mb, TabR w t a items.length cap mb items ∧ ∀ k, F k ↔ (k = t ∨ k = mb ∨ (Value.slice a items.length cap).ownBlock = some k) := by
  obtain ⟨v, mb, h1, h2, h3, h4⟩ := h.ex
  rcases h2.2 with ⟨rfl, e0⟩ | ⟨g, cap, cur, rfl, _, _, hnc, hcm, _⟩
  · obtain rfl : items = [] := List.eq_nil_of_length_eq_zero e0
    exact ⟨none, 0, mb, ⟨rfl, Nat.le_refl _, Nat.zero_le _, fun _ => rfl, h1, h2, h3⟩, h4⟩
  · exact ⟨some ⟨g, 0, none⟩, cap, mb, ⟨rfl, hnc, hcm, fun e => (by cases e), h1, h2, h3⟩, h4⟩
theorem TabR.c0 {w : World} {t n cap mb : Nat} {a : Option Addr} {items : List It} (h : TabR w t a n cap mb items) : w.cell? ⟨t, 0, none⟩ = some (.pointer (some ⟨t, 0, none⟩)) := cell_row h.blk 0
theorem TabR.c1 {w : World} {t n cap mb : Nat} {a : Option Addr} {items : List It} (h : TabR w t a n cap mb items) : w.cell? ⟨t, 1, none⟩ = some (.slice a n cap) := cell_row h.blk 1
theorem TabR.c2 {w : World} {t n cap mb : Nat} {a : Option Addr} {items : List It} (h : TabR w t a n cap mb items) : w.cell? ⟨t, 2, none⟩ = some (.map (some mb)) := cell_row h.blk 2
theorem sizeOf_runI {P : Program} {e : TypeId} {s : Nat} (h : (P.info? e).map (·.size) = some s) (w : World) : (sizeOf e).run P w = .ok s w := by
  cases hq : P.info? e with
  | none => simp [hq] at h
  | some i => simp [hq] at h; simp [sizeOf, typeInfo, hq, h]
/-- An item, where it lies. -/
theorem TabR.at {w : World} {t n cap mb : Nat} {a : Option Addr} {items : List It} (h : TabR w t a n cap mb items) (k : Nat) (hk : k < items.length) :
    ∃ g o, (∀ w', (Instr.indexAt 25 (.slice a n cap) (.int .i64 (k : Int))).run Tryd.prog w' = .ok (.pointer (some ⟨g, o, none⟩)) w') ∧ w.cell? ⟨g, o, none⟩ = some (.int .u8 (items[k].op : Int)) ∧ w.cell? ⟨g, o + 1, none⟩ = some (.int .u8 (items[k].p : Int)) ∧ w.cell? ⟨g, o + 2, none⟩ = some (.int .i64 items[k].a) ∧ w.cell? ⟨g, o + 3, none⟩ = some (.int .i64 items[k].b) := by
  have hn := h.hn
  rcases h.row.2 with ⟨e, e0⟩ | ⟨g, cap', cur, e, _, hcell, hnc, _, hsz, htk⟩
  · omega
  · injection e with e1 _ e3
    subst e1 e3
    have key : ∀ j, j < n * 4 → w.cell? ⟨g, j, none⟩ = (encI items)[j]? := fun j hj => by
      rw [← htk, List.getElem?_take, if_pos hj]
      simp [World.cell?, hcell]
    have hkn : k < n := by omega
    obtain ⟨q0, q1, q2, q3⟩ := encI_get items k hk
    refine ⟨g, 4 * k, fun w' => ?_, ?_, ?_, ?_, ?_⟩
    · simp [Instr.indexAt, run_underlying Tryd.underlying25, asIntOf, sizeOf_runI Tryd.sizeItem, hkn, Result.andThen, go_sem, add_plain, Nat.mul_comm]
    · rw [key _ (by omega)]; exact q0
    · rw [key _ (by omega)]; exact q1
    · rw [key _ (by omega)]; exact q2
    · rw [key _ (by omega)]; exact q3
set_option maxHeartbeats 4000000 in
theorem Tryd.ttakes_any (op : Nat) (w : World) (hop : op ≤ 23) (h3 : op ≠ 3) (h9 : op ≠ 9) (h10 : op ≠ 10) : Calls Tryd.prog 79 #[.int .u8 (op : Int)] w fun e w' => e = .returned (.int .i64 (takO op : Int)) ∧ w' = w := by
  rcases op_cases hop with rfl | rfl | rfl | rfl | rfl | rfl | rfl | rfl | rfl | rfl | rfl | rfl | rfl | rfl | rfl | rfl | rfl | rfl | rfl | rfl | rfl | rfl | rfl | rfl <;> first | exact absurd rfl h3 | exact absurd rfl h9 | exact absurd rfl h10 |
  · go_enter Tryd.func79, Tryd.ntmps79
    go_wp2
    go_ret
    exact ⟨rfl, rfl⟩
theorem Tryd.tabInfo : ∃ j, Tryd.prog.info? 112 = some j := by
  cases h : Tryd.prog.info? 112 with
  | some j => exact ⟨j, rfl⟩
  | none => exact absurd h (by have : (Tryd.prog.info? 112).isSome = true := by kernel_rfl
                               intro e; rw [e] at this; cases this)
theorem Tryd.ptr_same (a : Addr) (w : World) : (binOp .eql 95 (.pointer (some a)) (.pointer (some a))).run Tryd.prog w = .ok (.bool true) w := by
  obtain ⟨j, hj⟩ := Tryd.tabInfo
  exact run_eql_ptr_same w a Tryd.underlying95 hj
theorem Tryd.made_tab {w : World} {t n cap mb : Nat} {a : Option Addr} {items : List It} (h : TabR w t a n cap mb items) : Calls Tryd.prog 68 #[.pointer (some ⟨t, 0, none⟩)] w fun e w' => e = .returned (.bool true) ∧ w' = w := by
  have c0 := h.c0
  have hp := fun w => Tryd.ptr_same ⟨t, 0, none⟩ w
  clear h
  go_enter Tryd.func68, Tryd.ntmps68
  go_wp2
  go_ret
  exact ⟨rfl, rfl⟩
end Go.Proofs.YtnedkpbpeolfoaaDoor
namespace Go.Proofs.YtnedkpbpeolfoaaDoor
open Go.RowKit Go.Maps
theorem tabI_new (w : World) (t : Nat) (ht : t = w.heap.size + 1) : TabI ((w.alloc (.map #[] 0)).alloc (.cells #[.pointer (some ⟨t, 0, none⟩), .slice none 0 0, .map (some w.heap.size)] 112)) (fun k => k = t ∨ k = w.heap.size) t [] := by
  have h1 : ((w.alloc (.map #[] 0)).alloc (.cells #[.pointer (some ⟨t, 0, none⟩), .slice none 0 0, .map (some w.heap.size)] 112)).heap[t]? = some (.cells #[.pointer (some ⟨t, 0, none⟩), .slice none 0 0, .map (some w.heap.size)] 112 (0, 0)) := by
    have := (MapKept.heap_alloc (w.alloc (.map #[] 0)) (.cells #[.pointer (some ⟨t, 0, none⟩), .slice none 0 0, .map (some w.heap.size)] 112)).1
    rw [show (w.alloc (.map #[] 0)).heap.size = t by simp; omega] at this
    exact this
  have h2 : NumOf ((w.alloc (.map #[] 0)).alloc (.cells #[.pointer (some ⟨t, 0, none⟩), .slice none 0 0, .map (some w.heap.size)] 112)) w.heap.size 0 (posI []) := ((num_made w).far ((below_new (w.alloc (.map #[] 0)) _).block w.heap.size (by simp))).alike fun x _ => rfl
  refine ⟨by simp, by simp, fun x hx => (by simp at hx), .slice none 0 0, w.heap.size, h1, ⟨rfl, Or.inl ⟨rfl, rfl⟩⟩, h2, fun k => ?_⟩
  constructor
  · rintro (h | h)
    · exact Or.inl h
    · exact Or.inr (Or.inl h)
  · rintro (h | h | h)
    · exact Or.inl h
    · exact Or.inr h
    · cases h
theorem Tryd.tnew_any (w : World) : Calls Tryd.prog 53 #[] w fun e w' => ∃ t F, e = .returned (tbV t) ∧ TabI w' F t [] ∧ (∀ k, F k → w.heap.size ≤ k) ∧ Below w.heap.size w w' := by
  have hmm := @run_makeMap Tryd.prog
  go_enter Tryd.func53, Tryd.ntmps53
  go_wp2
  go_ret
  refine ⟨w.heap.size + 1, _, rfl, tabI_new w _ rfl, fun k hk => ?_, ?_⟩
  · rcases hk with rfl | rfl
    · omega
    · exact Nat.le_refl _
  · exact below_step (below_new w _) (below_new _ _)
theorem Tryd.tlen_any {w : World} {F : Nat → Prop} {t : Nat} {items : List It} (h : TabI w F t items) : Calls Tryd.prog 55 #[.pointer (some ⟨t, 0, none⟩)] w fun e w' => e = .returned (.int .i64 (items.length : Int)) ∧ w' = w := by
  obtain ⟨a, cap, mb, hr, _⟩ := h.read
  have c1 := hr.c1
  have hm := Tryd.made_tab hr
  clear h hr
  go_enter Tryd.func55, Tryd.ntmps55
  go_wp2_with (go_at_call 68; refine hm.mono ?_; rintro e w' ⟨rfl, rfl⟩)
  go_ret
  exact ⟨rfl, rfl⟩
theorem Tryd.tref_ok {w : World} {t n cap mb : Nat} {a : Option Addr} {items : List It} (h : TabR w t a n cap mb items) (i : Nat) (hi : i < n) : Calls Tryd.prog 73 #[.pointer (some ⟨t, 0, none⟩), .int .i64 (i : Int)] w fun e w' => e = .returned (.int .i64 0) ∧ w' = w := by
  have c1 := h.c1
  have hm := Tryd.made_tab h
  have h1 : ¬ (n : Int) ≤ (i : Int) := by omega
  have h2 : ¬ (i : Int) < 0 := by omega
  clear h
  go_enter Tryd.func73, Tryd.ntmps73
  go_wp2_with (go_at_call 68; refine hm.mono ?_; rintro e w' ⟨rfl, rfl⟩)
  go_ret
  exact ⟨rfl, rfl⟩
end Go.Proofs.YtnedkpbpeolfoaaDoor
namespace Go.Proofs.YtnedkpbpeolfoaaDoor
open Go.RowKit Go.Maps
theorem TabR.up {w w' : World} {t n cap mb : Nat} {a : Option Addr} {items : List It} (h : TabR w t a n cap mb items) (hb : Below w.heap.size w w') : TabR w' t a n cap mb items :=
  ⟨h.hn, h.hc, h.bd, h.nn, (hb.block t (Array.getElem?_eq_some_iff.1 h.blk).1).trans h.blk, owns_up h.row hb, h.num.far (hb.block mb h.num.lt)⟩
set_option maxRecDepth 100000 in
set_option maxHeartbeats 1000000 in
theorem Tryd.titem_any {w : World} {F : Nat → Prop} {t : Nat} {items : List It} (h : TabI w F t items) (i : Nat) (x : It) (hx : items[i]? = some x) : Calls Tryd.prog 56 #[.pointer (some ⟨t, 0, none⟩), .int .i64 (i : Int)] w fun e w' => e = .returned (.tuple #[itV x, .int .i64 0]) ∧ Below w.heap.size w w' := by
  obtain ⟨a, cap, mb, hr, _⟩ := h.read
  obtain ⟨hi, rfl⟩ := List.getElem?_eq_some_iff.1 hx
  have hb := below_new w (.cells #[.int .u8 0, .int .u8 0, .int .i64 0, .int .i64 0] 81)
  have hr1 := hr.up hb
  have c1 := hr1.c1
  have hf := Tryd.tref_ok hr1 i hi
  obtain ⟨g, o, hio, q0, q1, q2, q3⟩ := hr1.at i hi
  generalize items[i] = x at *
  obtain ⟨op, p, xa, xb⟩ := x
  dsimp only at q0 q1 q2 q3
  clear h hr hr1
  go_enter Tryd.func56, Tryd.ntmps56
  go_wp2_with (go_at_call 73; refine hf.mono ?_; rintro e w' ⟨rfl, rfl⟩)
  refine bodyPost_ret (v := .tuple #[.agg #[.int .u8 (op : Int), .int .u8 (p : Int), .int .i64 xa, .int .i64 xb], .int .i64 0]) (by simp [results, Tryd.results56, go_sem]) rfl ⟨rfl, below_new _ _⟩
/-- A list of numbers, as the walk reads it. -/
def NsSl (w : World) (a : Option Addr) (len cap : Nat) (ns : List Nat) : Prop := IntSl Tryd.prog 31 .i64 w a len cap (ns.map fun n : Nat => (n : Int))
theorem NsSl.at {w : World} {a : Option Addr} {len cap : Nat} {ns : List Nat} (h : NsSl w a len cap ns) (k : Nat) (hk : k < ns.length) : ∃ g o s, (∀ w', (Instr.indexAt 31 (.slice a len cap) (.int .i64 (k : Int))).run Tryd.prog w' = .ok (.pointer (some ⟨g, o, s⟩)) w') ∧ w.cell? ⟨g, o, s⟩ = some (.int .i64 (ns[k] : Int)) := by
  have hl := h.hlen
  rw [List.length_map] at hl
  have h1 := fun w' => h.idx len k w' (by omega) (Nat.le_refl _)
  have h2 := h.cell k (by omega)
  rw [show (ns.map fun n : Nat => (n : Int)).getD k 0 = (ns[k] : Int) by simp [List.getD, hk]] at h2
  generalize adOf a k = y at *
  obtain ⟨g, o, s⟩ := y
  exact ⟨g, o, s, h1, h2⟩
theorem NsSl.up {w w' : World} {a : Option Addr} {len cap : Nat} {ns : List Nat} (h : NsSl w a len cap ns) (hb : Below w.heap.size w w') : NsSl w' a len cap ns := IntSl.up h hb
set_option maxRecDepth 100000 in
set_option maxHeartbeats 2000000 in
theorem Tryd.titemOf_any (op p : Nat) (a : Option Addr) (len cap : Nat) (ns : List Nat) (w : World) (hN : NsSl w a len cap ns) (hl : len ≤ 2) : Calls Tryd.prog 80 #[.agg #[.int .u8 (op : Int), .int .u8 (p : Int)], .slice a len cap] w fun e w' => e = .returned (itV (itemOf (op, p) ns)) ∧ Below w.heap.size w w' := by
  have hlen : ns.length = len := by have := hN.hlen; rwa [List.length_map] at this
  subst hlen
  have hb : ∀ u v : Int, Below w.heap.size w (((w.alloc (.cells #[.int .u8 (op : Int), .int .u8 (p : Int)] 49)).alloc (.cells #[.int .u8 0, .int .u8 0, .int .i64 0, .int .i64 0] 81)).alloc (.cells #[.int .u8 (op : Int), .int .u8 (p : Int), .int .i64 u, .int .i64 v] 81)) := fun u v => below_step (below_step (below_new w _) (below_new _ _)) (below_new _ _)
  have fin : ∀ u v : Int, Below w.heap.size w (((w.alloc (.cells #[.int .u8 (op : Int), .int .u8 (p : Int)] 49)).alloc (.cells #[.int .u8 (op : Int), .int .u8 (p : Int), .int .i64 u, .int .i64 v] 81)).alloc (.cells #[.int .u8 (op : Int), .int .u8 (p : Int), .int .i64 u, .int .i64 v] 81)) := fun u v => below_step (below_step (below_new w _) (below_new _ _)) (below_new _ _)
  match ns, hl, hN with
  | [], _, hN =>
    clear hN hb
    go_enter Tryd.func80, Tryd.ntmps80
    go_wp2
    refine bodyPost_ret (v := .agg #[.int .u8 (op : Int), .int .u8 (p : Int), .int .i64 (-1), .int .i64 (-1)]) (by simp [results, Tryd.results80, go_sem]) rfl ⟨rfl, fin _ _⟩
  | [x], _, hN =>
    obtain ⟨g, o, s, hi, hc⟩ := (hN.up (hb (-1) (-1))).at 0 (by simp)
    have hi' : ∀ w', (Instr.indexAt 31 (.slice a 1 cap) (.int .i64 0)).run Tryd.prog w' = .ok (.pointer (some ⟨g, o, s⟩)) w' := hi
    dsimp only [List.getElem_cons_zero] at hc
    clear hN hb hi
    go_enter Tryd.func80, Tryd.ntmps80
    go_wp2
    refine bodyPost_ret (v := .agg #[.int .u8 (op : Int), .int .u8 (p : Int), .int .i64 (x : Int), .int .i64 (-1)]) (by simp [results, Tryd.results80, go_sem]) rfl ⟨rfl, fin _ _⟩
  | [x, y], _, hN =>
    obtain ⟨g, o, s, hi, hc⟩ := (hN.up (hb (-1) (-1))).at 0 (by simp)
    obtain ⟨g2, o2, s2, hi2, hc2⟩ := (hN.up (hb x (-1))).at 1 (by simp)
    have hi' : ∀ w', (Instr.indexAt 31 (.slice a 2 cap) (.int .i64 0)).run Tryd.prog w' = .ok (.pointer (some ⟨g, o, s⟩)) w' := hi
    have hi2' : ∀ w', (Instr.indexAt 31 (.slice a 2 cap) (.int .i64 1)).run Tryd.prog w' = .ok (.pointer (some ⟨g2, o2, s2⟩)) w' := hi2
    dsimp only [List.getElem_cons_zero, List.getElem_cons_succ] at hc hc2
    clear hN hb hi hi2
    go_enter Tryd.func80, Tryd.ntmps80
    go_wp2
    refine bodyPost_ret (v := .agg #[.int .u8 (op : Int), .int .u8 (p : Int), .int .i64 (x : Int), .int .i64 (y : Int)]) (by simp [results, Tryd.results80, go_sem]) rfl ⟨rfl, fin _ _⟩
  | _ :: _ :: _ :: _, h, _ => simp at h
end Go.Proofs.YtnedkpbpeolfoaaDoor
namespace Go.Proofs.YtnedkpbpeolfoaaDoor
open Go.RowKit Go.Maps
def itO (x : It) : Obj := .cells #[.int .u8 (x.op : Int), .int .u8 (x.p : Int), .int .i64 x.a, .int .i64 x.b] 81 (0, 0)
/-- One item more behind a row of items. -/
theorem Tryd.wp_it {w : World} {o : Oper} {a : Act} {K : Act → World → Prop} {Q : Exit → Act → World → Prop} (s x : Operand)
    (ho : o.op = .call { callee := .builtin .append, args := #[s, x], argTypes := #[25, 25] })
    (v : Value) (n : Nat) (items : List It) (y : It) (g : Nat) (hs : a.eval s = v) (hx : a.eval x = .slice (some ⟨g, 0, none⟩) 1 1) (hown : w.ownsRow 0 81 4 v n (encI items))
    (hB : w.heap[g]? = some (itO y)) (hn : n ≤ 100000000)
    (h : ∀ v' w', w'.ownsRow 0 81 4 v' (n + 1) (encI (items ++ [y])) → w.grownBy w' v.ownBlock → (v'.ownBlock = v.ownBlock ∨ v'.ownBlock = some w.heap.size) → K (a.put o.dst v') w') : o.wp Tryd.prog a w K Q := by
  obtain ⟨i, hi, hz0, hz1, hz2⟩ := info_parts Tryd.infoItem
  obtain ⟨v', w', hr, h2, h3, _, h5⟩ := run_append_own_at (P := Tryd.prog) w 0 25 o.type 81 i _ 4 24 Tryd.underlying25 hi hz0 hz1 hz2 rfl (by decide) v n _ hown ⟨g, 0, none⟩ 1 1 (encI [y]) rfl (fun j u hj => by
    rw [add_plain, Nat.zero_add, cell_row hB]
    simpa [encI] using hj) (four_oneCell y) (by unfold maxLen; omega) (by omega) (Nat.zero_le _)
  unfold Oper.wp execOp
  simp only [ho, resolve, invoke, builtin, Sem.run_bind, Sem.run_pure, Result.andThen_ok, List.map_toArray, List.map_cons, List.map_nil, hs, hx, hr]
  exact h v' w' (by rw [encI_append]; exact h2) h3 h5
theorem Tryd.stepg_it {w : World} {ops : Array Oper} {o : Oper} {a : Act} {K : Act → World → Prop} {Q : Exit → Act → World → Prop} {E : Prop} (hw : Region.wanted o (yielded ops a.tmps) = true) (s x : Operand)
    (ho : o.op = .call { callee := .builtin .append, args := #[s, x], argTypes := #[25, 25] })
    (v : Value) (n : Nat) (items : List It) (y : It) (g : Nat) (hs : a.eval s = v) (hx : a.eval x = .slice (some ⟨g, 0, none⟩) 1 1) (hown : w.ownsRow 0 81 4 v n (encI items))
    (hB : w.heap[g]? = some (itO y)) (hn : n ≤ 100000000)
    (h : ∀ v' w', w'.ownsRow 0 81 4 v' (n + 1) (encI (items ++ [y])) → w.grownBy w' v.ownBlock → (v'.ownBlock = v.ownBlock ∨ v'.ownBlock = some w.heap.size) → K (a.put o.dst v') w') :
    if Region.wanted o (yielded ops a.tmps) = true then Oper.wp Tryd.prog o a w K Q else E := by
  rw [if_pos hw]
  exact Tryd.wp_it s x ho v n items y g hs hx hown hB hn h
theorem own_slI {w : World} {base e size n : Nat} {v : Value} {xs : List Value} (h : w.ownsRow base e size v n xs) : ∃ a cap, v = .slice a n cap := by
  rcases h.2 with ⟨rfl, rfl⟩ | ⟨g, cap, cur, rfl, _⟩
  · exact ⟨none, 0, rfl⟩
  · exact ⟨_, cap, rfl⟩
/-- A row of items is no other block. -/
theorem own_neI {w : World} {base n g : Nat} {v : Value} {xs : List Value} {o : Obj} (h : w.ownsRow base 81 4 v n xs) (hg : w.heap[g]? = some o) (ho : ∀ cs, o ≠ .cells cs 81 (0, 0)) : v.ownBlock ≠ some g := by
  rcases h.2 with ⟨rfl, _⟩ | ⟨g', cap, cur, rfl, _, hc, _⟩
  · intro e; cases e
  · intro e
    injection e with e
    dsimp only at e
    subst e
    rw [hg] at hc
    injection hc with hc
    exact ho _ hc
/-- Items, one more, are found as they should. -/
theorem posI_more {items : List It} {x : It} (hx : x ∉ items) (y : It) : (if y = x then some items.length else posI items y) = posI (items ++ [x]) y := by
  unfold posI
  rw [List.findIdx?_append]
  by_cases e : y = x
  · subst e
    rw [if_pos rfl, show items.findIdx? (· = y) = none from posI_none.2 hx]
    simp
  · rw [if_neg e]
    have : ¬ x = y := fun h => e h.symm
    simp [this]
/-- What the walk of add has behind the items' growing. -/
structure Mid (w w6 : World) (t : Nat) (a6 : Option Addr) (n c6 mb : Nat) (items : List It) (x : It) (a : Option Addr) (cap : Nat) : Prop where
  blk : w6.heap[t]? = some (.cells #[tbV t, .slice a6 (n + 1) c6, .map (some mb)] 112 (0, 0))
  row : w6.ownsRow 0 81 4 (.slice a6 (n + 1) c6) (n + 1) (encI (items ++ [x]))
  num : NumOf w6 mb n (posI items)
  box : w6.heap[w.heap.size]? = some (itO x)
  os : w6.os = w.os
  tape : w6.tape = w.tape
  output : w6.output = w.output
  size : w.heap.size < w6.heap.size
  keep : ∀ k, k < w.heap.size → k ≠ t → (Value.slice a n cap).ownBlock ≠ some k → w6.heap[k]? = w.heap[k]?
  loc : ∀ k, (Value.slice a6 (n + 1) c6).ownBlock = some k → (Value.slice a n cap).ownBlock = some k ∨ w.heap.size ≤ k
theorem mid_of {w w5 : World} {t n cap mb : Nat} {a : Option Addr} {items : List It} (h : TabR w t a n cap mb items) (x : It)
    (hg : ((w.alloc (itO x)).alloc (itO x)).drew.grownBy w5 (Value.slice a n cap).ownBlock) (a5 : Option Addr) (c5 : Nat) (ho : w5.ownsRow 0 81 4 (.slice a5 (n + 1) c5) (n + 1) (encI (items ++ [x])))
    (hl : (Value.slice a5 (n + 1) c5).ownBlock = (Value.slice a n cap).ownBlock ∨ (Value.slice a5 (n + 1) c5).ownBlock = some ((w.alloc (itO x)).alloc (itO x)).drew.heap.size) :
    w5.heap[t]? = some (.cells #[tbV t, .slice a n cap, .map (some mb)] 112 (0, 0)) ∧ Mid w (w5.setCell ⟨t, 1, none⟩ (.slice a5 (n + 1) c5)) t a5 n c5 mb items x a cap := by
  have hb1 := below_new w (itO x)
  have hb2 := below_step hb1 (below_new (w.alloc (itO x)) (itO x))
  have htl := (Array.getElem?_eq_some_iff.1 h.blk).1
  have hne : (Value.slice a n cap).ownBlock ≠ some t := own_neI h.row h.blk (fun cs e => by injection e with _ e _; exact absurd e (by decide))
  obtain ⟨es, cl, hmap⟩ := h.num.isMap
  have hnm : (Value.slice a n cap).ownBlock ≠ some mb := own_neI h.row hmap (fun cs e => by cases e)
  have hmt : mb ≠ t := fun e => by rw [e, h.blk] at hmap; cases hmap
  have hz2 : ((w.alloc (itO x)).alloc (itO x)).drew.heap.size = w.heap.size + 2 := by simp
  have hlb : ∀ k, (Value.slice a n cap).ownBlock = some k → k < w.heap.size := own_lt h.row
  have st : ∀ k, k < w.heap.size → (Value.slice a n cap).ownBlock ≠ some k → w5.heap[k]? = w.heap[k]? := fun k hk hn => (hg.block k (by omega) (fun e => hn e.symm)).trans (hb2.block k hk)
  have h5 : w5.heap[t]? = some (.cells #[tbV t, .slice a n cap, .map (some mb)] 112 (0, 0)) := (st t htl hne).trans h.blk
  have hs5 := hg.size
  refine ⟨h5, ⟨?_, ?_, ?_, ?_, hg.os, hg.tape, hg.output, ?_, fun k hk hkt hkn => ?_, fun k hk => ?_⟩⟩
  · rw [heap_setCell_same w5 t 1 _ _ _ h5]; rfl
  · refine owns_off ho fun k hk => Below.heap_setCell _ _ _ _ ?_
    dsimp only
    rintro rfl
    rcases hl with e | e
    · rw [e] at hk; exact hne hk
    · rw [e] at hk; injection hk with hk; omega
  · exact h.num.far ((Below.heap_setCell _ _ _ _ (by dsimp only; exact hmt)).trans (st mb h.num.lt hnm))
  · refine (Below.heap_setCell _ _ _ _ (by dsimp only; omega)).trans ((hg.block _ (by omega) (fun e => ?_)).trans ?_)
    · have := hlb _ e.symm; omega
    · exact ((below_new (w.alloc (itO x)) (itO x)).block _ (by simp)).trans (MapKept.heap_alloc w (itO x)).1
  · simp; omega
  · exact (Below.heap_setCell _ _ _ _ (by dsimp only; exact hkt)).trans (st k hk hkn)
  · rcases hl with e | e
    · rw [e] at hk; exact Or.inl hk
    · rw [e] at hk; injection hk with hk; right; omega
theorem add_fin {w w6 w7 : World} {F : Nat → Prop} {t cap mb : Nat} {a : Option Addr} {items : List It} (h : TabI w F t items) (hF : ∀ k, F k ↔ (k = t ∨ k = mb ∨ (Value.slice a items.length cap).ownBlock = some k)) {x : It} (hx : ItOk x) (hn : x ∉ items) (hl : items.length < 4096)
    {a6 : Option Addr} {c6 : Nat} (m : Mid w w6 t a6 items.length c6 mb items x a cap) (hn7 : NumOf w7 mb (items.length + 1) (fun y => if y = x then some items.length else posI items y)) (hg : w6.drew.grownBy w7 (some mb)) (hmw : mb < w.heap.size) :
    ∃ F', TabI w7 F' t (items ++ [x]) ∧ Fr w w7 F F' := by
  have hsz := m.size
  have hs7 := hg.size
  have hs7' : w6.heap.size ≤ w7.heap.size := hs7
  obtain ⟨es, cl, hmap⟩ := m.num.isMap
  have hmt : t ≠ mb := fun e => by rw [← e, m.blk] at hmap; cases hmap
  have hnm : (Value.slice a6 (items.length + 1) c6).ownBlock ≠ some mb := own_neI m.row hmap (fun cs e => by cases e)
  have htl : t < w6.heap.size := (Array.getElem?_eq_some_iff.1 m.blk).1
  have st : ∀ k, k < w6.heap.size → k ≠ mb → w7.heap[k]? = w6.heap[k]? := fun k hk hne => hg.block k hk (fun e => hne (by injection e))
  refine ⟨fun k => k = t ∨ k = mb ∨ (Value.slice a6 (items.length + 1) c6).ownBlock = some k, ⟨?_, ?_, ?_, .slice a6 (items.length + 1) c6, mb, (st t htl hmt).trans m.blk, ?_, ?_, fun k => Iff.rfl⟩, ?_⟩
  · exact List.nodup_append.2 ⟨h.nd, by simp, fun a ha b hb => by simp at hb; subst hb; exact fun e => hn (e ▸ ha)⟩
  · simp; omega
  · intro y hy
    rcases List.mem_append.1 hy with hy | hy
    · exact h.ok y hy
    · simp at hy; subst hy; exact hx
  · rw [List.length_append]
    exact owns_off m.row fun k hk => st k (own_lt m.row k hk) (fun e => hnm (e ▸ hk))
  · rw [List.length_append]
    exact hn7.alike fun y _ => posI_more hn y
  · refine ⟨hg.os.trans m.os, hg.tape.trans m.tape, hg.output.trans m.output, by omega, fun k hk hf => ?_, fun k hk => ?_⟩
    · have hf' := fun e => hf ((hF k).2 e)
      exact (st k (by omega) (fun e => hf' (Or.inr (Or.inl e)))).trans (m.keep k hk (fun e => hf' (Or.inl e)) (fun e => hf' (Or.inr (Or.inr e))))
    · rcases hk with rfl | rfl | hk
      · exact Or.inl ((hF k).2 (Or.inl rfl))
      · exact Or.inl ((hF k).2 (Or.inr (Or.inl rfl)))
      · rcases m.loc k hk with e | e
        · exact Or.inl ((hF k).2 (Or.inr (Or.inr e)))
        · exact Or.inr e
set_option maxRecDepth 100000 in
set_option maxHeartbeats 4000000 in
theorem Tryd.tadd_any {w : World} {F : Nat → Prop} {t : Nat} {items : List It} (h : TabI w F t items) (x : It) (hx : ItOk x) (hn : x ∉ items) (hl : items.length < 4096) :
    Calls Tryd.prog 71 #[.pointer (some ⟨t, 0, none⟩), itV x] w fun e w' => e = .returned (.int .i64 (items.length : Int)) ∧ ∃ F', TabI w' F' t (items ++ [x]) ∧ Fr w w' F F' := by
  obtain ⟨a, cap, mb, hr, hF⟩ := h.read
  have HR : Hid _ := hr
  have HF : Hid _ := hF
  have HI : Hid _ := h
  have HX : Hid _ := hx
  have HN : Hid _ := hn
  have hb1 := below_new w (itO x)
  have hr1 := hr.up hb1
  have c1 := hr1.c1
  have c1b := (hr1.up (below_new (w.alloc (itO x)) (itO x))).c1
  have hO : ((w.alloc (itO x)).alloc (itO x)).drew.ownsRow 0 81 4 (.slice a items.length cap) items.length (encI items) := World.ownsRow.alloc (World.ownsRow.alloc hr.row _) _
  have hB : ((w.alloc (itO x)).alloc (itO x)).drew.heap[w.heap.size + 1]? = some (itO x) := by
    have := (MapKept.heap_alloc (w.alloc (itO x)) (itO x)).1
    rw [show (w.alloc (itO x)).heap.size = w.heap.size + 1 by simp] at this
    exact this
  have hn4 : items.length ≤ 4096 := by omega
  have hmid := fun w5 hg a5 c5 ho hl => mid_of (w5 := w5) hr x hg a5 c5 ho hl
  have HM : Hid _ := hmid
  clear h hr hr1 hF hx hn hb1 hmid
  obtain ⟨op, p, xa, xb⟩ := x
  unfold itO at hO hB HM c1 c1b
  dsimp only at hO hB HM c1 c1b
  unfold itV
  dsimp only
  generalize hL : items.length = L at *
  have HL : Hid (items.length = L) := hL
  clear hL
  go_enter Tryd.func71, Tryd.ntmps71
  go_upto_region 15 with fail
  go_region_law ((refine Tryd.stepg_it rfl _ _ rfl (.slice a L cap) L items ⟨op, p, xa, xb⟩ (w.heap.size + 1) rfl rfl hO hB (by omega) ?_; intro v5 w5 hown5 hgr5 hloc5; obtain ⟨a5, k5, rfl⟩ := own_slI hown5; have m5 := HM.out w5 hgr5 a5 k5 hown5 hloc5; have c5 : w5.cell? ⟨t, 1, none⟩ = some (.slice a L cap) := cell_row m5.1 1; have z5 : w5.frozen? ⟨t, 1, none⟩ = false := frozen_of_row w5 _ 1 _ _ m5.1))
  all_goals
    have HM6 : Hid _ := m5.2
    clear hO hB c1 c1b c5 z5 m5 hown5 hgr5 hloc5
    generalize w5.setCell ⟨t, 1, none⟩ (.slice a5 (L + 1) k5) = w6 at *
    have t2 : w6.cell? ⟨t, 2, none⟩ = some (.map (some mb)) := cell_row HM6.out.blk 2
    have b0 : w6.cell? ⟨w.heap.size, 0, none⟩ = some (.int .u8 (op : Int)) := cell_row HM6.out.box 0
    have b1 : w6.cell? ⟨w.heap.size, 1, none⟩ = some (.int .u8 (p : Int)) := cell_row HM6.out.box 1
    have b2 : w6.cell? ⟨w.heap.size, 2, none⟩ = some (.int .i64 xa) := cell_row HM6.out.box 2
    have b3 : w6.cell? ⟨w.heap.size, 3, none⟩ = some (.int .i64 xb) := cell_row HM6.out.box 3
    obtain ⟨w7, hrun, hn7, hg7⟩ := (show NumOf w6.drew mb L (posI items) from HM6.out.num).put (by omega) (x := ⟨op, p, xa, xb⟩) HX.out (posI_none.2 HN.out) L (by omega)
    unfold itV at hrun
    dsimp only at hrun
    have HN7 : Hid _ := hn7
    have HG7 : Hid _ := hg7
    clear hn7 hg7
    go_upto_region 15 with fail
    go_region
    all_goals
      clear hrun t2 b0 b1 b2 b3
      go_wp2
      go_ret
      have e := HL.out
      subst e
      exact ⟨rfl, add_fin HI.out HF.out HX.out HN.out hl HM6.out HN7.out HG7.out HR.out.num.lt⟩
end Go.Proofs.YtnedkpbpeolfoaaDoor
namespace Go.Proofs.YtnedkpbpeolfoaaDoor
open Go.RowKit Go.Maps
def SOk (x : ByteArray) : Prop := x.size ≤ 100000000
def klS (x : ByteArray) : Lit := .string x.data.toList
theorem Tryd.lawStr : Keyed Tryd.prog 9 := string_keyed Tryd.underlying9
theorem Tryd.stKey (x : ByteArray) (h : SOk x) : keyOf Tryd.prog 9 (.string x) = some (klS x) := WideMaps.keyOf_string_mk Tryd.underlying9 (by unfold SOk at h; unfold maxLen; omega)
theorem klS_inj {x y : ByteArray} (h : klS x = klS y) : x = y := by
  injection h with h
  obtain ⟨⟨x⟩⟩ := x
  obtain ⟨⟨y⟩⟩ := y
  simp at h
  rw [h]
theorem klS_key (x : ByteArray) : WideAt.IsKeyLit (klS x) := trivial
/-- A block that is a map of n entries, from texts to numbers. -/
def NumS (w : World) (b n : Nat) (f : ByteArray → Option Nat) : Prop :=
  ∃ D : DataW Unit, w.ownsMap Tryd.prog 9 (plainElem Tryd.prog 3) b n D ∧ Tidy D ∧ Maps.size D = n ∧ ∀ x, SOk x → has D (klS x) = (f x).isSome ∧ ∀ j, f x = some j → D.atKey (klS x) (.lit (.int .i64 0)) = .lit (.int .i64 (j : Int))
theorem NumS.lt {w : World} {b n : Nat} {f : ByteArray → Option Nat} (h : NumS w b n f) : b < w.heap.size := by
  obtain ⟨D, h, _⟩ := h; exact h.lt
theorem NumS.far {w w' : World} {b n : Nat} {f : ByteArray → Option Nat} (h : NumS w b n f) (hb : w'.heap[b]? = w.heap[b]?) : NumS w' b n f := by
  obtain ⟨D, ⟨es, clock, h1, h2⟩, r⟩ := h
  exact ⟨D, ⟨es, clock, hb.trans h1, h2⟩, r⟩
theorem NumS.isMap {w : World} {b n : Nat} {f : ByteArray → Option Nat} (h : NumS w b n f) : ∃ es c, w.heap[b]? = some (.map es c) := by
  obtain ⟨D, ⟨es, clock, h1, h2⟩, r⟩ := h
  exact ⟨es, clock, h1⟩
theorem NumS.alike {w : World} {b n : Nat} {f g : ByteArray → Option Nat} (h : NumS w b n f) (hg : ∀ x, SOk x → f x = g x) : NumS w b n g := by
  obtain ⟨D, h1, h2, h3, h4⟩ := h
  exact ⟨D, h1, h2, h3, fun x hx => by rw [← hg x hx]; exact h4 x hx⟩
theorem nums_made (w : World) : NumS (w.alloc (.map #[] 0)) w.heap.size 0 (fun _ => none) :=
  ⟨.map [], World.ownsMap_made _ _ _ _, tidy_empty, rfl, fun x _ => ⟨rfl, fun j hj => by cases hj⟩⟩
theorem Tryd.zeroIntS (w : World) : (zeroValue 3).run Tryd.prog w = .ok (.int .i64 0) w := by kernel_rfl
set_option maxRecDepth 100000 in
/-- What is found at a text. -/
theorem NumS.look {w : World} {b n : Nat} {f : ByteArray → Option Nat} (h : NumS w b n f) {x : ByteArray} (hx : SOk x) :
    (Instr.lookup 30 (.map (some b)) (.string x) true).run Tryd.prog w = .ok (.tuple #[.int .i64 (((f x).getD 0 : Nat) : Int), .bool (f x).isSome]) w := by
  obtain ⟨D, h1, h2, h3, h4⟩ := h
  obtain ⟨hh, ha⟩ := h4 x hx
  obtain ⟨v, ps, hrun, hv⟩ := h1.look_ok Tryd.lawStr Tryd.underlying30 (Tryd.zeroIntS w) (plainElem_int Tryd.underlying3 (by decide)) (Tryd.stKey x hx)
  obtain ⟨c, rfl, hc, hwc⟩ := plainElem_int_inv Tryd.underlying3 hv
  have hc' : D.atKey (klS x) (.lit (.int .i64 0)) = .lit (.int .i64 c) := congrArg Prod.fst hc
  rw [hrun, hh]
  cases hf : f x with
  | none =>
    rw [hf] at hh
    rw [atKey_of_not_has hh] at hc'
    injection hc' with hc'
    injection hc' with _ hc'
    subst hc'
    rfl
  | some j =>
    rw [ha j hf] at hc'
    injection hc' with hc'
    injection hc' with _ hc'
    subst hc'
    rfl
set_option maxRecDepth 100000 in
/-- A text that was not there gets a number. -/
theorem NumS.put {w : World} {b n : Nat} {f : ByteArray → Option Nat} (h : NumS w b n f) (hn : n ≤ 4096) {x : ByteArray} (hx : SOk x) (hf : f x = none) (j : Nat) (hj : j ≤ 4096) :
    ∃ w', (Instr.mapUpdate 30 (.map (some b)) (.string x) (.int .i64 (j : Int))).run Tryd.prog w = .ok () w' ∧ NumS w' b (n + 1) (fun y => if y = x then some j else f y) ∧ w.grownBy w' (some b) := by
  obtain ⟨D, h1, h2, h3, h4⟩ := h
  obtain ⟨hh, _⟩ := h4 x hx
  rw [hf] at hh
  obtain ⟨w', hrun, hown, hg⟩ := h1.update Tryd.lawStr Tryd.underlying30 (by unfold maxLen; omega) (Tryd.stKey x hx) (plainElem_int (a := (j : Int)) Tryd.underlying3 (WalkArith.wf_i64 (by omega)))
  refine ⟨w', hrun, ⟨_, hown, h2.put (klS_key x) _, ?_, fun y hy => ?_⟩, hg⟩
  · rw [size_put h2, hh, h3]; rfl
  · dsimp only
    by_cases e : y = x
    · subst e
      rw [if_pos rfl]
      refine ⟨has_put_same h2.isMap (klS_key y) _, fun i hi => ?_⟩
      injection hi with hi
      subst hi
      exact atKey_put_same h2.isMap (klS_key y) _ _
    · have ne : klS y ≠ klS x := fun he => e (klS_inj he)
      rw [if_neg e, has_put_other ne]
      refine ⟨(h4 y hy).1, fun i hi => ?_⟩
      rw [atKey_put_other ne]
      exact (h4 y hy).2 i hi
set_option maxRecDepth 100000 in
/-- A text that was there is taken out. -/
theorem NumS.drop {w : World} {b n : Nat} {f : ByteArray → Option Nat} (h : NumS w b n f) {x : ByteArray} (hx : SOk x) (hf : (f x).isSome = true) (ty : TypeId) :
    ∃ w', (Builtin.delete_ #[30, 9] ty #[.map (some b), .string x]).run Tryd.prog w = .ok (.tuple #[]) w' ∧ NumS w' b (n - 1) (fun y => if y = x then none else f y) ∧ w.grownBy w' (some b) := by
  obtain ⟨D, h1, h2, h3, h4⟩ := h
  obtain ⟨hh, _⟩ := h4 x hx
  rw [hf] at hh
  obtain ⟨w', hrun, hown, ht⟩ := h1.drop Tryd.lawStr Tryd.underlying30 (Tryd.stKey x hx) ty
  have hsz : Maps.size (D.del (klS x)) = n - 1 := by
    have := size_del (k := klS x) h2
    rw [hh] at this
    simp at this
    omega
  have hown' : w'.ownsMap Tryd.prog 9 (plainElem Tryd.prog 3) b (n - 1) (D.del (klS x)) := by
    obtain ⟨es, clock, g1, g2, g3, g4⟩ := hown
    refine ⟨es, clock, g1, g2, ?_, g4⟩
    rw [← hsz, g4]
    simp [Maps.size, length_sorted]
  refine ⟨w', hrun, ⟨_, hown', h2.del _, hsz, fun y hy => ?_⟩, ht.grown⟩
  dsimp only
  by_cases e : y = x
  · subst e
    rw [if_pos rfl]
    exact ⟨has_del_same, fun i hi => by cases hi⟩
  · have ne : klS y ≠ klS x := fun he => e (klS_inj he)
    rw [if_neg e, has_del_other ne]
    refine ⟨(h4 y hy).1, fun i hi => ?_⟩
    rw [atKey_del_other ne]
    exact (h4 y hy).2 i hi
end Go.Proofs.YtnedkpbpeolfoaaDoor
namespace Go.Proofs.YtnedkpbpeolfoaaDoor
def hgt : Tr → Nat
  | .leaf _ => 1
  | .un k c => if k.1 = 6 then 1 else hgt c + 1
  | .bin _ c d => max (hgt c) (hgt d) + 1
theorem hgt_size : ∀ T : Tr, hgt T ≤ T.size
  | .leaf _ => Nat.le_refl _
  | .un k c => by
    have := hgt_size c
    unfold hgt Tr.size
    split <;> omega
  | .bin k c d => by
    have := hgt_size c
    have := hgt_size d
    have := size_pos c
    have := size_pos d
    unfold hgt Tr.size
    omega
theorem hgt_pos (T : Tr) : 0 < hgt T := by
  cases T with
  | leaf k => exact Nat.one_pos
  | un k c => unfold hgt; split <;> omega
  | bin k c d => unfold hgt; omega
theorem hgt_neg : ∀ T : Tr, KT T → hgt (kTr T).2 = hgt T
  | .leaf (op, p), hT => by
    rcases kt_leaf hT with ⟨rfl, _⟩ | ⟨rfl, rfl | rfl | rfl | rfl⟩ <;> rfl
  | .un (op, p) c, hT => by
    rcases kt_un hT with ⟨rfl, ⟨rfl, q, rfl⟩ | ⟨ho, hc⟩⟩
    · rfl
    · have ih := hgt_neg c hc
      rcases ho with rfl | rfl
      · show hgt (kTr c).2 + 1 = hgt c + 1
        rw [ih]
      · show hgt (kTr c).2 + 1 = hgt c + 1
        rw [ih]
  | .bin (op, p) c d, hT => by
    obtain ⟨rfl, ho⟩ := kt_bin hT
    rcases ho with rfl | rfl | rfl | rfl | rfl | rfl
    · obtain ⟨kc, kd⟩ := kt_and hT (by simp)
      show max (hgt (kTr c).2) (hgt (kTr d).2) + 1 = _
      rw [hgt_neg c kc, hgt_neg d kd]; rfl
    · obtain ⟨kc, kd⟩ := kt_and hT (by simp)
      show max (hgt (kTr c).2) (hgt (kTr d).2) + 1 = _
      rw [hgt_neg c kc, hgt_neg d kd]; rfl
    · obtain ⟨kc, kd⟩ := kt_and hT (by simp)
      show max (hgt (kTr c).2) (hgt (kTr d).2) + 1 = _
      rw [hgt_neg c kc, hgt_neg d kd]; rfl
    · obtain ⟨kc, kd⟩ := kt_and hT (by simp)
      show max (hgt (kTr c).2) (hgt (kTr d).2) + 1 = _
      rw [hgt_neg c kc, hgt_neg d kd]; rfl
    · obtain ⟨kc, kd⟩ := kt_way hT (by simp)
      show max (hgt (kTr c).1) (hgt (kTr d).2) + 1 = _
      rw [(ker_same c kc.wf kc.kr).1, hgt_neg d kd]; rfl
    · obtain ⟨kc, kd⟩ := kt_way hT (by simp)
      show max (hgt (kTr c).1) (hgt (kTr d).2) + 1 = _
      rw [(ker_same c kc.wf kc.kr).1, hgt_neg d kd]; rfl
/-- What is satisfied at the end, by trees. -/
def endB : Tr → Bool
  | .leaf k => k.1 == 0 || k.1 == 5
  | .un k c => if k.1 = 6 then true else if k.1 = 20 then endB c else k.1 == 8 || k.1 == 23
  | .bin k c d => if k.1 = 11 then endB c && endB d else if k.1 = 12 then endB c || endB d else if k.1 = 16 then true else if k.1 = 17 then endB c && endB d else if k.1 = 18 then !endB c || endB d
    else if k.1 = 21 then endB c || endB d else if k.1 = 22 then endB c && endB d else false
theorem end_in {r : Tr} (h : KP r) {k : Nat} (hw : (semTr [] r).2 0 k) : k = 0 := by
  have := ways_in [] r h.wf 0 k (Nat.le_refl _) hw
  simp at this
  omega
theorem end_both : ∀ T : Tr, (KT T → (endB T = true ↔ (semTr [] T).1 0)) ∧ (KP T → (endB T = true ↔ (semTr [] T).2 0 0))
  | .leaf (op, p) => by
    refine ⟨fun hT => ?_, fun hT => (kp_leaf hT).elim⟩
    rcases kt_leaf hT with ⟨rfl, _⟩ | ⟨rfl, rfl | rfl | rfl | rfl⟩ <;> simp [endB, semTr, semT, leafV]
  | .un (op, p) c => by
    refine ⟨fun hT => ?_, fun hT => ?_⟩
    · rcases kt_un hT with ⟨rfl, ⟨rfl, q, rfl⟩ | ⟨ho, hc⟩⟩
      · simp [endB, semTr, semT, unV, leafV]
      · rcases ho with rfl | rfl
        · simp [endB, semTr, semT, unV]
        · simp [endB, semTr, semT, unV]
    · rcases kp_un hT with ⟨rfl, ⟨rfl, hc, hpl⟩ | ⟨rfl, hc⟩ | ⟨rfl, hc⟩⟩
      · simp [endB, semTr, semT, unY]
      · have ih := (end_both c).1 hc
        simp only [endB, semTr, semT, unY]
        simpa using ih
      · simp only [endB, semTr, semT, unY]
        simp
        exact ⟨0, rfl⟩
  | .bin (op, p) c d => by
    refine ⟨fun hT => ?_, fun hT => ?_⟩
    · obtain ⟨rfl, ho⟩ := kt_bin hT
      rcases ho with rfl | rfl | rfl | rfl | rfl | rfl
      · obtain ⟨kc, kd⟩ := kt_and hT (by simp)
        simp [endB, semTr, semT, binV, (end_both c).1 kc, (end_both d).1 kd]
      · obtain ⟨kc, kd⟩ := kt_and hT (by simp)
        simp [endB, semTr, semT, binV, (end_both c).1 kc, (end_both d).1 kd]
      · simp [endB, semTr, semT, binV]
      · simp [endB, semTr, semT, binV]
      · obtain ⟨kc, kd⟩ := kt_way hT (by simp)
        have ic := (end_both c).2 kc
        have id := (end_both d).1 kd
        show (endB c && endB d) = true ↔ ∃ k, (semTr [] c).2 0 k ∧ (semTr [] d).1 k
        rw [Bool.and_eq_true, ic, id]
        exact ⟨fun h => ⟨0, h⟩, fun ⟨k, h1, h2⟩ => by have e := end_in kc h1; subst e; exact ⟨h1, h2⟩⟩
      · obtain ⟨kc, kd⟩ := kt_way hT (by simp)
        have ic := (end_both c).2 kc
        have id := (end_both d).1 kd
        show (!endB c || endB d) = true ↔ ∀ k, (semTr [] c).2 0 k → (semTr [] d).1 k
        constructor
        · intro h k h1
          have e := end_in kc h1
          subst e
          rw [ic.2 h1] at h
          simp at h
          exact id.1 h
        · intro h
          cases hc : endB c with
          | false => rfl
          | true => simp; exact id.2 (h 0 (ic.1 hc))
    · obtain ⟨rfl, ho, kc, kd⟩ := kp_bin hT
      have ic := (end_both c).2 kc
      have id := (end_both d).2 kd
      rcases ho with rfl | rfl
      · simp [endB, semTr, semT, binY, ic, id]
      · show (endB c && endB d) = true ↔ ∃ j, (semTr [] c).2 0 j ∧ (semTr [] d).2 j 0
        rw [Bool.and_eq_true, ic, id]
        exact ⟨fun h => ⟨0, h⟩, fun ⟨k, h1, h2⟩ => by have e := end_in kc h1; subst e; exact ⟨h1, h2⟩⟩
end Go.Proofs.YtnedkpbpeolfoaaDoor
namespace Go.Proofs.YtnedkpbpeolfoaaDoor
theorem pthM_test (n : Nat) (box : Bool) (c : Tr) (s : List Nat) (f : Tr) (x : Nat) (M : Mt) : pthM (n + 1) box (.un (20, 0) c) s f x M = bindM (aftM n (if box then (kTr c).2 else c) x M) fun a M1 => twoM (!box) a s M1 := rfl
/-- More room changes nothing. -/
theorem fuel_both (x : Nat) : ∀ n, (∀ T, KT T → hgt T ≤ n → aftM n T x = aftM (n + 1) T x) ∧ (∀ box r s f, KP r → hgt r ≤ n → pthM n box r s f x = pthM (n + 1) box r s f x)
  | 0 => ⟨fun T _ h => absurd (hgt_pos T) (by omega), fun box r s f _ h => absurd (hgt_pos r) (by omega)⟩
  | n + 1 => by
    obtain ⟨ih, jh⟩ := fuel_both x n
    refine ⟨fun T hT h => ?_, fun box r s f hr h => ?_⟩
    · match T, hT, h with
      | .leaf k, hT, h => funext M; rw [aftM_leaf, aftM_leaf]
      | .un (op, p) c, hT, h => funext M; rw [aftM_un, aftM_un]
      | .bin (op, p) c d, hT, h =>
        obtain ⟨rfl, ho⟩ := kt_bin hT
        have h2 : max (hgt c) (hgt d) + 1 ≤ n + 1 := h
        funext M
        rw [aftM_bin, aftM_bin]
        by_cases h11 : op = 11 ∨ op = 12
        · obtain ⟨kc, kd⟩ := kt_and hT (by rcases h11 with h | h <;> simp [h])
          rw [if_pos h11, if_pos h11, ih c kc (by omega), ih d kd (by omega)]
        · rw [if_neg h11, if_neg h11]
          by_cases h15 : op = 15 ∨ op = 16
          · obtain ⟨kc, kd⟩ := kt_and hT (by rcases h15 with h | h <;> simp [h])
            rw [if_pos h15, if_pos h15, ih c kc (by omega), ih d kd (by omega)]
          · obtain ⟨kc, kd⟩ := kt_way hT (by omega)
            rw [if_neg h15, if_neg h15, ih d kd (by omega)]
            congr 1
            funext s M1
            rw [jh _ c s d kc (by omega)]
    · match r, hr, h with
      | .leaf k, hr, h => exact (kp_leaf hr).elim
      | .un (op, p) c, hr, h =>
        funext M
        rw [pthM_un, pthM_un]
        rcases kp_un hr with ⟨rfl, ⟨rfl, hc, hpl⟩ | ⟨rfl, hc⟩ | ⟨rfl, hc⟩⟩
        · rw [if_pos rfl, if_pos rfl]
        · have h2 : hgt c + 1 ≤ n + 1 := h
          have hz : ∀ b : Bool, aftM n (if b then (kTr c).2 else c) x = aftM (n + 1) (if b then (kTr c).2 else c) x := fun b => by
            cases b
            · exact ih c hc (by omega)
            · exact ih _ (kt_neg hc) (by rw [if_pos rfl, hgt_neg c hc]; omega)
          show pthM (n + 1) box (.un (20, 0) c) s f x M = pthM (n + 1 + 1) box (.un (20, 0) c) s f x M
          rw [pthM_test, pthM_test, hz box]
        · have h2 : hgt c + 1 ≤ n + 1 := h
          rw [if_neg (by decide), if_neg (by decide), if_neg (by decide), if_neg (by decide), jh _ c _ _ hc (by omega)]
      | .bin (op, p) c d, hr, h =>
        obtain ⟨rfl, ho, kc, kd⟩ := kp_bin hr
        have h2 : max (hgt c) (hgt d) + 1 ≤ n + 1 := h
        funext M
        rw [pthM_bin, pthM_bin]
        rcases ho with rfl | rfl
        · rw [if_pos rfl, if_pos rfl, jh _ c _ _ kc (by omega), jh _ d _ _ kd (by omega)]
        · rw [if_neg (by decide), if_neg (by decide), jh _ d _ _ kd (by omega)]
          congr 1
          funext a M1
          rw [jh _ c _ _ kc (by omega)]
theorem aft_fuel {x : Nat} {T : Tr} (hT : KT T) {n : Nat} (h : hgt T ≤ n) : ∀ k, aftM n T x = aftM (n + k) T x
  | 0 => rfl
  | k + 1 => (aft_fuel hT h k).trans ((fuel_both x (n + k)).1 T hT (by omega))
theorem pth_fuel {x : Nat} {box : Bool} {r : Tr} {s : List Nat} {f : Tr} (hr : KP r) {n : Nat} (h : hgt r ≤ n) : ∀ k, pthM n box r s f x = pthM (n + k) box r s f x
  | 0 => rfl
  | k + 1 => (pth_fuel hr h k).trans ((fuel_both x (n + k)).2 box r s f hr (by omega))
def aftC (T : Tr) (x : Nat) (M : Mt) : Rt := aftM (hgt T) T x M
def pthC (box : Bool) (r : Tr) (s : List Nat) (f : Tr) (x : Nat) (M : Mt) : Rt := pthM (hgt r) box r s f x M
theorem aft_C {x n : Nat} {T : Tr} (hT : KT T) (h : hgt T ≤ n) : aftM n T x = aftC T x := by
  have := aft_fuel (x := x) hT (Nat.le_refl (hgt T)) (n - hgt T)
  rw [show hgt T + (n - hgt T) = n by omega] at this
  rw [← this]; rfl
theorem pth_C {x n : Nat} {box : Bool} {r : Tr} {s : List Nat} {f : Tr} (hr : KP r) (h : hgt r ≤ n) : pthM n box r s f x = pthC box r s f x := by
  have := pth_fuel (x := x) (box := box) (s := s) (f := f) hr (Nat.le_refl (hgt r)) (n - hgt r)
  rw [show hgt r + (n - hgt r) = n by omega] at this
  rw [← this]; rfl
theorem aftC_leaf (k : Tk) (x : Nat) (M : Mt) : aftC (.leaf k) x M = some (yesM (if k.1 = 2 then x.testBit k.2 else k.1 == 0 || k.1 == 4), M) := rfl
theorem aftC_not (p : Nat) (c : Tr) (x : Nat) (M : Mt) : aftC (.un (6, p) c) x M = some (yesM (!plV x c), M) := rfl
theorem aftC_next {op : Nat} (ho : op = 7 ∨ op = 8) (c : Tr) (x : Nat) (M : Mt) : aftC (.un (op, 0) c) x M = bindM (needM (.leaf (if op = 7 then 4 else 5, 0)) M) fun a M1 => bindM (needM c M1) fun b M2 => twoM (op == 7) a b M2 := by
  unfold aftC
  rcases ho with rfl | rfl <;> rfl
theorem aftC_two {op : Nat} {c d : Tr} (hT : KT (.bin (op, 0) c d)) (ho : op = 11 ∨ op = 12) (x : Nat) (M : Mt) : aftC (.bin (op, 0) c d) x M = bindM (aftC c x M) fun a M1 => bindM (aftC d x M1) fun b M2 => twoM (op == 11) a b M2 := by
  obtain ⟨kc, kd⟩ := kt_and hT (by rcases ho with h | h <;> simp [h])
  unfold aftC
  rw [show hgt (.bin (op, 0) c d) = max (hgt c) (hgt d) + 1 from rfl, aftM_bin, if_pos ho, aft_C kc (by omega), aft_C kd (by omega)]; rfl
theorem aftC_until {op : Nat} {c d : Tr} (hT : KT (.bin (op, 0) c d)) (ho : op = 15 ∨ op = 16) (x : Nat) (M : Mt) : aftC (.bin (op, 0) c d) x M = bindM (aftC d x M) fun b M1 => bindM (aftC c x M1) fun a M2 => bindM (needM (.bin (op, 0) c d) M2) fun u M3 => bindM (twoM (op == 15) a u M3) fun v M4 => twoM (op == 16) b v M4 := by
  obtain ⟨kc, kd⟩ := kt_and hT (by rcases ho with h | h <;> simp [h])
  unfold aftC
  rw [show hgt (.bin (op, 0) c d) = max (hgt c) (hgt d) + 1 from rfl, aftM_bin, if_neg (by dsimp only; omega), if_pos ho, aft_C kc (by omega), aft_C kd (by omega)]; rfl
theorem aftC_way {op : Nat} {c d : Tr} (hT : KT (.bin (op, 0) c d)) (ho : op = 17 ∨ op = 18) (x : Nat) (M : Mt) : aftC (.bin (op, 0) c d) x M = bindM (aftC d x M) fun s M1 => pthC (op == 18) c s d x M1 := by
  obtain ⟨kc, kd⟩ := kt_way hT ho
  unfold aftC
  rw [show hgt (.bin (op, 0) c d) = max (hgt c) (hgt d) + 1 from rfl, aftM_bin, if_neg (by dsimp only; omega), if_neg (by dsimp only; omega), aft_C kd (by omega)]
  congr 1
  funext s M1
  rw [pth_C kc (by omega)]
theorem pthC_step (box : Bool) (c : Tr) (s : List Nat) (f : Tr) (x : Nat) (M : Mt) : pthC box (.un (19, 0) c) s f x M = if plV x c then needM f M else some (yesM box, M) := rfl
theorem pthC_test {box : Bool} {c : Tr} (hr : KP (.un (20, 0) c)) (s : List Nat) (f : Tr) (x : Nat) (M : Mt) : pthC box (.un (20, 0) c) s f x M = bindM (aftC (if box then (kTr c).2 else c) x M) fun a M1 => twoM (!box) a s M1 := by
  obtain ⟨_, ⟨h, _⟩ | ⟨_, hc⟩ | ⟨h, _⟩⟩ := kp_un hr
  · cases h
  · unfold pthC
    rw [show hgt (.un (20, 0) c) = hgt c + 1 from rfl, pthM_test]
    have hz : ∀ b : Bool, aftM (hgt c) (if b then (kTr c).2 else c) x = aftC (if b then (kTr c).2 else c) x := fun b => by
      cases b
      · exact aft_C hc (Nat.le_refl _)
      · exact aft_C (kt_neg hc) (by rw [if_pos rfl, hgt_neg c hc]; exact Nat.le_refl _)
    rw [hz box]
  · cases h
theorem pthC_star {box : Bool} {c : Tr} (hr : KP (.un (23, 0) c)) (s : List Nat) (f : Tr) (x : Nat) (M : Mt) : pthC box (.un (23, 0) c) s f x M = bindM (pthC box c (yesM box) (.bin (modeO box, 0) (.un (23, 0) c) f) x M) fun a M1 => twoM box s a M1 := by
  obtain ⟨_, ⟨h, _⟩ | ⟨h, _⟩ | ⟨_, hc⟩⟩ := kp_un hr
  · cases h
  · cases h
  · unfold pthC
    rw [show hgt (.un (23, 0) c) = hgt c + 1 from rfl, pthM_un, if_neg (by decide), if_neg (by decide)]
theorem pthC_plus {box : Bool} {c d : Tr} (hr : KP (.bin (21, 0) c d)) (s : List Nat) (f : Tr) (x : Nat) (M : Mt) : pthC box (.bin (21, 0) c d) s f x M = bindM (pthC box c s f x M) fun a M1 => bindM (pthC box d s f x M1) fun b M2 => twoM box a b M2 := by
  obtain ⟨_, _, kc, kd⟩ := kp_bin hr
  unfold pthC
  rw [show hgt (.bin (21, 0) c d) = max (hgt c) (hgt d) + 1 from rfl, pthM_bin, if_pos rfl, pth_C kc (by omega), pth_C kd (by omega)]; rfl
theorem pthC_seq {box : Bool} {c d : Tr} (hr : KP (.bin (22, 0) c d)) (s : List Nat) (f : Tr) (x : Nat) (M : Mt) : pthC box (.bin (22, 0) c d) s f x M = bindM (pthC box d s f x M) fun a M1 => pthC box c a (.bin (modeO box, 0) d f) x M1 := by
  obtain ⟨_, _, kc, kd⟩ := kp_bin hr
  unfold pthC
  rw [show hgt (.bin (22, 0) c d) = max (hgt c) (hgt d) + 1 from rfl, pthM_bin, if_neg (by decide), pth_C kd (by omega)]
  congr 1
  funext a M1
  rw [pth_C kc (by omega)]; rfl
theorem again_aft (T : Tr) (x : Nat) : Again (aftC T x) := (again_both x _).1 T
theorem kt_step {c : Tr} (h : KP (.un (19, 0) c)) : KT c ∧ plainT c = true := by
  obtain ⟨_, hc, hf, _⟩ := un_cases h.wf
  have hk := h.kr
  simp [fit1T] at hf
  exact ⟨⟨hc, hf.1, by simpa [kerT] using hk⟩, hf.2⟩
theorem two_yes (and a b : Bool) (M : Mt) : twoM and (yesM a) (yesM b) M = some (yesM (if and then a && b else a || b), M) := by
  have h : (if and then andM (yesM a) (yesM b) else orM (yesM a) (yesM b)) = some (yesM (if and then a && b else a || b)) := by
    cases and <;> cases a <;> cases b <;> decide +kernel
  unfold twoM
  rw [h]; rfl
theorem aft_plain {x : Nat} : ∀ {T : Tr} (M : Mt), KT T → plainT T = true → aftC T x M = some (yesM (plV x T), M)
  | .leaf (op, p), M, hT, hp => by
    rw [aftC_leaf]
    rcases kt_leaf hT with ⟨rfl, _⟩ | ⟨rfl, rfl | rfl | rfl | rfl⟩
    · rfl
    · rfl
    · rfl
    · cases hp
    · cases hp
  | .un (op, p) c, M, hT, hp => by
    rcases kt_un hT with ⟨rfl, ⟨rfl, q, rfl⟩ | ⟨ho, hc⟩⟩
    · rfl
    · rcases ho with rfl | rfl <;> cases hp
  | .bin (op, p) c d, M, hT, hp => by
    obtain ⟨rfl, ho⟩ := kt_bin hT
    rcases ho with rfl | rfl | rfl | rfl | rfl | rfl
    · obtain ⟨kc, kd⟩ := kt_and hT (by simp)
      obtain ⟨pc, pd⟩ : plainT c = true ∧ plainT d = true := by rw [plain_bin] at hp; simpa [plainB] using hp
      rw [aftC_two hT (by simp), aft_plain M kc pc]
      show bindM (aftC d x M) _ = _
      rw [aft_plain M kd pd]
      exact two_yes true (plV x c) (plV x d) M
    · obtain ⟨kc, kd⟩ := kt_and hT (by simp)
      obtain ⟨pc, pd⟩ : plainT c = true ∧ plainT d = true := by rw [plain_bin] at hp; simpa [plainB] using hp
      rw [aftC_two hT (by simp), aft_plain M kc pc]
      show bindM (aftC d x M) _ = _
      rw [aft_plain M kd pd]
      exact two_yes false (plV x c) (plV x d) M
    · rw [plain_bin] at hp; simp [plainB] at hp
    · rw [plain_bin] at hp; simp [plainB] at hp
    · rw [plain_bin] at hp; simp [plainB] at hp
    · rw [plain_bin] at hp; simp [plainB] at hp
end Go.Proofs.YtnedkpbpeolfoaaDoor
namespace Go.Proofs.YtnedkpbpeolfoaaDoor
def subL : Tr → List Tr
  | .leaf k => [.leaf k]
  | .un k c => .un k c :: subL c
  | .bin k c d => .bin k c d :: (subL c ++ subL d)
theorem sub_self (T : Tr) : T ∈ subL T := by cases T <;> simp [subL]
theorem sub_len : ∀ T : Tr, (subL T).length = T.size
  | .leaf k => rfl
  | .un k c => by simp [subL, Tr.size, sub_len c]
  | .bin k c d => by simp [subL, Tr.size, sub_len c, sub_len d]
theorem sub_size : ∀ {T S : Tr}, S ∈ subL T → S.size ≤ T.size
  | .leaf k, S, h => by simp [subL] at h; subst h; exact Nat.le_refl _
  | .un k c, S, h => by
    simp [subL] at h
    rcases h with rfl | h
    · exact Nat.le_refl _
    · have := sub_size h; show _ ≤ c.size + 1; omega
  | .bin k c d, S, h => by
    simp [subL] at h
    rcases h with rfl | h | h
    · exact Nat.le_refl _
    · have := sub_size h; show _ ≤ c.size + d.size + 1; omega
    · have := sub_size h; show _ ≤ c.size + d.size + 1; omega
theorem sub_trans : ∀ {T S R : Tr}, S ∈ subL T → R ∈ subL S → R ∈ subL T
  | .leaf k, S, R, h, k2 => by simp [subL] at h; subst h; exact k2
  | .un k c, S, R, h, k2 => by
    simp only [subL, List.mem_cons] at h ⊢
    rcases h with rfl | h
    · simpa [subL] using k2
    · exact Or.inr (sub_trans h k2)
  | .bin k c d, S, R, h, k2 => by
    simp only [subL, List.mem_cons, List.mem_append] at h ⊢
    rcases h with rfl | h | h
    · simpa [subL] using k2
    · exact Or.inr (Or.inl (sub_trans h k2))
    · exact Or.inr (Or.inr (sub_trans h k2))
theorem sub_un {T c : Tr} {k : Tk} (h : .un k c ∈ subL T) : c ∈ subL T := sub_trans h (by simp [subL, sub_self])
theorem sub_bin {T c d : Tr} {k : Tk} (h : .bin k c d ∈ subL T) : c ∈ subL T ∧ d ∈ subL T := ⟨sub_trans h (by simp [subL, sub_self]), sub_trans h (by simp [subL, sub_self])⟩
/-- The parts of a kernel formula or path are such. -/
theorem sub_kind : ∀ {T S : Tr}, KT T ∨ KP T → S ∈ subL T → KT S ∨ KP S
  | .leaf k, S, hT, h => by simp [subL] at h; subst h; exact hT
  | .un (op, p) c, S, hT, h => by
    simp only [subL, List.mem_cons] at h
    rcases h with rfl | h
    · exact hT
    · refine sub_kind ?_ h
      rcases hT with hT | hT
      · rcases kt_un hT with ⟨_, ⟨rfl, q, rfl⟩ | ⟨_, hc⟩⟩
        · refine Or.inl ?_
          obtain ⟨_, hc, hf, _⟩ := un_cases hT.wf
          exact ⟨hc, rfl, rfl⟩
        · exact Or.inl hc
      · rcases kp_un hT with ⟨rfl, ⟨rfl, _⟩ | ⟨_, hc⟩ | ⟨_, hc⟩⟩
        · exact Or.inl (kt_step hT).1
        · exact Or.inl hc
        · exact Or.inr hc
  | .bin (op, p) c d, S, hT, h => by
    simp only [subL, List.mem_cons, List.mem_append] at h
    have hcd : (KT c ∨ KP c) ∧ (KT d ∨ KP d) := by
      rcases hT with hT | hT
      · obtain ⟨rfl, ho⟩ := kt_bin hT
        by_cases hw : op = 17 ∨ op = 18
        · obtain ⟨a, b⟩ := kt_way hT hw; exact ⟨Or.inr a, Or.inl b⟩
        · obtain ⟨a, b⟩ := kt_and hT (by omega); exact ⟨Or.inl a, Or.inl b⟩
      · obtain ⟨_, _, a, b⟩ := kp_bin hT; exact ⟨Or.inr a, Or.inr b⟩
    rcases h with rfl | h | h
    · exact hT
    · exact sub_kind hcd.1 h
    · exact sub_kind hcd.2 h
/-- What is to be satisfied behind a letter, along the ways of a path. -/
def pws (box : Bool) : Tr → Tr → List Tr
  | .leaf _, _ => []
  | .un k c, f => if k.1 = 23 then .bin (modeO box, 0) (.un k c) f :: pws box c (.bin (modeO box, 0) (.un k c) f) else []
  | .bin k c d, f => if k.1 = 21 then pws box c f ++ pws box d f else if k.1 = 22 then .bin (modeO box, 0) d f :: (pws box d f ++ pws box c (.bin (modeO box, 0) d f)) else []
theorem pws_len (box : Bool) : ∀ (r f : Tr), (pws box r f).length ≤ r.size
  | .leaf _, _ => Nat.zero_le _
  | .un k c, f => by
    unfold pws Tr.size
    split
    · have := pws_len box c (.bin (modeO box, 0) (.un k c) f)
      simp; omega
    · simp
  | .bin k c d, f => by
    unfold pws Tr.size
    split
    · have := pws_len box c f
      have := pws_len box d f
      simp; omega
    · split
      · have := pws_len box d f
        have := pws_len box c (.bin (modeO box, 0) d f)
        simp; omega
      · simp
/-- A path, and what is to be satisfied behind it: their own ones are among them. -/
theorem pws_in (box : Bool) : ∀ {r f T : Tr}, T ∈ pws box r f → ∃ q F, T = .bin (modeO box, 0) q F ∧ q ∈ subL r ∧ (F = f ∨ F ∈ pws box r f) ∧ ∀ X, X ∈ pws box q F → X ∈ pws box r f
  | .leaf _, f, T, h => by simp [pws] at h
  | .un k c, f, T, h => by
    unfold pws at h
    split at h
    · rename_i hk
      have e : pws box (.un k c) f = .bin (modeO box, 0) (.un k c) f :: pws box c (.bin (modeO box, 0) (.un k c) f) := by rw [pws, if_pos hk]
      rcases List.mem_cons.1 h with rfl | h
      · exact ⟨_, f, rfl, sub_self _, Or.inl rfl, fun X hX => hX⟩
      · obtain ⟨q, F, rfl, h1, h2, h3⟩ := pws_in box h
        refine ⟨q, F, rfl, by simp [subL, h1], Or.inr ?_, fun X hX => ?_⟩
        · rw [e]
          rcases h2 with rfl | h2
          · exact List.mem_cons_self ..
          · exact List.mem_cons_of_mem _ h2
        · rw [e]; exact List.mem_cons_of_mem _ (h3 X hX)
    · simp at h
  | .bin k c d, f, T, h => by
    unfold pws at h
    split at h
    · rename_i hk
      have e : pws box (.bin k c d) f = pws box c f ++ pws box d f := by rw [pws, if_pos hk]
      rcases List.mem_append.1 h with h | h
      · obtain ⟨q, F, rfl, h1, h2, h3⟩ := pws_in box h
        refine ⟨q, F, rfl, by simp [subL, h1], h2.imp id fun h => ?_, fun X hX => ?_⟩
        · rw [e]; exact List.mem_append.2 (Or.inl h)
        · rw [e]; exact List.mem_append.2 (Or.inl (h3 X hX))
      · obtain ⟨q, F, rfl, h1, h2, h3⟩ := pws_in box h
        refine ⟨q, F, rfl, by simp [subL, h1], h2.imp id fun h => ?_, fun X hX => ?_⟩
        · rw [e]; exact List.mem_append.2 (Or.inr h)
        · rw [e]; exact List.mem_append.2 (Or.inr (h3 X hX))
    · split at h
      · rename_i hk1 hk
        have e : pws box (.bin k c d) f = .bin (modeO box, 0) d f :: (pws box d f ++ pws box c (.bin (modeO box, 0) d f)) := by rw [pws, if_neg hk1, if_pos hk]
        rcases List.mem_cons.1 h with rfl | h
        · refine ⟨d, f, rfl, by simp [subL, sub_self], Or.inl rfl, fun X hX => ?_⟩
          rw [e]; exact List.mem_cons_of_mem _ (List.mem_append.2 (Or.inl hX))
        · rcases List.mem_append.1 h with h | h
          · obtain ⟨q, F, rfl, h1, h2, h3⟩ := pws_in box h
            refine ⟨q, F, rfl, by simp [subL, h1], h2.imp id fun h => ?_, fun X hX => ?_⟩
            · rw [e]; exact List.mem_cons_of_mem _ (List.mem_append.2 (Or.inl h))
            · rw [e]; exact List.mem_cons_of_mem _ (List.mem_append.2 (Or.inl (h3 X hX)))
          · obtain ⟨q, F, rfl, h1, h2, h3⟩ := pws_in box h
            refine ⟨q, F, rfl, by simp [subL, h1], Or.inr ?_, fun X hX => ?_⟩
            · rw [e]
              rcases h2 with rfl | h2
              · exact List.mem_cons_self ..
              · exact List.mem_cons_of_mem _ (List.mem_append.2 (Or.inr h2))
            · rw [e]; exact List.mem_cons_of_mem _ (List.mem_append.2 (Or.inr (h3 X hX)))
      · simp at h
theorem pws_sz (box : Bool) {R : Nat} : ∀ {r f T : Tr}, r.size ≤ R → T ∈ pws box r f → T.size ≤ f.size + r.size * (R + 2)
  | .leaf _, f, T, _, h => by simp [pws] at h
  | .un k c, f, T, hR, h => by
    have hs : (Tr.un k c).size = c.size + 1 := rfl
    have hm : (c.size + 1) * (R + 2) = c.size * (R + 2) + (R + 2) := Nat.succ_mul _ _
    unfold pws at h
    split at h
    · rcases List.mem_cons.1 h with rfl | h
      · show c.size + 1 + f.size + 1 ≤ _
        rw [hs, hm]; omega
      · have := pws_sz box (R := R) (by omega) h
        have e : (Tr.bin (modeO box, 0) (.un k c) f).size = c.size + 1 + f.size + 1 := rfl
        rw [hs, hm]; omega
    · simp at h
  | .bin k c d, f, T, hR, h => by
    have hs : (Tr.bin k c d).size = c.size + d.size + 1 := rfl
    have hm : (c.size + d.size + 1) * (R + 2) = c.size * (R + 2) + d.size * (R + 2) + (R + 2) := by rw [Nat.add_mul, Nat.add_mul, Nat.one_mul]
    unfold pws at h
    split at h
    · rcases List.mem_append.1 h with h | h
      · have := pws_sz box (R := R) (by omega) h
        rw [hs, hm]; omega
      · have := pws_sz box (R := R) (by omega) h
        rw [hs, hm]; omega
    · split at h
      · have e : (Tr.bin (modeO box, 0) d f).size = d.size + f.size + 1 := rfl
        rcases List.mem_cons.1 h with rfl | h
        · rw [e, hs, hm]; omega
        · rcases List.mem_append.1 h with h | h
          · have := pws_sz box (R := R) (by omega) h
            rw [hs, hm]; omega
          · have := pws_sz box (R := R) (by omega) h
            rw [hs, hm]; omega
      · simp at h
theorem pws_hgt (box : Bool) {R : Nat} : ∀ {r f T : Tr}, hgt r ≤ R → T ∈ pws box r f → hgt T ≤ hgt r + max R (hgt f) + 1
  | .leaf _, f, T, _, h => by simp [pws] at h
  | .un k c, f, T, hR, h => by
    unfold pws at h
    split at h
    · rename_i hk
      have hs : hgt (.un k c) = hgt c + 1 := by rw [hgt, if_neg (by omega)]
      rcases List.mem_cons.1 h with rfl | h
      · show max (hgt (.un k c)) (hgt f) + 1 ≤ _
        omega
      · have := pws_hgt box (R := R) (by omega) h
        have e : hgt (.bin (modeO box, 0) (.un k c) f) = max (hgt (.un k c)) (hgt f) + 1 := rfl
        omega
    · simp at h
  | .bin k c d, f, T, hR, h => by
    have hs : hgt (.bin k c d) = max (hgt c) (hgt d) + 1 := rfl
    unfold pws at h
    split at h
    · rcases List.mem_append.1 h with h | h
      · have := pws_hgt box (R := R) (by omega) h
        omega
      · have := pws_hgt box (R := R) (by omega) h
        omega
    · split at h
      · have e : hgt (.bin (modeO box, 0) d f) = max (hgt d) (hgt f) + 1 := rfl
        rcases List.mem_cons.1 h with rfl | h
        · omega
        · rcases List.mem_append.1 h with h | h
          · have := pws_hgt box (R := R) (by omega) h
            omega
          · have := pws_hgt box (R := R) (by omega) h
            omega
      · simp at h
def In0 (T0 T : Tr) : Prop := T ∈ subL T0 ∨ (∃ S, S ∈ subL T0 ∧ KT S ∧ T = (kTr S).2) ∨ T = .leaf (4, 0) ∨ T = .leaf (5, 0)
def InC (T0 T : Tr) : Prop := In0 T0 T ∨ ∃ box r f, In0 T0 (.bin (modeO box, 0) r f) ∧ T ∈ pws box r f
theorem neg_un {S c : Tr} {k : Tk} (hS : KT S) (h : (kTr S).2 = .un k c) : (∃ q, S = .leaf (2, q) ∧ c = S) ∨ ∃ d, (∃ k2, S = .un k2 d) ∧ KT d ∧ c = (kTr d).2 := by
  match S, hS, h with
  | .leaf (op, p), hS, h =>
    rcases kt_leaf hS with ⟨rfl, _⟩ | ⟨rfl, rfl | rfl | rfl | rfl⟩
    · injection h with h1 h2
      exact Or.inl ⟨p, rfl, h2.symm⟩
    · cases h
    · cases h
    · cases h
    · cases h
  | .un (op, p) d, hS, h =>
    rcases kt_un hS with ⟨rfl, ⟨rfl, q, rfl⟩ | ⟨ho, hd⟩⟩
    · cases h
    · refine Or.inr ⟨d, ⟨_, rfl⟩, hd, ?_⟩
      rcases ho with rfl | rfl
      · injection h with h1 h2; exact h2.symm
      · injection h with h1 h2; exact h2.symm
  | .bin (op, p) a b, hS, h =>
    obtain ⟨rfl, ho⟩ := kt_bin hS
    rcases ho with rfl | rfl | rfl | rfl | rfl | rfl <;> cases h
theorem neg_bin {S c d : Tr} {k : Tk} (hS : KT S) (h : (kTr S).2 = .bin k c d) : ∃ op a b, S = .bin (op, 0) a b ∧ KT b ∧ d = (kTr b).2 ∧ ((KP a ∧ c = a ∧ ((op = 17 ∧ k = (18, 0)) ∨ (op = 18 ∧ k = (17, 0)))) ∨ (KT a ∧ c = (kTr a).2 ∧ k.1 ≠ 17 ∧ k.1 ≠ 18)) := by
  match S, hS, h with
  | .leaf (op, p), hS, h =>
    rcases kt_leaf hS with ⟨rfl, _⟩ | ⟨rfl, rfl | rfl | rfl | rfl⟩ <;> cases h
  | .un (op, p) e, hS, h =>
    rcases kt_un hS with ⟨rfl, ⟨rfl, q, rfl⟩ | ⟨ho, hd⟩⟩
    · cases h
    · rcases ho with rfl | rfl <;> cases h
  | .bin (op, p) a b, hS, h =>
    obtain ⟨rfl, ho⟩ := kt_bin hS
    refine ⟨op, a, b, rfl, ?_⟩
    by_cases hw : op = 17 ∨ op = 18
    · obtain ⟨ka, kb⟩ := kt_way hS hw
      have e := (ker_same a ka.wf ka.kr).1
      rcases hw with rfl | rfl
      · injection h with h1 h2 h3
        exact ⟨kb, h3.symm, Or.inl ⟨ka, by rw [← h2, e], Or.inl ⟨rfl, h1.symm⟩⟩⟩
      · injection h with h1 h2 h3
        exact ⟨kb, h3.symm, Or.inl ⟨ka, by rw [← h2, e], Or.inr ⟨rfl, h1.symm⟩⟩⟩
    · obtain ⟨ka, kb⟩ := kt_and hS (by omega)
      have ho4 : op = 11 ∨ op = 12 ∨ op = 15 ∨ op = 16 := by omega
      rcases ho4 with rfl | rfl | rfl | rfl
      · injection h with h1 h2 h3; subst h1; exact ⟨kb, h3.symm, Or.inr ⟨ka, h2.symm, by decide, by decide⟩⟩
      · injection h with h1 h2 h3; subst h1; exact ⟨kb, h3.symm, Or.inr ⟨ka, h2.symm, by decide, by decide⟩⟩
      · injection h with h1 h2 h3; subst h1; exact ⟨kb, h3.symm, Or.inr ⟨ka, h2.symm, by decide, by decide⟩⟩
      · injection h with h1 h2 h3; subst h1; exact ⟨kb, h3.symm, Or.inr ⟨ka, h2.symm, by decide, by decide⟩⟩
theorem in0_kind {T0 T : Tr} (h0 : KT T0) (h : In0 T0 T) : KT T ∨ KP T := by
  rcases h with h | ⟨S, hS, kS, rfl⟩ | rfl | rfl
  · exact sub_kind (Or.inl h0) h
  · exact Or.inl (kt_neg kS)
  · exact Or.inl (kt_more 4 (by simp))
  · exact Or.inl (kt_more 5 (by simp))
theorem in0_un {T0 c : Tr} {k : Tk} (h : In0 T0 (.un k c)) : In0 T0 c := by
  rcases h with h | ⟨S, hS, kS, e⟩ | e | e
  · exact Or.inl (sub_un h)
  · rcases neg_un kS e.symm with ⟨q, rfl, rfl⟩ | ⟨d, ⟨k2, rfl⟩, kd, rfl⟩
    · exact Or.inl hS
    · exact Or.inr (Or.inl ⟨d, sub_un hS, kd, rfl⟩)
  · cases e
  · cases e
theorem in0_bin {T0 c d : Tr} {k : Tk} (h : In0 T0 (.bin k c d)) : In0 T0 c ∧ In0 T0 d ∧ (k.1 = 17 ∨ k.1 = 18 → c ∈ subL T0) := by
  rcases h with h | ⟨S, hS, kS, e⟩ | e | e
  · exact ⟨Or.inl (sub_bin h).1, Or.inl (sub_bin h).2, fun _ => (sub_bin h).1⟩
  · obtain ⟨op, a, b, rfl, kb, rfl, ⟨ka, rfl, ho⟩ | ⟨ka, rfl, n1, n2⟩⟩ := neg_bin kS e.symm
    · exact ⟨Or.inl (sub_bin hS).1, Or.inr (Or.inl ⟨b, (sub_bin hS).2, kb, rfl⟩), fun _ => (sub_bin hS).1⟩
    · exact ⟨Or.inr (Or.inl ⟨a, (sub_bin hS).1, ka, rfl⟩), Or.inr (Or.inl ⟨b, (sub_bin hS).2, kb, rfl⟩), fun h => by omega⟩
  · cases e
  · cases e
theorem mode_way (box : Bool) : modeO box = 17 ∨ modeO box = 18 := by cases box <;> simp [modeO]
theorem mode_inj {a b : Bool} (h : modeO a = modeO b) : a = b := by cases a <;> cases b <;> simp [modeO] at h ⊢
theorem inC_self (T0 : Tr) : InC T0 T0 := Or.inl (Or.inl (sub_self _))
theorem inC_more {T0 : Tr} {op : Nat} (h : op = 4 ∨ op = 5) : InC T0 (.leaf (op, 0)) := by
  rcases h with rfl | rfl
  · exact Or.inl (Or.inr (Or.inr (Or.inl rfl)))
  · exact Or.inl (Or.inr (Or.inr (Or.inr rfl)))
theorem inC_neg {T0 S : Tr} (h : S ∈ subL T0) (k : KT S) : InC T0 (kTr S).2 := Or.inl (Or.inr (Or.inl ⟨S, h, k, rfl⟩))
theorem inC_sub {T0 S : Tr} (h : S ∈ subL T0) : InC T0 S := Or.inl (Or.inl h)
theorem inC_un {T0 c : Tr} {k : Tk} (h : InC T0 (.un k c)) : InC T0 c := by
  rcases h with h | ⟨box, r, f, h1, h2⟩
  · exact Or.inl (in0_un h)
  · obtain ⟨q, F, e, _⟩ := pws_in box h2
    cases e
theorem inC_bin {T0 c d : Tr} {k : Tk} (h : InC T0 (.bin k c d)) : InC T0 c ∧ InC T0 d ∧ (k.1 = 17 ∨ k.1 = 18 → c ∈ subL T0) := by
  rcases h with h | ⟨box, r, f, h1, h2⟩
  · obtain ⟨a, b, e⟩ := in0_bin h
    exact ⟨Or.inl a, Or.inl b, e⟩
  · obtain ⟨q, F, e, hq, hF, _⟩ := pws_in box h2
    injection e with e1 e2 e3
    subst e1 e2 e3
    obtain ⟨a, b, e⟩ := in0_bin h1
    have hs := sub_trans (e (mode_way box)) hq
    refine ⟨inC_sub hs, ?_, fun _ => hs⟩
    rcases hF with rfl | hF
    · exact Or.inl b
    · exact Or.inr ⟨box, r, f, h1, hF⟩
/-- What is met along a path comes of the formula. -/
theorem inC_pws {T0 r f : Tr} {box : Bool} (h : InC T0 (.bin (modeO box, 0) r f)) : ∀ T, T ∈ pws box r f → InC T0 T := by
  intro T hT
  rcases h with h | ⟨b2, r2, f2, h1, h2⟩
  · exact Or.inr ⟨box, r, f, h, hT⟩
  · obtain ⟨q, F, e, hq, hF, hsub⟩ := pws_in b2 h2
    injection e with e1 e2 e3
    injection e1 with e1
    have := mode_inj e1
    subst this e2 e3
    exact Or.inr ⟨box, r2, f2, h1, hsub T hT⟩
theorem inC_kind {T0 T : Tr} (h0 : KT T0) (h : InC T0 T) : KT T ∨ KP T := by
  rcases h with h | ⟨box, r, f, h1, h2⟩
  · exact in0_kind h0 h
  · have hr : KT (.bin (modeO box, 0) r f) := by
      rcases in0_kind h0 h1 with h | h
      · exact h
      · obtain ⟨_, ho, _⟩ := kp_bin h
        rcases mode_way box with e | e <;> omega
    obtain ⟨kr, kf⟩ := kt_way hr (mode_way box)
    clear h1 hr
    have key : ∀ (r f T : Tr), KP r → KT f → T ∈ pws box r f → KT T := by
      intro r
      induction r with
      | leaf k => intro f T hr; exact (kp_leaf hr).elim
      | un k c ih =>
        intro f T hr hf hT
        unfold pws at hT
        split at hT
        · rename_i hk
          obtain ⟨op, p⟩ := k
          dsimp only at hk
          subst hk
          have kc : KP c := by
            rcases kp_un hr with ⟨_, ⟨h, _⟩ | ⟨h, _⟩ | ⟨_, h⟩⟩
            · cases h
            · cases h
            · exact h
          have hm := kt_mode hr hf box
          rcases List.mem_cons.1 hT with rfl | hT
          · exact hm
          · exact ih _ T kc hm hT
        · simp at hT
      | bin k c d ihc ihd =>
        intro f T hr hf hT
        obtain ⟨op, p⟩ := k
        obtain ⟨_, _, kc, kd⟩ := kp_bin hr
        unfold pws at hT
        split at hT
        · rcases List.mem_append.1 hT with hT | hT
          · exact ihc f T kc hf hT
          · exact ihd f T kd hf hT
        · split at hT
          · have hm := kt_mode kd hf box
            rcases List.mem_cons.1 hT with rfl | hT
            · exact hm
            · rcases List.mem_append.1 hT with hT | hT
              · exact ihd f T kd hf hT
              · exact ihc _ T kc hm hT
          · simp at hT
    exact Or.inl (key r f T kr kf h2)
theorem neg_size : ∀ T : Tr, KT T → (kTr T).2.size ≤ 2 * T.size
  | .leaf (op, p), hT => by rcases kt_leaf hT with ⟨rfl, _⟩ | ⟨rfl, rfl | rfl | rfl | rfl⟩ <;> simp [kTr, Tr.size]
  | .un (op, p) c, hT => by
    rcases kt_un hT with ⟨rfl, ⟨rfl, q, rfl⟩ | ⟨ho, hc⟩⟩
    · simp [kTr, Tr.size]
    · have ih := neg_size c hc
      rcases ho with rfl | rfl
      · show (kTr c).2.size + 1 ≤ 2 * (c.size + 1); omega
      · show (kTr c).2.size + 1 ≤ 2 * (c.size + 1); omega
  | .bin (op, p) c d, hT => by
    obtain ⟨rfl, ho⟩ := kt_bin hT
    by_cases hw : op = 17 ∨ op = 18
    · obtain ⟨kc, kd⟩ := kt_way hT hw
      have e := (ker_same c kc.wf kc.kr).1
      have ih := neg_size d kd
      rcases hw with rfl | rfl
      · show (kTr c).1.size + (kTr d).2.size + 1 ≤ 2 * (c.size + d.size + 1); rw [e]; omega
      · show (kTr c).1.size + (kTr d).2.size + 1 ≤ 2 * (c.size + d.size + 1); rw [e]; omega
    · obtain ⟨kc, kd⟩ := kt_and hT (by omega)
      have ic := neg_size c kc
      have ih := neg_size d kd
      have ho4 : op = 11 ∨ op = 12 ∨ op = 15 ∨ op = 16 := by omega
      rcases ho4 with rfl | rfl | rfl | rfl
      · show (kTr c).2.size + (kTr d).2.size + 1 ≤ 2 * (c.size + d.size + 1); omega
      · show (kTr c).2.size + (kTr d).2.size + 1 ≤ 2 * (c.size + d.size + 1); omega
      · show (kTr c).2.size + (kTr d).2.size + 1 ≤ 2 * (c.size + d.size + 1); omega
      · show (kTr c).2.size + (kTr d).2.size + 1 ≤ 2 * (c.size + d.size + 1); omega
theorem in0_size {T0 T : Tr} (h2 : T0.size ≤ 2048) (h : In0 T0 T) : T.size ≤ 4096 ∧ hgt T ≤ 2048 := by
  rcases h with h | ⟨S, hS, kS, rfl⟩ | rfl | rfl
  · have := sub_size h
    have := hgt_size T
    omega
  · have := sub_size hS
    have := neg_size S kS
    rw [hgt_neg S kS]
    have := hgt_size S
    omega
  · simp [Tr.size, hgt]
  · simp [Tr.size, hgt]
theorem inC_size {T0 T : Tr} (h2 : T0.size ≤ 2048) (h : InC T0 T) : T.size ≤ 20000000 ∧ hgt T ≤ 5000 := by
  rcases h with h | ⟨box, r, f, h1, h3⟩
  · have := in0_size h2 h
    omega
  · have hr := sub_size ((in0_bin h1).2.2 (mode_way box))
    have hf := in0_size h2 (in0_bin h1).2.1
    have a := pws_sz box (R := 2048) (by omega) h3
    have hg := hgt_size r
    have b := pws_hgt box (R := 2048) (by omega) h3
    have : r.size * (2048 + 2) ≤ 2048 * (2048 + 2) := Nat.mul_le_mul_right _ (by omega)
    omega
/-- All of them, in a list. -/
def allC (T0 : Tr) : List Tr :=
  let A := subL T0 ++ (((subL T0).filter fun T => !pathT T).map (fun T => (kTr T).2) ++ [Tr.leaf (4, 0), Tr.leaf (5, 0)])
  A ++ A.flatMap fun T => match T with | .bin k r f => pws (k.1 == 18) r f | _ => []
theorem inC_all {T0 T : Tr} (h : InC T0 T) : T ∈ allC T0 := by
  have key : ∀ T, In0 T0 T → T ∈ subL T0 ++ (((subL T0).filter fun T => !pathT T).map (fun T => (kTr T).2) ++ [Tr.leaf (4, 0), Tr.leaf (5, 0)]) := by
    intro T h
    rcases h with h | ⟨S, hS, kS, rfl⟩ | rfl | rfl
    · exact List.mem_append.2 (Or.inl h)
    · exact List.mem_append.2 (Or.inr (List.mem_append.2 (Or.inl (List.mem_map.2 ⟨S, List.mem_filter.2 ⟨hS, by simp [kS.np]⟩, rfl⟩))))
    · simp
    · simp
  unfold allC
  rcases h with h | ⟨box, r, f, h1, h2⟩
  · exact List.mem_append.2 (Or.inl (key T h))
  · refine List.mem_append.2 (Or.inr (List.mem_flatMap.2 ⟨_, key _ h1, ?_⟩))
    show T ∈ pws ((modeO box) == 18) r f
    rw [show (modeO box == 18) = box by cases box <;> rfl]
    exact h2
theorem len_flatMap {α β : Type} (g : α → List β) (B : Nat) : ∀ l : List α, (∀ x ∈ l, (g x).length ≤ B) → (l.flatMap g).length ≤ l.length * B
  | [], _ => by simp
  | x :: l, h => by
    have h1 := h x (by simp)
    have h2 := len_flatMap g B l fun y hy => h y (by simp [hy])
    rw [List.flatMap_cons, List.length_append, List.length_cons, Nat.add_mul]
    omega
theorem all_len {T0 : Tr} (h0 : KT T0) (h2 : T0.size ≤ 2048) : (allC T0).length ≤ 20000000 := by
  unfold allC
  have hA : (subL T0 ++ (((subL T0).filter fun T => !pathT T).map (fun T => (kTr T).2) ++ [Tr.leaf (4, 0), Tr.leaf (5, 0)])).length ≤ 4098 := by
    have := sub_len T0
    have := List.length_filter_le (fun T => !pathT T) (subL T0)
    simp only [List.length_append, List.length_map, List.length_cons, List.length_nil]
    omega
  have hin : ∀ T ∈ subL T0 ++ (((subL T0).filter fun T => !pathT T).map (fun T => (kTr T).2) ++ [Tr.leaf (4, 0), Tr.leaf (5, 0)]), In0 T0 T := by
    intro T hT
    rcases List.mem_append.1 hT with h | h
    · exact Or.inl h
    · rcases List.mem_append.1 h with h | h
      · obtain ⟨S, hS, rfl⟩ := List.mem_map.1 h
        obtain ⟨h1, h3⟩ := List.mem_filter.1 hS
        have hk : KT S := by
          rcases sub_kind (Or.inl h0) h1 with k | k
          · exact k
          · rw [k.isp] at h3; cases h3
        exact Or.inr (Or.inl ⟨S, h1, hk, rfl⟩)
      · simp at h
        rcases h with rfl | rfl
        · exact Or.inr (Or.inr (Or.inl rfl))
        · exact Or.inr (Or.inr (Or.inr rfl))
  have hB := len_flatMap (fun T : Tr => match T with | .bin k r f => pws (k.1 == 18) r f | _ => []) 4096 _ (fun T hT => by
    have := (in0_size h2 (hin T hT)).1
    cases T with
    | leaf k => exact Nat.zero_le _
    | un k c => exact Nat.zero_le _
    | bin k r f =>
      have := pws_len (k.1 == 18) r f
      have e : (Tr.bin k r f).size = r.size + f.size + 1 := rfl
      show (pws (k.1 == 18) r f).length ≤ 4096
      omega)
  rw [List.length_append]
  generalize (subL T0 ++ (((subL T0).filter fun T => !pathT T).map (fun T => (kTr T).2) ++ [Tr.leaf (4, 0), Tr.leaf (5, 0)])) = A at *
  have : A.length * 4096 ≤ 4098 * 4096 := Nat.mul_le_mul_right _ hA
  omega
theorem nodup_le {α : Type} : ∀ {l m : List α}, l.Nodup → (∀ x ∈ l, x ∈ m) → l.length ≤ m.length
  | [], m, _, _ => Nat.zero_le _
  | x :: l, m, hn, h => by
    obtain ⟨a, b, rfl⟩ := List.append_of_mem (h x (by simp))
    rw [List.nodup_cons] at hn
    have := nodup_le (m := a ++ b) hn.2 fun y hy => by
      have := h y (by simp [hy])
      simp at this ⊢
      rcases this with h1 | rfl | h1
      · exact Or.inl h1
      · exact absurd hy hn.1
      · exact Or.inr h1
    simp at this ⊢
    omega
end Go.Proofs.YtnedkpbpeolfoaaDoor
namespace Go.Proofs.YtnedkpbpeolfoaaDoor
open Go.RowKit Go.Maps
/-- The blocks of parts that lie in the block b. -/
def FP (b mp : Nat) (vi vt : Value) (k : Nat) : Prop := k = b ∨ k = mp ∨ vi.ownBlock = some k ∨ vt.ownBlock = some k
def ptA (vi : Value) (mp : Nat) (vt : Value) (rest : List Value) : Array Value := (vi :: .map (some mp) :: vt :: rest).toArray
/-- A struct that holds parts. -/
def PtT (T : TypeId) : Prop := T = 29 ∨ T = 33
/-- What parts are in memory: items, the map of their numbers, their texts. -/
structure PtR (w : World) (b : Nat) (T : TypeId) (rest : List Value) (vi : Value) (mp : Nat) (vt : Value) (items : List It) (texts : List ByteArray) (n : Nat) (f : It → Option Nat) : Prop where
  ty : PtT T
  blk : w.heap[b]? = some (.cells (ptA vi mp vt rest) T (0, 0))
  ri : w.ownsRow 0 81 4 vi items.length (encI items)
  rt : w.ownsRow 0 9 1 vt texts.length (texts.map Value.string)
  num : NumOf w mp n f
/-- A row of its own is a block of just its type. -/
theorem own_not {w : World} {base e size n g : Nat} {v : Value} {xs : List Value} {o : Obj} (h : w.ownsRow base e size v n xs) (hg : w.heap[g]? = some o) (ho : ∀ cs, o ≠ .cells cs e (0, 0)) : v.ownBlock ≠ some g := by
  rcases h.2 with ⟨rfl, _⟩ | ⟨g', cap, cur, rfl, _, hc, _⟩
  · intro e; cases e
  · intro e
    injection e with e
    dsimp only at e
    subst e
    rw [hg] at hc
    injection hc with hc
    exact ho _ hc
theorem own_is {w : World} {base e size n g : Nat} {v : Value} {xs : List Value} (h : w.ownsRow base e size v n xs) (hg : v.ownBlock = some g) : ∃ cs, w.heap[g]? = some (.cells cs e (0, 0)) := by
  rcases h.2 with ⟨rfl, _⟩ | ⟨g', cap, cur, rfl, _, hc, _⟩
  · cases hg
  · injection hg with hg
    dsimp only at hg
    subst hg
    exact ⟨_, hc⟩
theorem PtT.ne {T : TypeId} (h : PtT T) : T ≠ 81 ∧ T ≠ 9 ∧ T ≠ 3 := by
  rcases h with rfl | rfl <;> decide
section
variable {w : World} {b mp n : Nat} {T : TypeId} {rest : List Value} {vi vt : Value} {items : List It} {texts : List ByteArray} {f : It → Option Nat}
theorem PtR.ib (h : PtR w b T rest vi mp vt items texts n f) : vi.ownBlock ≠ some b := own_not h.ri h.blk fun cs e => by injection e with _ e _; exact h.ty.ne.1 e
theorem PtR.tb (h : PtR w b T rest vi mp vt items texts n f) : vt.ownBlock ≠ some b := own_not h.rt h.blk fun cs e => by injection e with _ e _; exact h.ty.ne.2.1 e
theorem PtR.im (h : PtR w b T rest vi mp vt items texts n f) : vi.ownBlock ≠ some mp := by
  obtain ⟨es, c, hm⟩ := h.num.isMap
  exact own_not h.ri hm fun cs e => by cases e
theorem PtR.tm (h : PtR w b T rest vi mp vt items texts n f) : vt.ownBlock ≠ some mp := by
  obtain ⟨es, c, hm⟩ := h.num.isMap
  exact own_not h.rt hm fun cs e => by cases e
theorem PtR.mb (h : PtR w b T rest vi mp vt items texts n f) : mp ≠ b := fun e => by
  obtain ⟨es, c, hm⟩ := h.num.isMap
  rw [e, h.blk] at hm; cases hm
theorem PtR.it (h : PtR w b T rest vi mp vt items texts n f) : ∀ k, vi.ownBlock = some k → vt.ownBlock ≠ some k := fun k hk => by
  obtain ⟨cs, hc⟩ := own_is h.ri hk
  exact own_not h.rt hc fun cs e => by injection e with _ e _; exact absurd e (by decide)
theorem PtR.bl (h : PtR w b T rest vi mp vt items texts n f) : b < w.heap.size := (Array.getElem?_eq_some_iff.1 h.blk).1
theorem PtR.lt (h : PtR w b T rest vi mp vt items texts n f) : ∀ k, FP b mp vi vt k → k < w.heap.size := fun k hk => by
  rcases hk with rfl | rfl | hk | hk
  · exact h.bl
  · exact h.num.lt
  · exact own_lt h.ri k hk
  · exact own_lt h.rt k hk
theorem PtR.far {w' : World} (h : PtR w b T rest vi mp vt items texts n f) (hb : ∀ k, FP b mp vi vt k → w'.heap[k]? = w.heap[k]?) : PtR w' b T rest vi mp vt items texts n f :=
  ⟨h.ty, (hb b (Or.inl rfl)).trans h.blk, owns_off h.ri fun k hk => hb k (Or.inr (Or.inr (Or.inl hk))), owns_off h.rt fun k hk => hb k (Or.inr (Or.inr (Or.inr hk))), h.num.far (hb mp (Or.inr (Or.inl rfl)))⟩
theorem PtR.up {w' : World} (h : PtR w b T rest vi mp vt items texts n f) (hb : Below w.heap.size w w') : PtR w' b T rest vi mp vt items texts n f := h.far fun k hk => hb.block k (h.lt k hk)
theorem PtR.c0 (h : PtR w b T rest vi mp vt items texts n f) : w.cell? ⟨b, 0, none⟩ = some vi := cell_row h.blk 0
theorem PtR.c1 (h : PtR w b T rest vi mp vt items texts n f) : w.cell? ⟨b, 1, none⟩ = some (.map (some mp)) := cell_row h.blk 1
theorem PtR.c2 (h : PtR w b T rest vi mp vt items texts n f) : w.cell? ⟨b, 2, none⟩ = some vt := cell_row h.blk 2
/-- The map has changed. -/
theorem PtR.put {w' : World} {n' : Nat} {f' : It → Option Nat} (h : PtR w b T rest vi mp vt items texts n f) (hg : w.grownBy w' (some mp)) (hn : NumOf w' mp n' f') : PtR w' b T rest vi mp vt items texts n' f' ∧ Fr w w' (FP b mp vi vt) (FP b mp vi vt) := by
  have st : ∀ k, k < w.heap.size → k ≠ mp → w'.heap[k]? = w.heap[k]? := fun k hk hne => hg.block k hk (fun e => hne (by injection e))
  refine ⟨⟨h.ty, (st b h.bl (fun e => h.mb e.symm)).trans h.blk, owns_off h.ri fun k hk => st k (own_lt h.ri k hk) (fun e => h.im (e ▸ hk)), owns_off h.rt fun k hk => st k (own_lt h.rt k hk) (fun e => h.tm (e ▸ hk)), hn⟩, hg.os, hg.tape, hg.output, hg.size, fun k hk hF => st k hk fun e => hF (Or.inr (Or.inl e)), fun _ hk => Or.inl hk⟩
/-- The items have grown, and are stored. -/
theorem PtR.grow {w5 : World} {o : Obj} {vi' : Value} {items' : List It} (h : PtR w b T rest vi mp vt items texts n f) (hg : (w.alloc o).drew.grownBy w5 vi.ownBlock) (ho : w5.ownsRow 0 81 4 vi' items'.length (encI items')) (hl : vi'.ownBlock = vi.ownBlock ∨ vi'.ownBlock = some (w.alloc o).drew.heap.size) :
    w5.heap[b]? = some (.cells (ptA vi mp vt rest) T (0, 0)) ∧ PtR (w5.setCell ⟨b, 0, none⟩ vi') b T rest vi' mp vt items' texts n f ∧ Fr w (w5.setCell ⟨b, 0, none⟩ vi') (FP b mp vi vt) (FP b mp vi' vt) := by
  have hb1 := below_new w o
  have hz : (w.alloc o).drew.heap.size = w.heap.size + 1 := by simp
  have hs := hg.size
  have st : ∀ k, k < w.heap.size → vi.ownBlock ≠ some k → w5.heap[k]? = w.heap[k]? := fun k hk hne => (hg.block k (by omega) (fun e => hne e.symm)).trans (hb1.block k hk)
  have h5 := (st b h.bl h.ib).trans h.blk
  have hvb : vi'.ownBlock ≠ some b := fun e => by
    rcases hl with e2 | e2
    · rw [e2] at e; exact h.ib e
    · rw [e2] at e; injection e with e; have := h.bl; omega
  have s6 : ∀ k, k ≠ b → (w5.setCell ⟨b, 0, none⟩ vi').heap[k]? = w5.heap[k]? := fun k hk => Below.heap_setCell _ _ _ _ hk
  refine ⟨h5, ⟨h.ty, ?_, owns_off ho fun k hk => s6 k (fun e => hvb (e ▸ hk)), owns_off h.rt fun k hk => (s6 k (fun e => h.tb (e ▸ hk))).trans (st k (own_lt h.rt k hk) (fun e => h.it k e hk)), h.num.far ((s6 mp h.mb).trans (st mp h.num.lt h.im))⟩, hg.os, hg.tape, hg.output, ?_, fun k hk hF => ?_, fun k hk => ?_⟩
  · rw [heap_setCell_same w5 b 0 _ _ _ h5]; rfl
  · simp; omega
  · exact (s6 k fun e => hF (Or.inl e)).trans (st k hk fun e => hF (Or.inr (Or.inr (Or.inl e))))
  · rcases hk with hk | hk | hk | hk
    · exact Or.inl (Or.inl hk)
    · exact Or.inl (Or.inr (Or.inl hk))
    · rcases hl with e | e
      · rw [e] at hk; exact Or.inl (Or.inr (Or.inr (Or.inl hk)))
      · rw [e] at hk; injection hk with hk; right; omega
    · exact Or.inl (Or.inr (Or.inr (Or.inr hk)))
/-- The texts have grown, and are stored. -/
theorem PtR.growT {w5 : World} {o : Obj} {vt' : Value} {texts' : List ByteArray} (h : PtR w b T rest vi mp vt items texts n f) (hg : (w.alloc o).grownBy w5 vt.ownBlock) (ho : w5.ownsRow 0 9 1 vt' texts'.length (texts'.map Value.string)) (hl : vt'.ownBlock = vt.ownBlock ∨ vt'.ownBlock = some (w.alloc o).heap.size) :
    w5.heap[b]? = some (.cells (ptA vi mp vt rest) T (0, 0)) ∧ PtR (w5.setCell ⟨b, 2, none⟩ vt') b T rest vi mp vt' items texts' n f ∧ Fr w (w5.setCell ⟨b, 2, none⟩ vt') (FP b mp vi vt) (FP b mp vi vt') := by
  have hb1 := below_new w o
  have hz : (w.alloc o).heap.size = w.heap.size + 1 := by simp
  have hs := hg.size
  have st : ∀ k, k < w.heap.size → vt.ownBlock ≠ some k → w5.heap[k]? = w.heap[k]? := fun k hk hne => (hg.block k (by omega) (fun e => hne e.symm)).trans (hb1.block k hk)
  have h5 := (st b h.bl h.tb).trans h.blk
  have hvb : vt'.ownBlock ≠ some b := fun e => by
    rcases hl with e2 | e2
    · rw [e2] at e; exact h.tb e
    · rw [e2] at e; injection e with e; have := h.bl; omega
  have s6 : ∀ k, k ≠ b → (w5.setCell ⟨b, 2, none⟩ vt').heap[k]? = w5.heap[k]? := fun k hk => Below.heap_setCell _ _ _ _ hk
  refine ⟨h5, ⟨h.ty, ?_, owns_off h.ri fun k hk => (s6 k (fun e => h.ib (e ▸ hk))).trans (st k (own_lt h.ri k hk) (fun e => h.it k hk e)), owns_off ho fun k hk => s6 k (fun e => hvb (e ▸ hk)), h.num.far ((s6 mp h.mb).trans (st mp h.num.lt h.tm))⟩, hg.os, hg.tape, hg.output, ?_, fun k hk hF => ?_, fun k hk => ?_⟩
  · rw [heap_setCell_same w5 b 2 _ _ _ h5]; rfl
  · simp; omega
  · exact (s6 k fun e => hF (Or.inl e)).trans (st k hk fun e => hF (Or.inr (Or.inr (Or.inr e))))
  · rcases hk with hk | hk | hk | hk
    · exact Or.inl (Or.inl hk)
    · exact Or.inl (Or.inr (Or.inl hk))
    · exact Or.inl (Or.inr (Or.inr (Or.inl hk)))
    · rcases hl with e | e
      · rw [e] at hk; exact Or.inl (Or.inr (Or.inr (Or.inr hk)))
      · rw [e] at hk; injection hk with hk; right; omega
end
/-- Parts in memory. -/
structure Pts (w : World) (G : Nat → Prop) (b : Nat) (T : TypeId) (rest : List Value) (items : List It) (texts : List ByteArray) : Prop where
  nd : items.Nodup
  tl : texts.length = items.length
  few : items.length ≤ 20000000
  ok : ∀ x ∈ items, ItOk x
  tok : ∀ s ∈ texts, SOk s
  ex : ∃ vi mp vt, PtR w b T rest vi mp vt items texts items.length (posI items) ∧ ∀ k, G k ↔ FP b mp vi vt k
theorem Pts.lt {w : World} {G : Nat → Prop} {b : Nat} {T : TypeId} {rest : List Value} {items : List It} {texts : List ByteArray} (h : Pts w G b T rest items texts) : ∀ k, G k → k < w.heap.size := fun k hk => by
  obtain ⟨vi, mp, vt, hr, hG⟩ := h.ex
  exact hr.lt k ((hG k).1 hk)
theorem Pts.far {w w' : World} {G : Nat → Prop} {b : Nat} {T : TypeId} {rest : List Value} {items : List It} {texts : List ByteArray} (h : Pts w G b T rest items texts) (hb : ∀ k, G k → w'.heap[k]? = w.heap[k]?) : Pts w' G b T rest items texts := by
  obtain ⟨vi, mp, vt, hr, hG⟩ := h.ex
  exact ⟨h.nd, h.tl, h.few, h.ok, h.tok, vi, mp, vt, hr.far fun k hk => hb k ((hG k).2 hk), hG⟩
theorem Pts.up {w w' : World} {G : Nat → Prop} {b : Nat} {T : TypeId} {rest : List Value} {items : List It} {texts : List ByteArray} (h : Pts w G b T rest items texts) (hb : Below w.heap.size w w') : Pts w' G b T rest items texts := h.far fun k hk => hb.block k (h.lt k hk)
theorem Fr.alike {w w' : World} {F G F' G' : Nat → Prop} (h : Fr w w' F F') (h1 : ∀ k, F k → G k) (h2 : ∀ k, G' k → F' k) : Fr w w' G G' :=
  ⟨h.os, h.tape, h.output, h.size, fun k hk hn => h.keep k hk fun e => hn (h1 k e), fun k hk => (h.foot k (h2 k hk)).imp (h1 k) id⟩
set_option maxRecDepth 100000 in
set_option maxHeartbeats 4000000 in
theorem Tryd.pkeep_there {w : World} {G : Nat → Prop} {b : Nat} {T : TypeId} {rest : List Value} {items : List It} {texts : List ByteArray} (h : Pts w G b T rest items texts) (x : It) (hx : ItOk x) (j : Nat) (hj : posI items x = some j) :
    Calls Tryd.prog 57 #[.pointer (some ⟨b, 0, none⟩), itV x] w fun e w' => e = .returned (.int .i64 (j : Int)) ∧ Below w.heap.size w w' := by
  obtain ⟨vi, mp, vt, hr, hG⟩ := h.ex
  have hr1 := hr.up (below_new w (itO x))
  have c1 := hr1.c1
  have hb0 := (MapKept.heap_alloc w (itO x)).1
  have b0 : (w.alloc (itO x)).cell? ⟨w.heap.size, 0, none⟩ = some (.int .u8 (x.op : Int)) := cell_row hb0 0
  have b1 : (w.alloc (itO x)).cell? ⟨w.heap.size, 1, none⟩ = some (.int .u8 (x.p : Int)) := cell_row hb0 1
  have b2 : (w.alloc (itO x)).cell? ⟨w.heap.size, 2, none⟩ = some (.int .i64 x.a) := cell_row hb0 2
  have b3 : (w.alloc (itO x)).cell? ⟨w.heap.size, 3, none⟩ = some (.int .i64 x.b) := cell_row hb0 3
  have hlook : (Instr.lookup 26 (.map (some mp)) (itV x) true).run Tryd.prog (w.alloc (itO x)).drew = .ok (.tuple #[.int .i64 (j : Int), .bool true]) (w.alloc (itO x)).drew := by
    have := (show NumOf (w.alloc (itO x)).drew mp items.length (posI items) from hr1.num).look hx
    rw [hj] at this
    exact this
  have HB : Hid _ := below_new w (itO x)
  clear h hr hr1 hG hb0 hx hj
  obtain ⟨op, p, xa, xb⟩ := x
  unfold itO at *
  unfold itV at *
  dsimp only at *
  go_enter Tryd.func57, Tryd.ntmps57
  go_upto_region 15 with fail
  go_region
  all_goals
    go_wp2
    go_ret
    exact ⟨rfl, HB.out.drew⟩
theorem Tryd.infoStrQ : (Tryd.prog.info? 9).map (fun i => (i.zero, i.size, i.bytes)) = some (some (.string ⟨#[]⟩), 1, 16) := by kernel_rfl
/-- One value more behind a row of the call's own; many. -/
theorem append_v2 {w : World} {ops : Array Oper} {rest : List Oper} {o : Oper} {a : Act} {Q : Exit → Act → World → Prop} {T E : TypeId} {z : Value} {bt : Nat} (hu : Tryd.prog.underlying T = some (.slice E)) (hin : (Tryd.prog.info? E).map (fun i => (i.zero, i.size, i.bytes)) = some (some z, 1, bt)) (hzs : z.cells.size = 1) (hbt : bt ≤ 1000) (hgd : o.guard = none) (s x : Operand)
    (ho : o.op = .call { callee := .builtin .append, args := #[s, x], argTypes := #[T, T] }) (base : Nat)
    (v : Value) (n : Nat) (xs : List Value) (y : Value) (g : Nat) (hs : a.eval s = v) (hx : a.eval x = .slice (some ⟨g, 0, none⟩) 1 1) (hown : w.ownsRow base E 1 v n xs)
    (hB : w.cell? ⟨g, 0, none⟩ = some y) (h1 : y.oneCell' = true) (hn : n ≤ 100000000) (hbase : base ≤ w.heap.size)
    (h : ∀ v' w', w'.ownsRow base E 1 v' (n + 1) (xs ++ [y]) → w.grownBy w' v.ownBlock → (v'.ownBlock = v.ownBlock ∨ v'.ownBlock = some w.heap.size) → wpList Tryd.prog ops Q rest (a.put o.dst v') w') : wpList Tryd.prog ops Q (o :: rest) a w := by
  obtain ⟨i, hi, hz0, hz1, hz2⟩ := info_parts hin
  have hb : (n + 1) * bt ≤ (100000000 + 1) * 1000 := Nat.mul_le_mul (by omega) hbt
  refine wpList_append_own_at w hgd s x T ho base E i _ 1 bt hu hi hz0 hz1 hz2 hzs (by decide) v n _ hs hown ⟨g, 0, none⟩ 1 1 [y] hx rfl ?_ ?_ (by unfold maxLen; omega) (by omega) hbase ?_
  · intro j u hj
    match j with
    | 0 => simp at hj; rw [← hj, add_plain]; exact hB
    | j + 1 => simp at hj
  · intro u hu'
    simp at hu'
    subst hu'
    exact h1
  · intro v' w' e1 e2 _ e3
    exact h v' w' e1 e2 e3
theorem keep_fin {w w8 : World} {G : Nat → Prop} {b mp : Nat} {T : TypeId} {rest : List Value} {vi vt vi' vt' : Value} {items : List It} {texts : List ByteArray} {x : It} (h : Pts w G b T rest items texts) (hG : ∀ k, G k ↔ FP b mp vi vt k) (hx : ItOk x) (hn : x ∉ items) (hl : items.length < 20000000)
    (hR : PtR w8 b T rest vi' mp vt' (items ++ [x]) (texts ++ [⟨#[]⟩]) (items.length + 1) (fun y => if y = x then some items.length else posI items y)) (fr : Fr w w8 (FP b mp vi vt) (FP b mp vi' vt')) :
    ∃ G', Pts w8 G' b T rest (items ++ [x]) (texts ++ [⟨#[]⟩]) ∧ Fr w w8 G G' := by
  refine ⟨FP b mp vi' vt', ⟨List.nodup_append.2 ⟨h.nd, by simp, fun a ha c hc => by simp at hc; subst hc; exact fun e => hn (e ▸ ha)⟩, by simp [h.tl], by simp; omega, fun y hy => ?_, fun s hs => ?_, vi', mp, vt', ⟨hR.ty, hR.blk, hR.ri, hR.rt, ?_⟩, fun k => Iff.rfl⟩, fr.alike (fun k hk => (hG k).2 hk) (fun k hk => hk)⟩
  · rcases List.mem_append.1 hy with hy | hy
    · exact h.ok y hy
    · simp at hy; subst hy; exact hx
  · rcases List.mem_append.1 hs with hs | hs
    · exact h.tok s hs
    · simp at hs; subst hs; unfold SOk; decide
  · rw [List.length_append]
    exact hR.num.alike fun y _ => posI_more hn y
set_option maxRecDepth 100000 in
set_option maxHeartbeats 4000000 in
theorem Tryd.pkeep_new {w : World} {G : Nat → Prop} {b : Nat} {T : TypeId} {rest : List Value} {items : List It} {texts : List ByteArray} (h : Pts w G b T rest items texts) (x : It) (hx : ItOk x) (hn : x ∉ items) (hl : items.length < 20000000) :
    Calls Tryd.prog 57 #[.pointer (some ⟨b, 0, none⟩), itV x] w fun e w' => e = .returned (.int .i64 (items.length : Int)) ∧ ∃ G', Pts w' G' b T rest (items ++ [x]) (texts ++ [⟨#[]⟩]) ∧ Fr w w' G G' := by
  obtain ⟨vi, mp, vt, hr, hG⟩ := h.ex
  obtain ⟨ai, ci, rfl⟩ := own_slI hr.ri
  obtain ⟨at', ct, rfl⟩ := own_slI hr.rt
  have hr1 : PtR (w.alloc (itO x)).drew b T rest _ mp _ items texts items.length (posI items) := (hr.up (below_new w (itO x))).up (Below.refl _ _).drew
  have c0 := (hr.up (below_new w (itO x))).c0
  have c1 := (hr.up (below_new w (itO x))).c1
  have hb0 := (MapKept.heap_alloc w (itO x)).1
  have b0 : (w.alloc (itO x)).cell? ⟨w.heap.size, 0, none⟩ = some (.int .u8 (x.op : Int)) := cell_row hb0 0
  have b1 : (w.alloc (itO x)).cell? ⟨w.heap.size, 1, none⟩ = some (.int .u8 (x.p : Int)) := cell_row hb0 1
  have b2 : (w.alloc (itO x)).cell? ⟨w.heap.size, 2, none⟩ = some (.int .i64 x.a) := cell_row hb0 2
  have b3 : (w.alloc (itO x)).cell? ⟨w.heap.size, 3, none⟩ = some (.int .i64 x.b) := cell_row hb0 3
  have hlook : (Instr.lookup 26 (.map (some mp)) (itV x) true).run Tryd.prog (w.alloc (itO x)).drew = .ok (.tuple #[.int .i64 0, .bool false]) (w.alloc (itO x)).drew := by
    have := hr1.num.look hx
    rw [posI_none.2 hn] at this
    exact this
  obtain ⟨w4, hrun, hn4, hg4⟩ := (show NumOf (w.alloc (itO x)).drew.drew mp items.length (posI items) from hr1.num).put (by have := h.few; omega) hx (posI_none.2 hn) items.length (by have := h.few; omega)
  obtain ⟨hp4, fr4⟩ := (hr1.up (Below.refl _ _).drew).put hg4 hn4
  have HP4 : Hid _ := hp4
  have HFR4 : Hid (Fr w w4 _ _) := (Fr.ofBelow ((below_new w (itO x)).drew.drew)).trans fr4
  have d0 := hp4.c0
  have d0b := (hp4.up (below_new w4 (itO x))).c0
  have hbx : w4.heap[w.heap.size]? = some (itO x) := by
    refine (hg4.block _ (by simp) (fun e => ?_)).trans hb0
    injection e with e
    have := hr.num.lt
    omega
  have e0 : w4.cell? ⟨w.heap.size, 0, none⟩ = some (.int .u8 (x.op : Int)) := cell_row hbx 0
  have e1 : w4.cell? ⟨w.heap.size, 1, none⟩ = some (.int .u8 (x.p : Int)) := cell_row hbx 1
  have e2 : w4.cell? ⟨w.heap.size, 2, none⟩ = some (.int .i64 x.a) := cell_row hbx 2
  have e3 : w4.cell? ⟨w.heap.size, 3, none⟩ = some (.int .i64 x.b) := cell_row hbx 3
  have hO : (w4.alloc (itO x)).drew.ownsRow 0 81 4 (.slice ai items.length ci) items.length (encI items) := World.ownsRow.alloc hp4.ri _
  have hB : (w4.alloc (itO x)).drew.heap[w4.heap.size]? = some (itO x) := (MapKept.heap_alloc w4 (itO x)).1
  have HI : Hid _ := h
  have HG : Hid _ := hG
  have HX : Hid _ := hx
  have HN : Hid _ := hn
  have HGROW : Hid _ := fun w5 vi' hg ho hl => hp4.grow (w5 := w5) (o := itO x) (vi' := vi') (items' := items ++ [x]) hg ho hl
  have htl := h.tl
  have hfew := h.few
  clear h hr hr1 hG hb0 hx hn hp4 fr4 hn4 hg4 hbx
  obtain ⟨op, p, xa, xb⟩ := x
  unfold itO at *
  unfold itV at *
  dsimp only at *
  generalize hL : items.length = L at *
  generalize hL2 : texts.length = L2 at *
  have HL : Hid (items.length = L) := hL
  have HL2 : Hid (texts.length = L2) := hL2
  subst htl
  clear hL hL2
  go_enter Tryd.func57, Tryd.ntmps57
  go_upto_region 15 with fail
  go_region
  all_goals
    clear hlook
    go_upto_region 15 with fail
    go_region
    all_goals
      clear hrun c0 c1 b0 b1 b2 b3
      go_upto_region 15 with fail
      go_region_law ((refine Tryd.stepg_it rfl _ _ rfl (.slice ai L2 ci) L2 items ⟨op, p, xa, xb⟩ w4.heap.size rfl rfl hO hB (by omega) ?_; intro v5 w5 hown5 hgr5 hloc5; obtain ⟨a5, k5, rfl⟩ := own_slI hown5; have m5 := HGROW.out w5 _ hgr5 (by rw [List.length_append, HL.out]; exact hown5) hloc5; have c5 : w5.cell? ⟨b, 0, none⟩ = some (.slice ai L2 ci) := cell_row m5.1 0; have z5 : w5.frozen? ⟨b, 0, none⟩ = false := frozen_of_row w5 _ 0 _ _ m5.1))
      all_goals
        have HM6 : Hid _ := m5.2.1
        have HF6 : Hid _ := HFR4.out.trans m5.2.2
        clear hO hB d0 d0b e0 e1 e2 e3 c5 z5 m5 hown5 hgr5 hloc5
        generalize w5.setCell ⟨b, 0, none⟩ (.slice a5 (L2 + 1) k5) = w6 at *
        have f2 := HM6.out.c2
        have hc7 : (w6.alloc (.cells #[.string ⟨#[]⟩] 9)).cell? ⟨w6.heap.size, 0, none⟩ = some (.string ⟨#[]⟩) := cell_row (MapKept.heap_alloc w6 _).1 0
        have hO7 : (w6.alloc (.cells #[.string ⟨#[]⟩] 9)).ownsRow 0 9 1 (.slice at' L2 ct) L2 (texts.map Value.string) := by
          have := World.ownsRow.alloc HM6.out.rt (.cells #[.string ⟨#[]⟩] 9)
          rw [HL2.out] at this
          exact this
        go_wp2_with (at_builtin; refine append_v2 Tryd.underlying27 Tryd.infoStrQ rfl (by decide) rfl _ _ rfl 0 _ L2 (texts.map Value.string) (.string ⟨#[]⟩) w6.heap.size rfl rfl hO7 hc7 rfl (by omega) (Nat.zero_le _) ?_)
        intro v7 w7 hown7 hgr7 hloc7
        obtain ⟨a7, k7, rfl⟩ := own_slI hown7
        have m7 := HM6.out.growT (texts' := texts ++ [⟨#[]⟩]) hgr7 (by rw [List.length_append, HL2.out, List.map_append]; exact hown7) (by simpa using hloc7)
        have c7 : w7.cell? ⟨b, 2, none⟩ = some (.slice at' L2 ct) := cell_row m7.1 2
        have z7 : w7.frozen? ⟨b, 2, none⟩ = false := frozen_of_row w7 _ 2 _ _ m7.1
        have HM8 : Hid _ := m7.2.1
        have HF8 : Hid _ := HF6.out.trans m7.2.2
        clear hc7 hO7 m7 hown7 hgr7 hloc7 f2
        go_wp2
        go_ret
        have e := HL.out
        subst e
        exact ⟨rfl, keep_fin HI.out HG.out HX.out HN.out hl HM8.out HF8.out⟩
end Go.Proofs.YtnedkpbpeolfoaaDoor
namespace Go.Proofs.YtnedkpbpeolfoaaDoor
open Go.RowKit Go.Maps
/-- A formula's tokens as a text. -/
def txB (S : Tr) : ByteArray := ⟨(S.flat.map fun k => UInt8.ofNat (k.1 * 8 + k.2)).toArray⟩
/-- Every item comes of the formula. -/
def Cov (T0 : Tr) (items : List It) : Prop := ∀ n, n < items.length → ∃ S, Rep items n S ∧ InC T0 S
theorem cov_len {T0 : Tr} {items : List It} (hn : items.Nodup) (h : Cov T0 items) : items.length ≤ (allC T0).length := by
  have hf : ∀ n, ∃ S, n < items.length → Rep items n S ∧ InC T0 S := fun n => by
    by_cases hn : n < items.length
    · obtain ⟨S, hS⟩ := h n hn
      exact ⟨S, fun _ => hS⟩
    · exact ⟨.leaf (0, 0), fun h => absurd h hn⟩
  have hl : ((List.range items.length).map fun n => Classical.choose (hf n)).length = items.length := by simp
  rw [← hl]
  refine nodup_le ?_ fun S hS => ?_
  · unfold List.Nodup
    rw [List.pairwise_map]
    refine List.Pairwise.imp_of_mem ?_ (List.pairwise_lt_range (n := items.length))
    intro a b ha hb hab e
    have h1 := (Classical.choose_spec (hf a) (List.mem_range.1 ha)).1
    have h2 := (Classical.choose_spec (hf b) (List.mem_range.1 hb)).1
    rw [e] at h1
    have := Rep.num hn h1 h2
    omega
  · obtain ⟨n, hn, rfl⟩ := List.mem_map.1 hS
    exact inC_all (Classical.choose_spec (hf n) (List.mem_range.1 hn)).2
/-- A formula of which parts come. -/
structure T0k (T0 : Tr) : Prop where
  kt : KT T0
  sz : T0.size ≤ 2048
/-- Parts that come of a formula, in memory. -/
structure PtO (T0 : Tr) (w : World) (G : Nat → Prop) (b : Nat) (T : TypeId) (rest : List Value) (items : List It) : Prop where
  t0 : T0k T0
  low : Low items
  cov : Cov T0 items
  ex : ∃ texts, Pts w G b T rest items texts ∧ ∀ n S, Rep items n S → texts[n]? = some ⟨#[]⟩ ∨ texts[n]? = some (txB S)
theorem PtO.lt {T0 : Tr} {w : World} {G : Nat → Prop} {b : Nat} {T : TypeId} {rest : List Value} {items : List It} (h : PtO T0 w G b T rest items) : ∀ k, G k → k < w.heap.size := by
  obtain ⟨texts, hp, _⟩ := h.ex
  exact hp.lt
theorem PtO.far {T0 : Tr} {w w' : World} {G : Nat → Prop} {b : Nat} {T : TypeId} {rest : List Value} {items : List It} (h : PtO T0 w G b T rest items) (hb : ∀ k, G k → w'.heap[k]? = w.heap[k]?) : PtO T0 w' G b T rest items := by
  obtain ⟨texts, hp, ht⟩ := h.ex
  exact ⟨h.t0, h.low, h.cov, texts, hp.far hb, ht⟩
theorem PtO.up {T0 : Tr} {w w' : World} {G : Nat → Prop} {b : Nat} {T : TypeId} {rest : List Value} {items : List It} (h : PtO T0 w G b T rest items) (hb : Below w.heap.size w w') : PtO T0 w' G b T rest items := h.far fun k hk => hb.block k (h.lt k hk)
theorem PtO.few {T0 : Tr} {w : World} {G : Nat → Prop} {b : Nat} {T : TypeId} {rest : List Value} {items : List It} (h : PtO T0 w G b T rest items) : items.length ≤ 20000000 := by
  obtain ⟨texts, hp, _⟩ := h.ex
  exact hp.few
/-- What keeping answers: a number of S. -/
def KeepP (T0 : Tr) (w : World) (G : Nat → Prop) (b : Nat) (T : TypeId) (rest : List Value) (items : List It) (R : List It → Int → Prop) (j : Int) (w' : World) : Prop :=
  ∃ (items' : List It) (G' : Nat → Prop), items <+: items' ∧ R items' j ∧ PtO T0 w' G' b T rest items' ∧ Fr w w' G G'
def KeepR (T0 : Tr) (w : World) (G : Nat → Prop) (b : Nat) (T : TypeId) (rest : List Value) (items : List It) (R : List It → Int → Prop) (e : Ending) (w' : World) : Prop :=
  ∃ (j : Int), e = .returned (.int .i64 j) ∧ KeepP T0 w G b T rest items R j w'
/-- A number is that of a tree. -/
def IsN (S : Tr) (items : List It) (j : Int) : Prop := ∃ m : Nat, j = (m : Int) ∧ Rep items m S
theorem Rep.pre {items items' : List It} (h : items <+: items') {n : Nat} {S : Tr} (hr : Rep items n S) : Rep items' n S := by
  obtain ⟨l, rfl⟩ := h
  exact hr.more l
theorem Tryd.keep_tree {T0 : Tr} {w : World} {G : Nat → Prop} {b : Nat} {T : TypeId} {rest : List Value} {items : List It} (h : PtO T0 w G b T rest items) (x : It) (S : Tr) (hS : InC T0 S) (hx : ItOk x) (ha : x.a < (items.length : Int)) (hb : x.b < (items.length : Int))
    (hR : ∀ items' j, items <+: items' → Low items' → items'[j]? = some x → Rep items' j S) :
    Calls Tryd.prog 57 #[.pointer (some ⟨b, 0, none⟩), itV x] w (KeepR T0 w G b T rest items (IsN S)) := by
  obtain ⟨texts, hp, ht⟩ := h.ex
  cases hj : posI items x with
  | some j =>
    have hget := (posI_some hp.nd).1 hj
    have hrep := hR items j (List.prefix_refl _) h.low hget
    exact (Tryd.pkeep_there hp x hx j hj).mono fun e w' ⟨he, hbw⟩ => ⟨(j : Int), he, items, G, List.prefix_refl _, ⟨j, rfl, hrep⟩, h.up hbw, Fr.ofBelow hbw⟩
  | none =>
    have hn := posI_none.1 hj
    have hlow : Low (items ++ [x]) := by
      have := addI_low h.low ha hb
      have e : addI items x = (items ++ [x], items.length) := by
        rcases addI_cases items x with ⟨j, _, hj2⟩ | ⟨e, _⟩
        · exact absurd (List.mem_of_getElem? hj2) hn
        · exact e
      rw [e] at this
      exact this
    have hrep := hR (items ++ [x]) items.length (List.prefix_append _ _) hlow (by simp)
    have hnd : (items ++ [x]).Nodup := List.nodup_append.2 ⟨hp.nd, by simp, fun a h1 c hc => by simp at hc; subst hc; exact fun e => hn (e ▸ h1)⟩
    have hcov : Cov T0 (items ++ [x]) := fun n hn2 => by
      by_cases hlt : n < items.length
      · obtain ⟨S', h1, h2⟩ := h.cov n hlt
        exact ⟨S', h1.more [x], h2⟩
      · have : n = items.length := by simp at hn2; omega
        subst this
        exact ⟨S, hrep, hS⟩
    have hl : items.length < 20000000 := by
      have h1 := cov_len hnd hcov
      have h2 := all_len h.t0.kt h.t0.sz
      simp at h1
      omega
    refine (Tryd.pkeep_new hp x hx hn hl).mono fun e w' ⟨he, G', hp', fr⟩ => ⟨(items.length : Int), he, items ++ [x], G', List.prefix_append _ _, ⟨_, rfl, hrep⟩, ⟨h.t0, hlow, hcov, _, hp', fun n S' hr => ?_⟩, fr⟩
    by_cases hlt : n < items.length
    · obtain ⟨S2, h1, _⟩ := h.cov n hlt
      have e := Rep.tree (h1.more [x]) hr
      subst e
      rw [List.getElem?_append_left (by rw [hp.tl]; exact hlt)]
      exact ht n _ h1
    · have : n = items.length := by have := hr.lt; simp at this; omega
      subst this
      refine Or.inl ?_
      rw [← hp.tl]
      simp
theorem wf_small : ∀ T : Tr, T.WF → ∀ k ∈ T.flat, k.1 ≤ 23 ∧ k.2 ≤ 7
  | .leaf (op, p), h, k, hk => by
    simp [Tr.flat] at hk
    subst hk
    rcases leaf_cases h with ⟨rfl, hp⟩ | ⟨rfl, rfl | rfl | rfl | rfl | rfl⟩
    · exact ⟨by show 2 ≤ 23; omega, hp⟩
    all_goals exact ⟨by decide, by decide⟩
  | .un (op, p) c, h, k, hk => by
    obtain ⟨rfl, hc, _, ho⟩ := un_cases h
    simp [Tr.flat] at hk
    rcases hk with hk | rfl
    · exact wf_small c hc k hk
    · exact ⟨by show op ≤ 23; omega, Nat.zero_le _⟩
  | .bin (op, p) c d, h, k, hk => by
    obtain ⟨rfl, hc, hd, _, ho⟩ := bin_cases h
    simp [Tr.flat] at hk
    rcases hk with hk | hk | rfl
    · exact wf_small c hc k hk
    · exact wf_small d hd k hk
    · exact ⟨by show op ≤ 23; omega, Nat.zero_le _⟩
theorem inC_op {T0 S : Tr} (h0 : KT T0) (h : InC T0 S) : ∀ k ∈ S.flat, k.1 ≤ 23 ∧ k.2 ≤ 7 := by
  have hw : S.WF := by rcases inC_kind h0 h with k | k <;> exact k.wf
  exact wf_small S hw
theorem it_ok {op : Nat} {a b : Int} (ho : op < 256) (ha : -1 ≤ a) (ha2 : a < 100000000) (hb : -1 ≤ b) (hb2 : b < 100000000) : ItOk ⟨op, 0, a, b⟩ := ⟨ho, by show 0 < 256; decide, ha, ha2, hb, hb2⟩
set_option maxRecDepth 100000 in
theorem Tryd.pleaf_any {T0 : Tr} {w : World} {G : Nat → Prop} {b : Nat} {T : TypeId} {rest : List Value} {items : List It} (h : PtO T0 w G b T rest items) (op : Nat) (ho : op = 4 ∨ op = 5) :
    Calls Tryd.prog 64 #[.pointer (some ⟨b, 0, none⟩), .int .u8 (op : Int)] w (KeepR T0 w G b T rest items (IsN (.leaf (op, 0)))) := by
  have hk := Tryd.keep_tree h ⟨op, 0, -1, -1⟩ (.leaf (op, 0)) (inC_more ho) (it_ok (by omega) (by decide) (by decide) (by decide) (by decide)) (by show (-1 : Int) < _; omega) (by show (-1 : Int) < _; omega) (fun items' j _ _ hj => .leaf hj)
  unfold KeepR at *
  generalize KeepP T0 w G b T rest items (IsN (.leaf (op, 0))) = Q at *
  clear h ho
  unfold itV at hk
  dsimp only at hk
  go_enter Tryd.func64, Tryd.ntmps64
  go_wp2_with fail
  refine hk.mono ?_
  rintro e w' ⟨j, rfl, hq⟩
  have HQ : Hid _ := hq
  clear hk hq
  go_wp2
  go_ret
  exact ⟨j, rfl, HQ.out⟩
set_option maxRecDepth 100000 in
theorem Tryd.palong_any {T0 : Tr} {w : World} {G : Nat → Prop} {b : Nat} {T : TypeId} {rest : List Value} {items : List It} (h : PtO T0 w G b T rest items) (op : Nat) (ho : op < 256) (m l : Nat) (c d : Tr) (hm : Rep items m c) (hl : Rep items l d) (hS : InC T0 (.bin (op, 0) c d)) :
    Calls Tryd.prog 76 #[.pointer (some ⟨b, 0, none⟩), .int .u8 (op : Int), .int .i64 (m : Int), .int .i64 (l : Int)] w (KeepR T0 w G b T rest items (IsN (.bin (op, 0) c d))) := by
  have hk := Tryd.keep_tree h ⟨op, 0, (m : Int), (l : Int)⟩ (.bin (op, 0) c d) hS (it_ok ho (by omega) (by have := hm.lt; have := h.few; omega) (by omega) (by have := hl.lt; have := h.few; omega)) (by show (m : Int) < _; have := hm.lt; omega) (by show (l : Int) < _; have := hl.lt; omega) (fun items' j hp hlow hj => by
    obtain ⟨h1, h2⟩ := low_lt2 (k := (op, 0)) hlow hj
    exact .bin hj h1 h2 (hm.pre hp) (hl.pre hp))
  unfold KeepR at *
  generalize KeepP T0 w G b T rest items (IsN (.bin (op, 0) c d)) = Q at *
  clear h ho hm hl hS
  unfold itV at hk
  dsimp only at hk
  go_enter Tryd.func76, Tryd.ntmps76
  go_wp2_with fail
  refine hk.mono ?_
  rintro e w' ⟨j, rfl, hq⟩
  have HQ : Hid _ := hq
  clear hk hq
  go_wp2
  go_ret
  exact ⟨j, rfl, HQ.out⟩
/-- The token that stands in a negation. -/
def duO (op : Nat) : Nat := if op = 0 then 1 else if op = 1 then 0 else if op = 4 then 5 else if op = 5 then 4 else if op = 7 then 8 else if op = 8 then 7 else if op = 11 then 12 else if op = 12 then 11 else if op = 15 then 16 else if op = 16 then 15 else if op = 17 then 18 else 17
set_option maxRecDepth 100000 in
set_option maxHeartbeats 4000000 in
theorem Tryd.pdual_any (op : Nat) (w : World) (h : op = 0 ∨ op = 1 ∨ op = 4 ∨ op = 5 ∨ op = 7 ∨ op = 8 ∨ op = 11 ∨ op = 12 ∨ op = 15 ∨ op = 16 ∨ op = 17 ∨ op = 18) : Calls Tryd.prog 83 #[.int .u8 (op : Int)] w fun e w' => e = .returned (.int .u8 (duO op : Int)) ∧ w' = w := by
  rcases h with rfl | rfl | rfl | rfl | rfl | rfl | rfl | rfl | rfl | rfl | rfl | rfl <;>
  · go_enter Tryd.func83, Tryd.ntmps83
    go_wp2
    go_ret
    exact ⟨rfl, rfl⟩
end Go.Proofs.YtnedkpbpeolfoaaDoor
namespace Go.Proofs.YtnedkpbpeolfoaaDoor
open Go.RowKit Go.Maps
/-- A number, or none. -/
def IsM (_ : List It) (j : Int) : Prop := j = -1
theorem KeepP.trans {T0 : Tr} {w w1 w2 : World} {G G1 : Nat → Prop} {b : Nat} {T : TypeId} {rest : List Value} {items items1 : List It} {R : List It → Int → Prop} {j : Int} (hp : items <+: items1) (fr : Fr w w1 G G1) (h : KeepP T0 w1 G1 b T rest items1 R j w2) : KeepP T0 w G b T rest items R j w2 := by
  obtain ⟨i2, G2, h1, h2, h3, h4⟩ := h
  exact ⟨i2, G2, hp.trans h1, h2, h3, fr.trans h4⟩
set_option maxRecDepth 100000 in
theorem Tryd.pneg_none {T0 : Tr} {w : World} {G : Nat → Prop} {b : Nat} {T : TypeId} {rest : List Value} {items : List It} (h : PtO T0 w G b T rest items) :
    Calls Tryd.prog 77 #[.pointer (some ⟨b, 0, none⟩), .int .i64 (-1)] w (KeepR T0 w G b T rest items IsM) := by
  have HQ : Hid (KeepP T0 w G b T rest items IsM (-1) w) := ⟨items, G, List.prefix_refl _, rfl, h, Fr.ofBelow (Below.refl _ _)⟩
  clear h
  go_enter Tryd.func77, Tryd.ntmps77
  go_wp2
  go_ret
  exact ⟨-1, rfl, HQ.out⟩
/-- An item, where it lies among the items. -/
theorem PtO.at {T0 : Tr} {w : World} {G : Nat → Prop} {b : Nat} {T : TypeId} {rest : List Value} {items : List It} (h : PtO T0 w G b T rest items) {i : Nat} {x : It} (hi : items[i]? = some x) :
    ∃ a n cap g o, w.cell? ⟨b, 0, none⟩ = some (.slice a n cap) ∧ (∀ w', (Instr.indexAt 25 (.slice a n cap) (.int .i64 (i : Int))).run Tryd.prog w' = .ok (.pointer (some ⟨g, o, none⟩)) w') ∧
      w.cell? ⟨g, o, none⟩ = some (.int .u8 (x.op : Int)) ∧ w.cell? ⟨g, o + 1, none⟩ = some (.int .u8 (x.p : Int)) ∧ w.cell? ⟨g, o + 2, none⟩ = some (.int .i64 x.a) ∧ w.cell? ⟨g, o + 3, none⟩ = some (.int .i64 x.b) := by
  obtain ⟨texts, hp, _⟩ := h.ex
  obtain ⟨vi, mp, vt, hr, _⟩ := hp.ex
  obtain ⟨hi1, hi2⟩ := List.getElem?_eq_some_iff.1 hi
  rcases hr.ri.2 with ⟨e, e0⟩ | ⟨g, cap', cur, rfl, _, hcell, hnc, _, hsz, htk⟩
  · omega
  · have key : ∀ j, j < items.length * 4 → w.cell? ⟨g, j, none⟩ = (encI items)[j]? := fun j hj => by
      rw [← htk, List.getElem?_take, if_pos hj]
      simp [World.cell?, hcell]
    obtain ⟨q0, q1, q2, q3⟩ := encI_get items i hi1
    rw [hi2] at q0 q1 q2 q3
    refine ⟨_, _, _, g, 4 * i, hr.c0, fun w' => ?_, ?_, ?_, ?_, ?_⟩
    · simp [Instr.indexAt, run_underlying Tryd.underlying25, asIntOf, sizeOf_runI Tryd.sizeItem, hi1, Result.andThen, go_sem, add_plain, Nat.mul_comm]
    · rw [key _ (by omega)]; exact q0
    · rw [key _ (by omega)]; exact q1
    · rw [key _ (by omega)]; exact q2
    · rw [key _ (by omega)]; exact q3
theorem PtO.new {T0 : Tr} {w : World} {G : Nat → Prop} {b : Nat} {T : TypeId} {rest : List Value} {items : List It} (h : PtO T0 w G b T rest items) : ¬ G w.heap.size := fun e => Nat.lt_irrefl _ (h.lt _ e)
/-- An item's own block stays. -/
theorem box_keep {w w' : World} {G G' : Nat → Prop} {B : Nat} {o : Obj} (h : w.heap[B]? = some o) (hB : ¬ G B) (fr : Fr w w' G G') : w'.heap[B]? = some o ∧ ¬ G' B :=
  ⟨(fr.keep B (Array.getElem?_eq_some_iff.1 h).1 hB).trans h, fr.out hB (Array.getElem?_eq_some_iff.1 h).1⟩
set_option maxRecDepth 100000 in
set_option maxHeartbeats 4000000 in
/-- Of a proposition. -/
theorem Tryd.pneg_prop {T0 : Tr} {w : World} {G : Nat → Prop} {b : Nat} {T : TypeId} {rest : List Value} {items : List It} (h : PtO T0 w G b T rest items) (i q : Nat) (hi : Rep items i (.leaf (2, q))) (hS : InC T0 (.un (6, 0) (.leaf (2, q)))) :
    Calls Tryd.prog 77 #[.pointer (some ⟨b, 0, none⟩), .int .i64 (i : Int)] w (KeepR T0 w G b T rest items (IsN (.un (6, 0) (.leaf (2, q))))) := by
  have hx : items[i]? = some ⟨2, q, -1, -1⟩ := by cases hi with | leaf h => exact h
  obtain ⟨a, n, cap, g, o, c0, hidx, x0, x1, x2, x3⟩ := h.at hx
  have hb := below_new w (itO ⟨2, q, -1, -1⟩)
  have hk := Tryd.keep_tree (h.up hb) ⟨6, 0, (i : Int), -1⟩ (.un (6, 0) (.leaf (2, q))) hS (it_ok (by omega) (by omega) (by have := hi.lt; have := h.few; omega) (by omega) (by omega)) (by show (i : Int) < _; have := hi.lt; omega) (by show (-1 : Int) < _; omega) (fun items' j hp hlow hj => by
    exact .un (k := (6, 0)) (m := i) hj (low_lt (k := (6, 0)) hlow hj) (hi.pre hp))
  have hFr : Fr w (w.alloc (itO ⟨2, q, -1, -1⟩)) G G := Fr.ofBelow hb
  have hne : ((i : Int) == -1) = false := by rw [beq_eq_false_iff_ne]; omega
  unfold KeepR at *
  have HTR : Hid (∀ j w', KeepP T0 (w.alloc (itO ⟨2, q, -1, -1⟩)) G b T rest items (IsN (.un (6, 0) (.leaf (2, q)))) j w' → KeepP T0 w G b T rest items (IsN (.un (6, 0) (.leaf (2, q)))) j w') := fun j w' h => h.trans (List.prefix_refl _) hFr
  generalize KeepP T0 (w.alloc (itO ⟨2, q, -1, -1⟩)) G b T rest items (IsN (.un (6, 0) (.leaf (2, q)))) = Q at *
  generalize KeepP T0 w G b T rest items (IsN (.un (6, 0) (.leaf (2, q)))) = Q2 at *
  clear h hi hS hb hFr hx
  unfold itO at *
  unfold itV at hk
  dsimp only at *
  go_enter Tryd.func77, Tryd.ntmps77
  go_wp2_with fail
  refine hk.mono ?_
  rintro e w' ⟨j, rfl, hq⟩
  have HQ : Hid _ := HTR.out _ _ hq
  clear hk hq
  go_wp2
  go_ret
  exact ⟨j, rfl, HQ.out⟩
set_option maxRecDepth 100000 in
set_option maxHeartbeats 4000000 in
/-- Of a negated proposition. -/
theorem Tryd.pneg_not {T0 : Tr} {w : World} {G : Nat → Prop} {b : Nat} {T : TypeId} {rest : List Value} {items : List It} (h : PtO T0 w G b T rest items) (i : Nat) (c : Tr) (hi : Rep items i (.un (6, 0) c)) :
    Calls Tryd.prog 77 #[.pointer (some ⟨b, 0, none⟩), .int .i64 (i : Int)] w (KeepR T0 w G b T rest items (IsN c)) := by
  obtain ⟨m, hx, hm⟩ : ∃ m : Nat, items[i]? = some ⟨6, 0, (m : Int), -1⟩ ∧ Rep items m c := by cases hi with | un h h1 h2 => exact ⟨_, h, h2⟩
  obtain ⟨a, n, cap, g, o, c0, hidx, x0, x1, x2, x3⟩ := h.at hx
  have hb := below_new w (itO ⟨6, 0, (m : Int), -1⟩)
  have HQ : Hid (KeepP T0 w G b T rest items (IsN c) (m : Int) (w.alloc (itO ⟨6, 0, (m : Int), -1⟩))) := ⟨items, G, List.prefix_refl _, ⟨m, rfl, hm⟩, h.up hb, Fr.ofBelow hb⟩
  have hne : ((i : Int) == -1) = false := by rw [beq_eq_false_iff_ne]; omega
  clear h hi hb hx hm
  unfold itO at *
  dsimp only at *
  go_enter Tryd.func77, Tryd.ntmps77
  go_wp2
  go_ret
  exact ⟨_, rfl, HQ.out⟩
theorem itV0 (op : Nat) (a b : Int) : itV ⟨op, 0, a, b⟩ = .agg #[.int .u8 (op : Int), .int .u8 0, .int .i64 a, .int .i64 b] := rfl
/-- What negation does of a number. -/
def NgC (T0 : Tr) (b : Nat) (T : TypeId) (rest : List Value) (items0 : List It) (a : Int) (R : List It → Int → Prop) : Prop :=
  ∀ (w : World) (G : Nat → Prop) (items : List It), items0 <+: items → PtO T0 w G b T rest items → Calls Tryd.prog 77 #[.pointer (some ⟨b, 0, none⟩), .int .i64 a] w (KeepR T0 w G b T rest items R)
set_option maxRecDepth 100000 in
set_option maxHeartbeats 8000000 in
/-- Of all others but paths' formulas. -/
theorem Tryd.pneg_rest {T0 : Tr} {w : World} {G : Nat → Prop} {b : Nat} {T : TypeId} {rest : List Value} {items : List It} (h : PtO T0 w G b T rest items) (i op p : Nat) (xa xb : Int) (hx : items[i]? = some ⟨op, p, xa, xb⟩) (ho : op = 0 ∨ op = 1 ∨ op = 4 ∨ op = 5 ∨ op = 7 ∨ op = 8 ∨ op = 11 ∨ op = 12 ∨ op = 15 ∨ op = 16)
    (RA RB : List It → Int → Prop) (hA : NgC T0 b T rest items xa RA) (hB : NgC T0 b T rest items xb RB) (S : Tr) (hS : InC T0 S)
    (hfin : ∀ i1 i2 ja jb, items <+: i1 → i1 <+: i2 → RA i1 ja → RB i2 jb → -1 ≤ ja ∧ ja < (i2.length : Int) ∧ -1 ≤ jb ∧ jb < (i2.length : Int) ∧ ∀ i3 j, i2 <+: i3 → Low i3 → i3[j]? = some ⟨duO op, 0, ja, jb⟩ → Rep i3 j S) :
    Calls Tryd.prog 77 #[.pointer (some ⟨b, 0, none⟩), .int .i64 (i : Int)] w (KeepR T0 w G b T rest items (IsN S)) := by
  obtain ⟨a, n, cap, g, o, c0, hidx, x0, x1, x2, x3⟩ := h.at hx
  have hb := below_new w (itO ⟨op, p, xa, xb⟩)
  have hne : ((i : Int) == -1) = false := by rw [beq_eq_false_iff_ne]; omega
  have hbx := (MapKept.heap_alloc w (itO ⟨op, p, xa, xb⟩)).1
  have hdu : op < 256 ∧ duO op < 256 := by rcases ho with rfl | rfl | rfl | rfl | rfl | rfl | rfl | rfl | rfl | rfl <;> decide
  have hdual := fun w => Tryd.pdual_any op w (by omega)
  have n2 : ((op : Int) == 2) = false := by rw [beq_eq_false_iff_ne]; omega
  have n6 : ((op : Int) == 6) = false := by rw [beq_eq_false_iff_ne]; omega
  have n17 : ((op : Int) == 17) = false := by rw [beq_eq_false_iff_ne]; omega
  have n18 : ((op : Int) == 18) = false := by rw [beq_eq_false_iff_ne]; omega
  have hwd : (w.alloc (itO ⟨op, p, xa, xb⟩)).drew.heap[w.heap.size]? = some (itO ⟨op, p, xa, xb⟩) := hbx
  have hPd : PtO T0 (w.alloc (itO ⟨op, p, xa, xb⟩)).drew G b T rest items := (h.up hb).up (Below.refl _ _).drew
  have hn1 := hA _ _ _ (List.prefix_refl _) hPd
  have HNB : Hid (NgC T0 b T rest items xb RB) := hB
  have HF0 : Hid (Fr w (w.alloc (itO ⟨op, p, xa, xb⟩)).drew G G) := Fr.ofBelow hb.drew
  have HBX : Hid _ := hwd
  have HNG : Hid (¬ G w.heap.size) := h.new
  have HFIN : Hid _ := hfin
  have HS : Hid _ := hS
  have HDU : Hid _ := hdu.2
  have cells : ∀ w' : World, w'.heap[w.heap.size]? = some (itO ⟨op, p, xa, xb⟩) → w'.cell? ⟨w.heap.size, 0, none⟩ = some (.int .u8 (op : Int)) ∧ w'.cell? ⟨w.heap.size, 2, none⟩ = some (.int .i64 xa) ∧ w'.cell? ⟨w.heap.size, 3, none⟩ = some (.int .i64 xb) := fun w' e => ⟨cell_row e 0, cell_row e 2, cell_row e 3⟩
  have HCL : Hid _ := cells
  have hk0 := cells _ hwd
  have hk00 := cells _ hbx
  clear h hb hx ho hA hB hS hfin hdu cells hbx hwd hPd
  unfold KeepR at *
  unfold itO at *
  dsimp only at *
  go_enter Tryd.func77, Tryd.ntmps77
  go_upto_region 40 with fail
  go_region_held3 (fun w' => w'.cell? ⟨w.heap.size, 0, none⟩ = some (.int .u8 (op : Int)) ∧ w'.cell? ⟨w.heap.size, 2, none⟩ = some (.int .i64 xa) ∧ w'.cell? ⟨w.heap.size, 3, none⟩ = some (.int .i64 xb)) (first | exact hk0 | exact hk00 | assumption | fail) (first
    | (go_at_call 83; (with_reducible refine (hdual _).mono ?_); rintro e w' ⟨rfl, rfl⟩)
    | (revert hn1; intro hn1; go_at_call 77; (with_reducible refine hn1.mono ?_); rintro e w1 ⟨ja, rfl, i1, G1, hp1, hr1, hP1, fr1⟩; have hbk1 := box_keep HBX.out HNG.out fr1; have hk1 := HCL.out _ hbk1.1; have hn2 := HNB.out _ _ _ hp1 hP1)
    | (revert hn2; intro hn2; go_at_call 77; (with_reducible refine hn2.mono ?_); rintro e w2 ⟨jb, rfl, i2, G2, hp2, hr2, hP2, fr2⟩; have hbk2 := box_keep hbk1.1 hbk1.2 fr2; have hk2 := HCL.out _ hbk2.1; have hz := HFIN.out i1 i2 ja jb hp1 hp2 hr1 hr2; have hn3 := Tryd.keep_tree hP2 ⟨duO op, 0, ja, jb⟩ S HS.out (it_ok HDU.out hz.1 (by have := hP2.few; omega) hz.2.2.1 (by have := hP2.few; omega)) hz.2.1 hz.2.2.2.1 hz.2.2.2.2; unfold KeepR at hn3; rw [itV0] at hn3)
    | (revert hn3; intro hn3; go_at_call 57; (with_reducible refine hn3.mono ?_); rintro e w3 ⟨j3, rfl, hq3⟩; have hk3 : w3.cell? ⟨w.heap.size, 0, none⟩ = some (.int .u8 (op : Int)) ∧ w3.cell? ⟨w.heap.size, 2, none⟩ = some (.int .i64 xa) ∧ w3.cell? ⟨w.heap.size, 3, none⟩ = some (.int .i64 xb) := (by obtain ⟨i4, G4, _, _, _, fr3⟩ := hq3; exact HCL.out _ (box_keep hbk2.1 hbk2.2 fr3).1); have HQ : Hid (KeepP T0 w G b T rest items (IsN S) j3 w3) := (hq3.trans (hp1.trans hp2) ((HF0.out.trans fr1).trans fr2)))
    | fail)
  all_goals
    clear hn1 hn2 hn3
    go_wp2
    go_ret
    exact ⟨j3, rfl, HQ.out⟩
set_option maxRecDepth 100000 in
set_option maxHeartbeats 8000000 in
/-- Of a path's formula. -/
theorem Tryd.pneg_way {T0 : Tr} {w : World} {G : Nat → Prop} {b : Nat} {T : TypeId} {rest : List Value} {items : List It} (h : PtO T0 w G b T rest items) (i op p m : Nat) (xb : Int) (hx : items[i]? = some ⟨op, p, (m : Int), xb⟩) (ho : op = 17 ∨ op = 18) (c d : Tr) (hm : Rep items m c)
    (hB : NgC T0 b T rest items xb (IsN d)) (hS : InC T0 (.bin (duO op, 0) c d)) :
    Calls Tryd.prog 77 #[.pointer (some ⟨b, 0, none⟩), .int .i64 (i : Int)] w (KeepR T0 w G b T rest items (IsN (.bin (duO op, 0) c d))) := by
  obtain ⟨a, n, cap, g, o, c0, hidx, x0, x1, x2, x3⟩ := h.at hx
  have hb := below_new w (itO ⟨op, p, (m : Int), xb⟩)
  have hne : ((i : Int) == -1) = false := by rw [beq_eq_false_iff_ne]; omega
  have hbx := (MapKept.heap_alloc w (itO ⟨op, p, (m : Int), xb⟩)).1
  have hdu : op < 256 ∧ duO op < 256 := by rcases ho with rfl | rfl <;> decide
  have hdual := fun w => Tryd.pdual_any op w (by omega)
  have n2 : ((op : Int) == 2) = false := by rw [beq_eq_false_iff_ne]; omega
  have n6 : ((op : Int) == 6) = false := by rw [beq_eq_false_iff_ne]; omega
  obtain ⟨f17, hf17⟩ : ∃ f : Bool, ((op : Int) == 17) = f := ⟨_, rfl⟩
  have n18 : f17 = false → ((op : Int) == 18) = true := fun hf => by
    rw [hf, beq_eq_false_iff_ne] at hf17
    rw [beq_iff_eq]; omega
  have hwd : (w.alloc (itO ⟨op, p, (m : Int), xb⟩)).drew.heap[w.heap.size]? = some (itO ⟨op, p, (m : Int), xb⟩) := hbx
  have hPd : PtO T0 (w.alloc (itO ⟨op, p, (m : Int), xb⟩)).drew G b T rest items := (h.up hb).up (Below.refl _ _).drew
  have hn1 := hB _ _ _ (List.prefix_refl _) hPd
  have HF0 : Hid (Fr w (w.alloc (itO ⟨op, p, (m : Int), xb⟩)).drew G G) := Fr.ofBelow hb.drew
  have HBX : Hid _ := hwd
  have HNG : Hid (¬ G w.heap.size) := h.new
  have HM : Hid _ := hm
  have HS : Hid _ := hS
  have HDU : Hid _ := hdu.2
  have cells : ∀ w' : World, w'.heap[w.heap.size]? = some (itO ⟨op, p, (m : Int), xb⟩) → w'.cell? ⟨w.heap.size, 0, none⟩ = some (.int .u8 (op : Int)) ∧ w'.cell? ⟨w.heap.size, 2, none⟩ = some (.int .i64 (m : Int)) ∧ w'.cell? ⟨w.heap.size, 3, none⟩ = some (.int .i64 xb) := fun w' e => ⟨cell_row e 0, cell_row e 2, cell_row e 3⟩
  have HCL : Hid _ := cells
  have hk0 := cells _ hwd
  have hk00 := cells _ hbx
  clear h hb hx ho hB hS hdu cells hbx hwd hPd hm
  unfold KeepR at *
  unfold itO at *
  dsimp only at *
  cases f17 with
  | true =>
    clear n18
    go_enter Tryd.func77, Tryd.ntmps77
    go_upto_region 40 with fail
    go_region_held3 (fun w' => w'.cell? ⟨w.heap.size, 0, none⟩ = some (.int .u8 (op : Int)) ∧ w'.cell? ⟨w.heap.size, 2, none⟩ = some (.int .i64 (m : Int)) ∧ w'.cell? ⟨w.heap.size, 3, none⟩ = some (.int .i64 xb)) (first | exact hk0 | exact hk00 | assumption | fail) (first
      | (go_at_call 83; (with_reducible refine (hdual _).mono ?_); rintro e w' ⟨rfl, rfl⟩)
      | (revert hn1; intro hn1; go_at_call 77; (with_reducible refine hn1.mono ?_); rintro e w1 ⟨ja, rfl, i1, G1, hp1, hr1, hP1, fr1⟩; obtain ⟨l1, rfl, hrl⟩ := hr1; have hbk1 := box_keep HBX.out HNG.out fr1; have hk1 := HCL.out _ hbk1.1; have hn2 := Tryd.palong_any hP1 (duO op) HDU.out m l1 c d (HM.out.pre hp1) hrl HS.out; unfold KeepR at hn2)
      | (revert hn2; intro hn2; go_at_call 76; (with_reducible refine hn2.mono ?_); rintro e w3 ⟨j3, rfl, hq3⟩; have hk3 : w3.cell? ⟨w.heap.size, 0, none⟩ = some (.int .u8 (op : Int)) ∧ w3.cell? ⟨w.heap.size, 2, none⟩ = some (.int .i64 (m : Int)) ∧ w3.cell? ⟨w.heap.size, 3, none⟩ = some (.int .i64 xb) := (by obtain ⟨i4, G4, _, _, _, fr3⟩ := hq3; exact HCL.out _ (box_keep hbk1.1 hbk1.2 fr3).1); have HQ : Hid (KeepP T0 w G b T rest items (IsN (.bin (duO op, 0) c d)) j3 w3) := (hq3.trans hp1 (HF0.out.trans fr1)))
      | fail)
    all_goals
      clear hn1 hn2
      go_wp2
      go_ret
      exact ⟨j3, rfl, HQ.out⟩
  | false =>
    have n18' := n18 rfl
    clear n18
    go_enter Tryd.func77, Tryd.ntmps77
    go_upto_region 40 with fail
    go_region_held3 (fun w' => w'.cell? ⟨w.heap.size, 0, none⟩ = some (.int .u8 (op : Int)) ∧ w'.cell? ⟨w.heap.size, 2, none⟩ = some (.int .i64 (m : Int)) ∧ w'.cell? ⟨w.heap.size, 3, none⟩ = some (.int .i64 xb)) (first | exact hk0 | exact hk00 | assumption | fail) (first
      | (go_at_call 83; (with_reducible refine (hdual _).mono ?_); rintro e w' ⟨rfl, rfl⟩)
      | (revert hn1; intro hn1; go_at_call 77; (with_reducible refine hn1.mono ?_); rintro e w1 ⟨ja, rfl, i1, G1, hp1, hr1, hP1, fr1⟩; obtain ⟨l1, rfl, hrl⟩ := hr1; have hbk1 := box_keep HBX.out HNG.out fr1; have hk1 := HCL.out _ hbk1.1; have hn2 := Tryd.palong_any hP1 (duO op) HDU.out m l1 c d (HM.out.pre hp1) hrl HS.out; unfold KeepR at hn2)
      | (revert hn2; intro hn2; go_at_call 76; (with_reducible refine hn2.mono ?_); rintro e w3 ⟨j3, rfl, hq3⟩; have hk3 : w3.cell? ⟨w.heap.size, 0, none⟩ = some (.int .u8 (op : Int)) ∧ w3.cell? ⟨w.heap.size, 2, none⟩ = some (.int .i64 (m : Int)) ∧ w3.cell? ⟨w.heap.size, 3, none⟩ = some (.int .i64 xb) := (by obtain ⟨i4, G4, _, _, _, fr3⟩ := hq3; exact HCL.out _ (box_keep hbk1.1 hbk1.2 fr3).1); have HQ : Hid (KeepP T0 w G b T rest items (IsN (.bin (duO op, 0) c d)) j3 w3) := (hq3.trans hp1 (HF0.out.trans fr1)))
      | fail)
    all_goals
      clear hn1 hn2
      go_wp2
      go_ret
      exact ⟨j3, rfl, HQ.out⟩
theorem neg_is0 {op : Nat} (h : op = 0 ∨ op = 1 ∨ op = 4 ∨ op = 5) : (kTr (.leaf (op, 0))).2 = .leaf (duO op, 0) := by rcases h with rfl | rfl | rfl | rfl <;> rfl
theorem neg_is1 {op : Nat} (h : op = 7 ∨ op = 8) (c : Tr) : (kTr (.un (op, 0) c)).2 = .un (duO op, 0) (kTr c).2 := by rcases h with rfl | rfl <;> rfl
theorem neg_is2 {op : Nat} (h : op = 11 ∨ op = 12 ∨ op = 15 ∨ op = 16) (c d : Tr) : (kTr (.bin (op, 0) c d)).2 = .bin (duO op, 0) (kTr c).2 (kTr d).2 := by rcases h with rfl | rfl | rfl | rfl <;> rfl
theorem neg_is3 {op : Nat} (h : op = 17 ∨ op = 18) {c : Tr} (hc : KP c) (d : Tr) : (kTr (.bin (op, 0) c d)).2 = .bin (duO op, 0) c (kTr d).2 := by
  have e := (ker_same c hc.wf hc.kr).1
  rcases h with rfl | rfl
  · show Tr.bin (18, 0) (kTr c).1 (kTr d).2 = _; rw [e]; rfl
  · show Tr.bin (17, 0) (kTr c).1 (kTr d).2 = _; rw [e]; rfl
/-- The negation of a part of the formula. -/
theorem Tryd.pneg_any {T0 : Tr} {b : Nat} {T : TypeId} {rest : List Value} : ∀ (S : Tr), KT S → S ∈ subL T0 → ∀ (items : List It) (i : Nat), Rep items i S → NgC T0 b T rest items (i : Int) (IsN (kTr S).2)
  | .leaf (op, p), hS, hin, items, i, hi => by
    intro w G i1 hp hP
    have hi1 := hi.pre hp
    have hneg := inC_neg hin hS
    rcases kt_leaf hS with ⟨rfl, _⟩ | ⟨rfl, ho⟩
    · exact Tryd.pneg_prop hP i p hi1 hneg
    · have hx : i1[i]? = some ⟨op, 0, -1, -1⟩ := by cases hi1 with | leaf h => exact h
      rw [neg_is0 ho] at hneg ⊢
      refine Tryd.pneg_rest hP i op 0 (-1) (-1) hx (by omega) IsM IsM (fun _ _ _ _ hP => Tryd.pneg_none hP) (fun _ _ _ _ hP => Tryd.pneg_none hP) _ hneg ?_
      rintro j1 j2 ja jb _ _ rfl rfl
      exact ⟨by omega, by omega, by omega, by omega, fun j3 j _ _ hj => .leaf hj⟩
  | .un (op, p) c, hS, hin, items, i, hi => by
    intro w G i1 hp hP
    have hi1 := hi.pre hp
    have hneg := inC_neg hin hS
    rcases kt_un hS with ⟨rfl, ⟨rfl, q, rfl⟩ | ⟨ho, hc⟩⟩
    · exact Tryd.pneg_not hP i _ hi1
    · obtain ⟨m, hx, hm⟩ : ∃ m : Nat, i1[i]? = some ⟨op, 0, (m : Int), -1⟩ ∧ Rep i1 m c := by cases hi1 with | un h h1 h2 => exact ⟨_, h, h2⟩
      rw [neg_is1 ho] at hneg ⊢
      refine Tryd.pneg_rest hP i op 0 (m : Int) (-1) hx (by omega) (IsN (kTr c).2) IsM (Tryd.pneg_any c hc (sub_un hin) i1 m hm) (fun _ _ _ _ hP => Tryd.pneg_none hP) _ hneg ?_
      rintro j1 j2 ja jb h1 h2 ⟨a, rfl, ha⟩ rfl
      have := (ha.pre h2).lt
      exact ⟨by omega, by omega, by omega, by omega, fun j3 j h3 hlow hj => .un (k := (duO op, 0)) hj (low_lt (k := (duO op, 0)) hlow hj) ((ha.pre h2).pre h3)⟩
  | .bin (op, p) c d, hS, hin, items, i, hi => by
    intro w G i1 hp hP
    have hi1 := hi.pre hp
    have hneg := inC_neg hin hS
    obtain ⟨rfl, ho⟩ := kt_bin hS
    obtain ⟨m, l, hx, hm, hl⟩ : ∃ m l : Nat, i1[i]? = some ⟨op, 0, (m : Int), (l : Int)⟩ ∧ Rep i1 m c ∧ Rep i1 l d := by cases hi1 with | bin h h1 h2 h3 h4 => exact ⟨_, _, h, h3, h4⟩
    by_cases hw : op = 17 ∨ op = 18
    · obtain ⟨kc, kd⟩ := kt_way hS hw
      rw [neg_is3 hw kc] at hneg ⊢
      exact Tryd.pneg_way hP i op 0 m (l : Int) hx hw c (kTr d).2 hm (Tryd.pneg_any d kd (sub_bin hin).2 i1 l hl) hneg
    · obtain ⟨kc, kd⟩ := kt_and hS (by omega)
      have ho4 : op = 11 ∨ op = 12 ∨ op = 15 ∨ op = 16 := by omega
      rw [neg_is2 ho4] at hneg ⊢
      refine Tryd.pneg_rest hP i op 0 (m : Int) (l : Int) hx (by omega) (IsN (kTr c).2) (IsN (kTr d).2) (Tryd.pneg_any c kc (sub_bin hin).1 i1 m hm) (Tryd.pneg_any d kd (sub_bin hin).2 i1 l hl) _ hneg ?_
      rintro j1 j2 ja jb h1 h2 ⟨a, rfl, ha⟩ ⟨e, rfl, he⟩
      have := (ha.pre h2).lt
      have := he.lt
      refine ⟨by omega, by omega, by omega, by omega, fun j3 j h3 hlow hj => ?_⟩
      obtain ⟨u, v⟩ := low_lt2 (k := (duO op, 0)) hlow hj
      exact .bin (k := (duO op, 0)) hj u v ((ha.pre h2).pre h3) (he.pre h3)
end Go.Proofs.YtnedkpbpeolfoaaDoor
