/- Plain: a table of items: kernel formulas and the paths in them, each once. -/
import Derived.Test.YtbfhbpibpmgblaaKnM
namespace Go.Proofs.Ytbfhbpibpmgblaa

/-- An item: its token, the numbers of what it takes (-1: there is none). -/
structure It where
  op : Nat
  p : Nat
  a : Int
  b : Int
deriving DecidableEq
def itemOf (k : Tk) (args : List Nat) : It := match args with
  | [] => ⟨k.1, k.2, -1, -1⟩
  | [x] => ⟨k.1, k.2, (x : Int), -1⟩
  | x :: y :: _ => ⟨k.1, k.2, (x : Int), (y : Int)⟩
/-- An item's number, or a new one behind all others. -/
def addI (items : List It) (x : It) : List It × Nat := match items.findIdx? (· = x) with
  | some j => (items, j)
  | none => (items ++ [x], items.length)
theorem addI_cases (items : List It) (x : It) : (∃ j, addI items x = (items, j) ∧ items[j]? = some x) ∨ (addI items x = (items ++ [x], items.length) ∧ x ∉ items) := by
  unfold addI
  cases h : items.findIdx? (· = x) with
  | none =>
    refine Or.inr ⟨rfl, fun hx => ?_⟩
    have := List.findIdx?_eq_none_iff.1 h x hx
    simp at this
  | some j =>
    refine Or.inl ⟨j, rfl, ?_⟩
    obtain ⟨hj, h1, _⟩ := List.findIdx?_eq_some_iff_getElem.1 h
    rw [List.getElem?_eq_getElem hj]
    simpa using h1
/-- A tree is kept, part by part. -/
def insT (items : List It) : Tr → List It × Nat
  | .leaf k => addI items (itemOf k [])
  | .un k c => addI (insT items c).1 (itemOf k [(insT items c).2])
  | .bin k c d => addI (insT (insT items c).1 d).1 (itemOf k [(insT items c).2, (insT (insT items c).1 d).2])
/-- An item's number is a tree's. -/
inductive Rep (items : List It) : Nat → Tr → Prop where
  | leaf {n : Nat} {k : Tk} : items[n]? = some (itemOf k []) → Rep items n (.leaf k)
  | un {n m : Nat} {k : Tk} {c : Tr} : items[n]? = some (itemOf k [m]) → m < n → Rep items m c → Rep items n (.un k c)
  | bin {n m l : Nat} {k : Tk} {c d : Tr} : items[n]? = some (itemOf k [m, l]) → m < n → l < n → Rep items m c → Rep items l d → Rep items n (.bin k c d)
theorem Rep.lt {items : List It} {n : Nat} {T : Tr} (h : Rep items n T) : n < items.length := by
  cases h with
  | leaf h => exact (List.getElem?_eq_some_iff.1 h).1
  | un h _ _ => exact (List.getElem?_eq_some_iff.1 h).1
  | bin h _ _ _ _ => exact (List.getElem?_eq_some_iff.1 h).1
theorem get_more {items : List It} {n : Nat} {x : It} (l : List It) (h : items[n]? = some x) : (items ++ l)[n]? = some x := by
  rw [List.getElem?_append_left (List.getElem?_eq_some_iff.1 h).1]; exact h
theorem Rep.more {items : List It} (l : List It) {n : Nat} {T : Tr} (h : Rep items n T) : Rep (items ++ l) n T := by
  induction h with
  | leaf h => exact .leaf (get_more l h)
  | un h h1 _ ih => exact .un (get_more l h) h1 ih
  | bin h h1 h2 _ _ ih jh => exact .bin (get_more l h) h1 h2 ih jh
theorem itemOf_k {k k' : Tk} {a a' : List Nat} (h : itemOf k a = itemOf k' a') : k = k' ∧ a.take 2 = a'.take 2 := by
  obtain ⟨k1, k2⟩ := k
  obtain ⟨k1', k2'⟩ := k'
  have ho : k1 = k1' ∧ k2 = k2' ∧ (itemOf (k1, k2) a).a = (itemOf (k1', k2') a').a ∧ (itemOf (k1, k2) a).b = (itemOf (k1', k2') a').b := by
    refine ⟨?_, ?_, by rw [h], by rw [h]⟩
    · have := congrArg It.op h
      match a, a' with
      | [], [] => exact this
      | [], [_] => exact this
      | [], _ :: _ :: _ => exact this
      | [_], [] => exact this
      | [_], [_] => exact this
      | [_], _ :: _ :: _ => exact this
      | _ :: _ :: _, [] => exact this
      | _ :: _ :: _, [_] => exact this
      | _ :: _ :: _, _ :: _ :: _ => exact this
    · have := congrArg It.p h
      match a, a' with
      | [], [] => exact this
      | [], [_] => exact this
      | [], _ :: _ :: _ => exact this
      | [_], [] => exact this
      | [_], [_] => exact this
      | [_], _ :: _ :: _ => exact this
      | _ :: _ :: _, [] => exact this
      | _ :: _ :: _, [_] => exact this
      | _ :: _ :: _, _ :: _ :: _ => exact this
  obtain ⟨rfl, rfl, ha, hb⟩ := ho
  refine ⟨rfl, ?_⟩
  match a, a', ha, hb with
  | [], [], _, _ => rfl
  | [], [y], ha, _ => exact absurd (show (-1 : Int) = (y : Int) from ha) (by omega)
  | [], y :: _ :: _, ha, _ => exact absurd (show (-1 : Int) = (y : Int) from ha) (by omega)
  | [x], [], ha, _ => exact absurd (show (x : Int) = -1 from ha) (by omega)
  | [x], [y], ha, _ =>
    have : (x : Int) = (y : Int) := ha
    have e : x = y := by omega
    rw [e]
  | [x], _ :: z :: _, _, hb => exact absurd (show (-1 : Int) = (z : Int) from hb) (by omega)
  | x :: _ :: _, [], ha, _ => exact absurd (show (x : Int) = -1 from ha) (by omega)
  | _ :: z :: _, [_], _, hb => exact absurd (show (z : Int) = -1 from hb) (by omega)
  | x :: z :: _, y :: t :: _, ha, hb =>
    have h1 : (x : Int) = (y : Int) := ha
    have h2 : (z : Int) = (t : Int) := hb
    have e1 : x = y := by omega
    have e2 : z = t := by omega
    subst e1 e2
    simp
/-- A number is one tree's. -/
theorem Rep.tree {items : List It} : ∀ {T T' : Tr} {n : Nat}, Rep items n T → Rep items n T' → T = T'
  | .leaf k, T', n, .leaf h, h' => by
    cases h' with
    | leaf h2 => rw [h] at h2; injection h2 with h2; rw [(itemOf_k h2).1]
    | un h2 _ _ => rw [h] at h2; injection h2 with h2; have := (itemOf_k h2).2; simp at this
    | bin h2 _ _ _ _ => rw [h] at h2; injection h2 with h2; have := (itemOf_k h2).2; simp at this
  | .un k c, T', n, .un h _ hc, h' => by
    cases h' with
    | leaf h2 => rw [h] at h2; injection h2 with h2; have := (itemOf_k h2).2; simp at this
    | un h2 _ hc2 =>
      rw [h] at h2; injection h2 with h2
      have := itemOf_k h2
      simp at this
      obtain ⟨e1, e2⟩ := this
      subst e1 e2
      rw [Rep.tree hc hc2]
    | bin h2 _ _ _ _ => rw [h] at h2; injection h2 with h2; have := (itemOf_k h2).2; simp at this
  | .bin k c d, T', n, .bin h _ _ hc hd, h' => by
    cases h' with
    | leaf h2 => rw [h] at h2; injection h2 with h2; have := (itemOf_k h2).2; simp at this
    | un h2 _ _ => rw [h] at h2; injection h2 with h2; have := (itemOf_k h2).2; simp at this
    | bin h2 _ _ hc2 hd2 =>
      rw [h] at h2; injection h2 with h2
      have := itemOf_k h2
      simp at this
      obtain ⟨e1, e2, e3⟩ := this
      subst e1 e2 e3
      rw [Rep.tree hc hc2, Rep.tree hd hd2]
theorem nodup_at {items : List It} (hn : items.Nodup) {i j : Nat} {x : It} (h : items[i]? = some x) (h' : items[j]? = some x) : i = j := by
  obtain ⟨hi, e1⟩ := List.getElem?_eq_some_iff.1 h
  obtain ⟨hj, e2⟩ := List.getElem?_eq_some_iff.1 h'
  exact (List.getElem_inj hn).1 (e1.trans e2.symm)
/-- A tree has one number. -/
theorem Rep.num {items : List It} (hn : items.Nodup) : ∀ {T : Tr} {n m : Nat}, Rep items n T → Rep items m T → n = m
  | .leaf k, n, m, .leaf h, .leaf h' => nodup_at hn h h'
  | .un k c, n, m, .un h _ hc, .un h' _ hc' => by
    have e := Rep.num hn hc hc'
    subst e
    exact nodup_at hn h h'
  | .bin k c d, n, m, .bin h _ _ hc hd, .bin h' _ _ hc' hd' => by
    have e := Rep.num hn hc hc'
    have e' := Rep.num hn hd hd'
    subst e e'
    exact nodup_at hn h h'
/-! ### to keep -/
theorem addI_pre (items : List It) (x : It) : ∃ l, (addI items x).1 = items ++ l ∧ l.length ≤ 1 := by
  rcases addI_cases items x with ⟨j, e, _⟩ | ⟨e, _⟩
  · exact ⟨[], by rw [e, List.append_nil], by simp⟩
  · exact ⟨[x], by rw [e], by simp⟩
theorem addI_at (items : List It) (x : It) : (addI items x).1[(addI items x).2]? = some x := by
  rcases addI_cases items x with ⟨j, e, h⟩ | ⟨e, _⟩
  · rw [e]; exact h
  · rw [e]; simp
theorem addI_nodup {items : List It} (hn : items.Nodup) (x : It) : (addI items x).1.Nodup := by
  rcases addI_cases items x with ⟨j, e, h⟩ | ⟨e, hx⟩
  · rw [e]; exact hn
  · rw [e]; exact List.nodup_append.2 ⟨hn, by simp, fun a ha b hb => by simp at hb; subst hb; exact fun e => hx (e ▸ ha)⟩
/-- Each item takes items of lesser numbers. -/
def Low (items : List It) : Prop := ∀ (n : Nat) (x : It), items[n]? = some x → x.a < (n : Int) ∧ x.b < (n : Int)
theorem addI_low {items : List It} (h : Low items) {x : It} (ha : x.a < (items.length : Int)) (hb : x.b < (items.length : Int)) : Low (addI items x).1 := by
  rcases addI_cases items x with ⟨j, e, _⟩ | ⟨e, _⟩
  · rw [e]; exact h
  · rw [e]
    intro n y hy
    by_cases hn : n < items.length
    · rw [List.getElem?_append_left hn] at hy; exact h n y hy
    · have hn2 := (List.getElem?_eq_some_iff.1 hy).1
      simp at hn2
      obtain rfl : n = items.length := by omega
      simp at hy
      subst hy
      exact ⟨ha, hb⟩
/-- What keeping a tree does. -/
structure Ins (items : List It) (T : Tr) (r : List It × Nat) : Prop where
  rep : Rep r.1 r.2 T
  pre : ∃ l, r.1 = items ++ l ∧ l.length ≤ T.size
  nodup : r.1.Nodup
  low : Low r.1
theorem low_lt {items : List It} (h : Low items) {n m : Nat} {k : Tk} (e : items[n]? = some (itemOf k [m])) : m < n := by
  have := (h n _ e).1
  simp [itemOf] at this
  exact this
theorem low_lt2 {items : List It} (h : Low items) {n m l : Nat} {k : Tk} (e : items[n]? = some (itemOf k [m, l])) : m < n ∧ l < n := by
  have := h n _ e
  simp [itemOf] at this
  exact this
theorem insT_ok : ∀ (T : Tr) (items : List It), items.Nodup → Low items → Ins items T (insT items T)
  | .leaf k, items, hn, hl => by
    have hlow := addI_low (x := itemOf k []) hl (by show (-1 : Int) < _; omega) (by show (-1 : Int) < _; omega)
    exact ⟨.leaf (addI_at _ _), addI_pre _ _, addI_nodup hn _, hlow⟩
  | .un k c, items, hn, hl => by
    have ih := insT_ok c items hn hl
    have hlt := ih.rep.lt
    obtain ⟨l, e, hll⟩ := ih.pre
    have hlow := addI_low (x := itemOf k [(insT items c).2]) ih.low (by show ((insT items c).2 : Int) < _; omega) (by show (-1 : Int) < _; omega)
    obtain ⟨l', e', hl'⟩ := addI_pre (insT items c).1 (itemOf k [(insT items c).2])
    have hat := addI_at (insT items c).1 (itemOf k [(insT items c).2])
    refine ⟨?_, ⟨l ++ l', ?_, ?_⟩, addI_nodup ih.nodup _, hlow⟩
    · refine .un hat (low_lt hlow hat) ?_
      show Rep (addI (insT items c).1 (itemOf k [(insT items c).2])).1 _ _
      rw [e']; exact ih.rep.more _
    · show (addI (insT items c).1 (itemOf k [(insT items c).2])).1 = _
      rw [e', e, List.append_assoc]
    · simp [Tr.size]; omega
  | .bin k c d, items, hn, hl => by
    have ih := insT_ok c items hn hl
    have jh := insT_ok d (insT items c).1 ih.nodup ih.low
    have hlt := ih.rep.lt
    have hlt2 := jh.rep.lt
    obtain ⟨l, e, hll⟩ := ih.pre
    obtain ⟨l2, e2, hll2⟩ := jh.pre
    have hge : (insT items c).1.length ≤ (insT (insT items c).1 d).1.length := by rw [e2]; simp
    have hlow := addI_low (x := itemOf k [(insT items c).2, (insT (insT items c).1 d).2]) jh.low (by show ((insT items c).2 : Int) < _; omega) (by show ((insT (insT items c).1 d).2 : Int) < _; omega)
    obtain ⟨l', e', hl'⟩ := addI_pre (insT (insT items c).1 d).1 (itemOf k [(insT items c).2, (insT (insT items c).1 d).2])
    have hat := addI_at (insT (insT items c).1 d).1 (itemOf k [(insT items c).2, (insT (insT items c).1 d).2])
    have hll3 := low_lt2 hlow hat
    refine ⟨?_, ⟨l ++ l2 ++ l', ?_, ?_⟩, addI_nodup jh.nodup _, hlow⟩
    · refine .bin hat hll3.1 hll3.2 ?_ ?_
      · show Rep (addI (insT (insT items c).1 d).1 (itemOf k [(insT items c).2, (insT (insT items c).1 d).2])).1 _ _
        rw [e', e2, List.append_assoc]; exact ih.rep.more _
      · show Rep (addI (insT (insT items c).1 d).1 (itemOf k [(insT items c).2, (insT (insT items c).1 d).2])).1 _ _
        rw [e']; exact jh.rep.more _
    · show (addI (insT (insT items c).1 d).1 (itemOf k [(insT items c).2, (insT (insT items c).1 d).2])).1 = _
      rw [e', e2, e, List.append_assoc, List.append_assoc, List.append_assoc]
    · simp [Tr.size]; omega
theorem addI_there {items : List It} (hn : items.Nodup) {n : Nat} {x : It} (h : items[n]? = some x) : addI items x = (items, n) := by
  rcases addI_cases items x with ⟨j, e, h'⟩ | ⟨_, hx⟩
  · rw [e, nodup_at hn h' h]
  · exact absurd (List.mem_of_getElem? h) hx
/-- A tree that is there adds nothing. -/
theorem ins_there {items : List It} (hn : items.Nodup) : ∀ {T : Tr} {n : Nat}, Rep items n T → insT items T = (items, n)
  | .leaf k, n, .leaf h => addI_there hn h
  | .un k c, n, .un h _ hc => by
    have ih := ins_there hn hc
    show addI (insT items c).1 (itemOf k [(insT items c).2]) = _
    rw [ih]
    exact addI_there hn h
  | .bin k c d, n, .bin h _ _ hc hd => by
    have ih := ins_there hn hc
    have jh := ins_there hn hd
    show addI (insT (insT items c).1 d).1 (itemOf k [(insT items c).2, (insT (insT items c).1 d).2]) = _
    rw [ih]
    dsimp only
    rw [jh]
    exact addI_there hn h
/-- A table's items. -/
structure TabOk (items : List It) : Prop where
  nodup : items.Nodup
  low : Low items
  few : items.length ≤ 4096
theorem tab_nil : TabOk [] := ⟨by simp, fun n x h => (by simp at h), by simp⟩
/-! ### tokens, one by one -/
def tkStep (s : List It × List Nat) (k : Tk) : List It × List Nat := ((addI s.1 (itemOf k (s.2.drop (s.2.length - takC k)))).1, s.2.take (s.2.length - takC k) ++ [(addI s.1 (itemOf k (s.2.drop (s.2.length - takC k)))).2])
def tkS (ts : List Tk) (s : List It × List Nat) : List It × List Nat := ts.foldl tkStep s
theorem tkS_app (a b : List Tk) (s : List It × List Nat) : tkS (a ++ b) s = tkS b (tkS a s) := by unfold tkS; rw [List.foldl_append]
theorem tkS_tree : ∀ T : Tr, T.WF → ∀ items st, tkS T.flat (items, st) = ((insT items T).1, st ++ [(insT items T).2])
  | .leaf (op, p), h, items, st => by
    have e := tak_of h.1
    have hd := drop_at st [] 0 rfl
    rw [List.append_nil] at hd
    show tkStep (items, st) (op, p) = _
    unfold tkStep
    dsimp only
    rw [e, hd.1, hd.2]; rfl
  | .un (op, p) c, h, items, st => by
    have e := tak_of h.1
    have hd := drop_at st [(insT items c).2] 1 rfl
    show tkS (c.flat ++ [(op, p)]) (items, st) = _
    rw [tkS_app, tkS_tree c h.2.2]
    show tkStep _ (op, p) = _
    unfold tkStep
    dsimp only
    rw [e, hd.1, hd.2]; rfl
  | .bin (op, p) c d, h, items, st => by
    have e := tak_of h.1
    have hd := drop_at st [(insT items c).2, (insT (insT items c).1 d).2] 2 rfl
    show tkS (c.flat ++ d.flat ++ [(op, p)]) (items, st) = _
    rw [tkS_app, tkS_app, tkS_tree c h.2.2.1, tkS_tree d h.2.2.2]
    show tkStep _ (op, p) = _
    rw [show st ++ [(insT items c).2] ++ [(insT (insT items c).1 d).2] = st ++ [(insT items c).2, (insT (insT items c).1 d).2] by simp]
    unfold tkStep
    dsimp only
    rw [e, hd.1, hd.2]; rfl
end Go.Proofs.Ytbfhbpibpmgblaa
namespace Go.Proofs.Ytbfhbpibpmgblaa

/-- Each item is some part of a kernel formula, or a path in one. -/
def Whole (items : List It) : Prop := ∀ n, n < items.length → ∃ T : Tr, Rep items n T
theorem addI_whole {items : List It} (h : Whole items) {x : It} (hx : x ∉ items → ∃ T, Rep (items ++ [x]) items.length T) : Whole (addI items x).1 := by
  rcases addI_cases items x with ⟨j, e, _⟩ | ⟨e, hn⟩
  · rw [e]; exact h
  · rw [e]
    intro n hlt
    by_cases hn2 : n < items.length
    · obtain ⟨T, hT⟩ := h n hn2
      exact ⟨T, hT.more _⟩
    · simp at hlt
      obtain rfl : n = items.length := by omega
      exact hx hn
theorem insT_whole : ∀ (T : Tr) (items : List It), items.Nodup → Low items → Whole items → Whole (insT items T).1
  | .leaf k, items, _, _, hw => addI_whole hw fun _ => ⟨.leaf k, .leaf (by simp)⟩
  | .un k c, items, hn, hl, hw => by
    have ih := insT_ok c items hn hl
    have iw := insT_whole c items hn hl hw
    exact addI_whole iw fun _ => ⟨.un k c, .un (by simp) ih.rep.lt (ih.rep.more _)⟩
  | .bin k c d, items, hn, hl, hw => by
    have ih := insT_ok c items hn hl
    have iw := insT_whole c items hn hl hw
    have jh := insT_ok d _ ih.nodup ih.low
    have jw := insT_whole d _ ih.nodup ih.low iw
    obtain ⟨l, e, _⟩ := jh.pre
    have hc : Rep (insT (insT items c).1 d).1 (insT items c).2 c := by rw [e]; exact ih.rep.more _
    exact addI_whole jw fun _ => ⟨.bin k c d, .bin (by simp) hc.lt jh.rep.lt (hc.more _) (jh.rep.more _)⟩
/-- A table's items. -/
structure TabIs (items : List It) : Prop where
  nodup : items.Nodup
  low : Low items
  whole : Whole items
  few : items.length ≤ 4096
theorem tabIs_nil : TabIs [] := ⟨by simp, fun n x h => (by simp at h), fun n h => (by simp at h), by simp⟩
/-- All items, if a formula's are put to them; its number. -/
def kI (items : List It) (ts : List Tk) : List It := (tkS ts (items, [])).1
def kN (items : List It) (ts : List Tk) : Nat := (tkS ts (items, [])).2.getLast?.getD 0
theorem kI_tree {T : Tr} (h : T.WF) (items : List It) : kI items T.flat = (insT items T).1 ∧ kN items T.flat = (insT items T).2 := by
  unfold kI kN
  rw [tkS_tree T h]
  exact ⟨rfl, by simp⟩
noncomputable def keepE (items : List It) (ts : List Tk) : Nat := if chkE ts ≠ 0 then chkE ts else if 4096 < (kI items ts).length then 3 else 0
noncomputable def keepI (items : List It) (ts : List Tk) : List It := if keepE items ts = 0 then kI items ts else items
noncomputable def keepN (items : List It) (ts : List Tk) : Nat := if keepE items ts = 0 then kN items ts else 0
noncomputable def findB (items : List It) (ts : List Tk) : Bool := decide (chkE ts = 0) && decide (kI items ts = items)
noncomputable def findN (items : List It) (ts : List Tk) : Nat := if findB items ts = true then kN items ts else 0
/-- What is known of a formula that was kept. -/
structure Kept (items : List It) (ts : List Tk) (n : Nat) (items' : List It) : Prop where
  is : TabIs items'
  pre : ∃ l, items' = items ++ l
  rep : ∃ T : Tr, T.WF ∧ pathT T = false ∧ ts = T.flat ∧ Rep items' n T
  lt : n < items'.length
  again : keepE items' ts = 0 ∧ keepI items' ts = items' ∧ keepN items' ts = n
  find : findB items' ts = true ∧ findN items' ts = n
theorem kept {items : List It} (h : TabIs items) {ts : List Tk} (he : keepE items ts = 0) : Kept items ts (keepN items ts) (keepI items ts) := by
  have hI : keepI items ts = kI items ts := if_pos he
  have hN : keepN items ts = kN items ts := if_pos he
  have hc : chkE ts = 0 := by
    unfold keepE at he
    by_cases hc : chkE ts = 0
    · exact hc
    · rw [if_pos hc] at he; exact absurd he hc
  have hl : ¬ 4096 < (kI items ts).length := by
    intro hl
    unfold keepE at he
    rw [if_neg (by omega), if_pos hl] at he
    cases he
  rw [hI, hN]
  obtain ⟨hts, T, hW, hp, hk, rfl⟩ := chk_zero.1 hc
  obtain ⟨e1, e2⟩ := kI_tree hW items
  rw [e1] at hl
  have ins := insT_ok T items h.nodup h.low
  have hw := insT_whole T items h.nodup h.low h.whole
  rw [e1, e2]
  obtain ⟨f1, f2⟩ := kI_tree hW (insT items T).1
  have there := ins_there ins.nodup ins.rep
  rw [there] at f1 f2
  have hE : keepE (insT items T).1 T.flat = 0 := by unfold keepE; rw [if_neg (by omega), f1, if_neg hl]
  refine ⟨⟨ins.nodup, ins.low, hw, by omega⟩, ?_, ⟨T, hW, hp, rfl, ins.rep⟩, ins.rep.lt, ⟨hE, ?_, ?_⟩, ?_, ?_⟩
  · obtain ⟨l, e, _⟩ := ins.pre
    exact ⟨l, e⟩
  · unfold keepI; rw [if_pos hE, f1]
  · unfold keepN; rw [if_pos hE, f2]
  · unfold findB; rw [f1, hc]; simp
  · have : findB (insT items T).1 T.flat = true := by unfold findB; rw [f1, hc]; simp
    unfold findN; rw [if_pos this, f2]
theorem flat_inj {T S : Tr} (hT : T.WF) (hS : S.WF) (h : T.flat = S.flat) : T = S := by
  have h1 := gS_tree T hT []
  have h2 := gS_tree S hS []
  rw [h, h2] at h1
  simpa using h1.symm
/-- Equal formulas have one number, unlike ones unlike numbers. -/
theorem same_num {items : List It} (h : TabIs items) {T S : Tr} {n m : Nat} (hT : T.WF) (hS : S.WF) (h1 : Rep items n T) (h2 : Rep items m S) : n = m ↔ T.flat = S.flat := by
  constructor
  · intro e
    subst e
    rw [h1.tree h2]
  · intro e
    obtain rfl := flat_inj hT hS e
    exact h1.num h.nodup h2
theorem rep_low {items : List It} (h : TabIs items) {n : Nat} {x : It} (hx : items[n]? = some x) : x.a < (n : Int) ∧ x.b < (n : Int) := h.low n x hx
end Go.Proofs.Ytbfhbpibpmgblaa
namespace Go.Proofs.Ytbfhbpibpmgblaa

abbrev Fnd := List It → It → Option (List It × Nat)
def nStep (fd : Fnd) (s : List It × List Nat) (k : Tk) : Option (List It × List Nat) := (fd s.1 (itemOf k (s.2.drop (s.2.length - takC k)))).map fun r => (r.1, s.2.take (s.2.length - takC k) ++ [r.2])
def nS (fd : Fnd) : List Tk → List It × List Nat → Option (List It × List Nat)
  | [], s => some s
  | k :: r, s => (nStep fd s k).bind (nS fd r)
theorem nS_app (fd : Fnd) : ∀ (a b : List Tk) (s : List It × List Nat), nS fd (a ++ b) s = (nS fd a s).bind (nS fd b)
  | [], b, s => rfl
  | k :: a, b, s => by
    show (nStep fd s k).bind (nS fd (a ++ b)) = ((nStep fd s k).bind (nS fd a)).bind (nS fd b)
    cases nStep fd s k with
    | none => rfl
    | some t => exact nS_app fd a b t
theorem nS_next (fd : Fnd) {ts : List Tk} {k : Nat} (h : k < ts.length) {s t : List It × List Nat} (hs : nS fd (ts.take k) s = some t) : nS fd (ts.take (k + 1)) s = nStep fd t ts[k] := by
  rw [List.take_add_one, List.getElem?_eq_getElem h]
  show nS fd (ts.take k ++ [ts[k]]) s = _
  rw [nS_app, hs]
  show (nStep fd t ts[k]).bind (nS fd []) = _
  cases nStep fd t ts[k] <;> rfl
theorem nS_off (fd : Fnd) {ts : List Tk} {k : Nat} {s : List It × List Nat} (h : nS fd (ts.take k) s = none) : nS fd ts s = none := by
  have : nS fd (ts.take k ++ ts.drop k) s = none := by rw [nS_app, h]; rfl
  rwa [List.take_append_drop] at this
theorem nS_len (fd : Fnd) : ∀ (ts : List Tk) (s t : List It × List Nat) (g : List Tr), s.2.length = g.length → nS fd ts s = some t → t.2.length = (gS ts g).length
  | [], s, t, g, h, e => by injection e with e; subst e; exact h
  | k :: ts, s, t, g, h, e => by
    have e' : (nStep fd s k).bind (nS fd ts) = some t := e
    cases hn : nStep fd s k with
    | none => rw [hn] at e'; cases e'
    | some u =>
      rw [hn] at e'
      show t.2.length = (gS ts (gStep g k)).length
      refine nS_len fd ts u t _ ?_ e'
      unfold nStep at hn
      cases hf : fd s.1 (itemOf k (s.2.drop (s.2.length - takC k))) with
      | none => rw [hf] at hn; cases hn
      | some r =>
        rw [hf] at hn
        injection hn with hn
        subst hn
        unfold gStep
        simp [h]
/-- A finder: what it finds is there, and what was there stays. -/
structure FdOk (fd : Fnd) : Prop where
  lt : ∀ {items x r}, fd items x = some r → r.2 < r.1.length
  pre : ∀ {items x r}, fd items x = some r → ∃ l, r.1 = items ++ l
/-- Keep's, and Find's. -/
def kpF (items : List It) (x : It) : Option (List It × Nat) := match items.findIdx? (· = x) with
  | some j => some (items, j)
  | none => if items.length = 4096 then none else some (items ++ [x], items.length)
def fiF (items : List It) (x : It) : Option (List It × Nat) := match items.findIdx? (· = x) with
  | some j => some (items, j)
  | none => none
theorem kpF_ok : FdOk kpF := by
  refine ⟨fun {items x r} h => ?_, fun {items x r} h => ?_⟩
  · unfold kpF at h
    split at h
    · rename_i j hj
      injection h with h
      subst h
      exact (List.findIdx?_eq_some_iff_getElem.1 hj).1
    · split at h
      · cases h
      · injection h with h
        subst h
        simp
  · unfold kpF at h
    split at h
    · injection h with h
      subst h
      exact ⟨[], by simp⟩
    · split at h
      · cases h
      · injection h with h
        subst h
        exact ⟨[x], rfl⟩
theorem fiF_ok : FdOk fiF := by
  refine ⟨fun {items x r} h => ?_, fun {items x r} h => ?_⟩
  · unfold fiF at h
    split at h
    · rename_i j hj
      injection h with h
      subst h
      exact (List.findIdx?_eq_some_iff_getElem.1 hj).1
    · cases h
  · unfold fiF at h
    split at h
    · injection h with h
      subst h
      exact ⟨[], by simp⟩
    · cases h
theorem kpF_add (items : List It) (x : It) (hl : items.length ≤ 4096) : kpF items x = if (addI items x).1.length ≤ 4096 then some (addI items x) else none := by
  unfold kpF addI
  cases items.findIdx? (· = x) with
  | some j => simp only; rw [if_pos hl]
  | none =>
    simp only [List.length_append, List.length_cons, List.length_nil]
    by_cases e : items.length = 4096
    · rw [if_pos e, if_neg (by omega)]
    · rw [if_neg e, if_pos (by omega)]
theorem fiF_add (items : List It) (x : It) : fiF items x = if (addI items x).1 = items then some (addI items x) else none := by
  unfold fiF addI
  cases items.findIdx? (· = x) with
  | some j => simp
  | none =>
    simp only
    rw [if_neg]
    intro h
    have := congrArg List.length h
    simp at this
theorem tkS_mono : ∀ (ts : List Tk) (s : List It × List Nat), ∃ l, (tkS ts s).1 = s.1 ++ l
  | [], s => ⟨[], by simp [tkS]⟩
  | k :: ts, s => by
    obtain ⟨l, h⟩ := tkS_mono ts (tkStep s k)
    obtain ⟨l', h', _⟩ := addI_pre s.1 (itemOf k (s.2.drop (s.2.length - takC k)))
    refine ⟨l' ++ l, ?_⟩
    show (tkS ts (tkStep s k)).1 = _
    rw [h, show (tkStep s k).1 = s.1 ++ l' from h', List.append_assoc]
/-- Keep: all items, or too many. -/
theorem nS_keep : ∀ (ts : List Tk) (s : List It × List Nat), s.1.length ≤ 4096 → nS kpF ts s = if (tkS ts s).1.length ≤ 4096 then some (tkS ts s) else none
  | [], s, h => by show some s = _; rw [show tkS [] s = s from rfl, if_pos h]
  | k :: ts, s, h => by
    show (nStep kpF s k).bind (nS kpF ts) = _
    rw [show tkS (k :: ts) s = tkS ts (tkStep s k) from rfl]
    unfold nStep
    rw [kpF_add _ _ h]
    by_cases c : (addI s.1 (itemOf k (s.2.drop (s.2.length - takC k)))).1.length ≤ 4096
    · rw [if_pos c]
      show nS kpF ts (tkStep s k) = _
      exact nS_keep ts _ c
    · rw [if_neg c]
      obtain ⟨l, hl⟩ := tkS_mono ts (tkStep s k)
      rw [if_neg]
      · rfl
      · rw [hl, List.length_append]
        have : (tkStep s k).1.length = (addI s.1 (itemOf k (s.2.drop (s.2.length - takC k)))).1.length := rfl
        omega
theorem nS_find : ∀ (ts : List Tk) (s : List It × List Nat), nS fiF ts s = if (tkS ts s).1 = s.1 then some (tkS ts s) else none
  | [], s => by show some s = _; rw [show tkS [] s = s from rfl, if_pos rfl]
  | k :: ts, s => by
    show (nStep fiF s k).bind (nS fiF ts) = _
    rw [show tkS (k :: ts) s = tkS ts (tkStep s k) from rfl]
    unfold nStep
    rw [fiF_add]
    by_cases c : (addI s.1 (itemOf k (s.2.drop (s.2.length - takC k)))).1 = s.1
    · rw [if_pos c]
      show nS fiF ts (tkStep s k) = _
      rw [nS_find ts, show (tkStep s k).1 = s.1 from c]
    · rw [if_neg c]
      obtain ⟨l, hl⟩ := tkS_mono ts (tkStep s k)
      obtain ⟨l', h', _⟩ := addI_pre s.1 (itemOf k (s.2.drop (s.2.length - takC k)))
      rw [if_neg]
      · rfl
      · intro e
        rw [hl, show (tkStep s k).1 = s.1 ++ l' from h'] at e
        have := congrArg List.length e
        simp at this
        apply c
        rw [h', this.1, List.append_nil]
end Go.Proofs.Ytbfhbpibpmgblaa
