/- Plain: the document's trees, grown by a stack; both formulas of a tree. -/
import Derived.Test.YtfgaieefejdkbaaKnM
namespace Go.Proofs.Ytfgaieefejdkbaa

def mkT (k : Tk) (a : List Tr) : Tr :=
  match a with
  | [] => .leaf k
  | [c] => .un k c
  | c :: d :: _ => .bin k c d
def gStep (st : List Tr) (k : Tk) : List Tr := st.take (st.length - takC k) ++ [mkT k (st.drop (st.length - takC k))]
def gS (ts : List Tk) (st : List Tr) : List Tr := ts.foldl gStep st
theorem gS_app (a b : List Tk) (st : List Tr) : gS (a ++ b) st = gS b (gS a st) := by unfold gS; rw [List.foldl_append]
theorem gS_next {ts : List Tk} {k : Nat} (h : k < ts.length) (st : List Tr) : gS (ts.take (k + 1)) st = gStep (gS (ts.take k) st) ts[k] := by
  rw [List.take_add_one, List.getElem?_eq_getElem h, gS_app]; rfl
theorem gS_tree : ∀ T : Tr, T.WF → ∀ st, gS T.flat st = st ++ [T]
  | .leaf (op, p), h, st => by
    have e := tak_of h.1
    have hd := drop_at st [] 0 rfl
    rw [List.append_nil] at hd
    show gStep st (op, p) = _
    unfold gStep
    rw [e, hd.1, hd.2]; rfl
  | .un (op, p) c, h, st => by
    have e := tak_of h.1
    have hd := drop_at st [c] 1 rfl
    show gS (c.flat ++ [(op, p)]) st = _
    rw [gS_app, gS_tree c h.2.2]
    show gStep _ (op, p) = _
    unfold gStep
    rw [e, hd.1, hd.2]; rfl
  | .bin (op, p) c d, h, st => by
    have e := tak_of h.1
    have hd := drop_at st [c, d] 2 rfl
    show gS (c.flat ++ d.flat ++ [(op, p)]) st = _
    rw [gS_app, gS_app, gS_tree c h.2.2.1, gS_tree d h.2.2.2]
    show gStep _ (op, p) = _
    rw [show st ++ [c] ++ [d] = st ++ [c, d] by simp]
    unfold gStep
    rw [e, hd.1, hd.2]; rfl
theorem gS_len : ∀ (ts : List Tk) (st : List Tr) (js : List Kq), st.length = js.length → (gS ts st).length = (jS ts js).length
  | [], st, js, h => h
  | k :: ts, st, js, h => by
    show (gS ts (gStep st k)).length = (jS ts (jStep js k)).length
    refine gS_len ts _ _ ?_
    unfold gStep jStep
    simp [h]
/-- Checked tokens: what the stack of trees is like. -/
structure GGood (ts : List Tk) (T : Tr) : Prop where
  few : ts.length ≤ 2048
  ok : ∀ k (h : k < ts.length), (∃ m, takesN ts[k] = some m) ∧ takC ts[k] ≤ (gS (ts.take k) []).length
  fin : gS ts [] = [T]
theorem ggood {T : Tr} (h : T.WF) (hl : T.flat.length ≤ 2048) : GGood T.flat T := by
  obtain ⟨_, h2⟩ := j_tree T h [] (2 * wt T) (Nat.le_refl _)
  refine ⟨hl, fun k hk => ⟨(h2 k hk).tk, ?_⟩, gS_tree T h []⟩
  rw [gS_len _ [] [] rfl]
  exact (h2 k hk).le
/-! ### both formulas of a tree -/
def kB (T : Tr) (b : Bool) : List Tk := if b then (kTr T).2.flat else (kTr T).1.flat
def tn (x y : Nat) (b : Bool) : Nat := if b then y else x
theorem kB_6 (c : Tr) (b : Bool) : kB (.un (6, 0) c) b = kB c (!b) := by cases b <;> rfl
theorem kB_7 (c : Tr) (b : Bool) : kB (.un (7, 0) c) b = kB c b ++ [] ++ [(tn 7 8 b, 0)] := by cases b <;> simp [kB, kTr, Tr.flat, tn]
theorem kB_8 (c : Tr) (b : Bool) : kB (.un (8, 0) c) b = kB c b ++ [] ++ [(tn 8 7 b, 0)] := by cases b <;> simp [kB, kTr, Tr.flat, tn]
theorem kB_9 (c : Tr) (b : Bool) : kB (.un (9, 0) c) b = [(tn 0 1 b, 0)] ++ kB c b ++ [(tn 15 16 b, 0)] := by cases b <;> simp [kB, kTr, Tr.flat, tn]
theorem kB_10 (c : Tr) (b : Bool) : kB (.un (10, 0) c) b = [(tn 1 0 b, 0)] ++ kB c b ++ [(tn 16 15 b, 0)] := by cases b <;> simp [kB, kTr, Tr.flat, tn]
theorem kB_19 (c : Tr) (b : Bool) : kB (.un (19, 0) c) b = kB c false ++ [] ++ [(19, 0)] := by cases b <;> simp [kB, kTr, Tr.flat]
theorem kB_20 (c : Tr) (b : Bool) : kB (.un (20, 0) c) b = kB c false ++ [] ++ [(20, 0)] := by cases b <;> simp [kB, kTr, Tr.flat]
theorem kB_23 (c : Tr) (b : Bool) : kB (.un (23, 0) c) b = kB c false ++ [] ++ [(23, 0)] := by cases b <;> simp [kB, kTr, Tr.flat]
theorem kB_11 (c d : Tr) (b : Bool) : kB (.bin (11, 0) c d) b = kB c b ++ kB d b ++ [(tn 11 12 b, 0)] := by cases b <;> simp [kB, kTr, Tr.flat, tn]
theorem kB_12 (c d : Tr) (b : Bool) : kB (.bin (12, 0) c d) b = kB c b ++ kB d b ++ [(tn 12 11 b, 0)] := by cases b <;> simp [kB, kTr, Tr.flat, tn]
theorem kB_13 (c d : Tr) (b : Bool) : kB (.bin (13, 0) c d) b = kB c (!b) ++ kB d b ++ [(tn 12 11 b, 0)] := by cases b <;> simp [kB, kTr, Tr.flat, tn]
theorem kB_14 (c d : Tr) (b : Bool) : kB (.bin (14, 0) c d) b = (kB c false ++ kB d b ++ [(11, 0)]) ++ (kB c true ++ kB d (!b) ++ [(11, 0)]) ++ [(12, 0)] := by cases b <;> simp [kB, kTr, Tr.flat]
theorem kB_15 (c d : Tr) (b : Bool) : kB (.bin (15, 0) c d) b = kB c b ++ kB d b ++ [(tn 15 16 b, 0)] := by cases b <;> simp [kB, kTr, Tr.flat, tn]
theorem kB_16 (c d : Tr) (b : Bool) : kB (.bin (16, 0) c d) b = kB c b ++ kB d b ++ [(tn 16 15 b, 0)] := by cases b <;> simp [kB, kTr, Tr.flat, tn]
theorem kB_17 (c d : Tr) (b : Bool) : kB (.bin (17, 0) c d) b = kB c false ++ kB d b ++ [(tn 17 18 b, 0)] := by cases b <;> simp [kB, kTr, Tr.flat, tn]
theorem kB_18 (c d : Tr) (b : Bool) : kB (.bin (18, 0) c d) b = kB c false ++ kB d b ++ [(tn 18 17 b, 0)] := by cases b <;> simp [kB, kTr, Tr.flat, tn]
theorem kB_21 (c d : Tr) (b : Bool) : kB (.bin (21, 0) c d) b = kB c false ++ kB d false ++ [(21, 0)] := by cases b <;> simp [kB, kTr, Tr.flat]
theorem kB_22 (c d : Tr) (b : Bool) : kB (.bin (22, 0) c d) b = kB c false ++ kB d false ++ [(22, 0)] := by cases b <;> simp [kB, kTr, Tr.flat]
theorem path_same {T : Tr} (h : T.WF) (hp : pathT T = true) : (kTr T).2 = (kTr T).1 := by
  match T, h, hp with
  | .leaf (op, p), h, hp => rcases leaf_cases h with ⟨rfl, _⟩ | ⟨rfl, rfl | rfl | rfl | rfl | rfl⟩ <;> cases hp
  | .un (op, p) c, h, hp =>
    obtain ⟨rfl, _, _, ho⟩ := un_cases h
    rcases ho with rfl | rfl | rfl | rfl | rfl | rfl | rfl | rfl <;> first | rfl | cases hp
  | .bin (op, p) c d, h, hp =>
    obtain ⟨rfl, _, _, _, ho⟩ := bin_cases h
    rcases ho with rfl | rfl | rfl | rfl | rfl | rfl | rfl | rfl | rfl | rfl <;> first | rfl | cases hp
theorem kB_len {T : Tr} (h : T.WF) (b : Bool) : (kB T b).length ≤ 2 * wt T := by
  cases hp : pathT T with
  | false =>
    have := wt_len h
    have e : (jFl T).2 = (kTr T).2.flat := by show (if pathT T then [] else _) = _; rw [hp]; rfl
    rw [e] at this
    cases b with
    | false => exact this.1
    | true => exact this.2
  | true =>
    have e : kB T b = (kTr T).1.flat := by
      cases b with
      | false => rfl
      | true => show (kTr T).2.flat = _; rw [path_same h hp]
    rw [e]
    have := (wt_len h).1
    exact this
theorem kB_ok {T : Tr} (h : T.WF) (b : Bool) : ∀ t ∈ kB T b, t.1 < 24 ∧ t.2 < 8 := by
  have ok := kOk T h
  have key : ∀ S : Tr, S.WF → ∀ t ∈ S.flat, t.1 < 24 ∧ t.2 < 8 := by
    intro S
    induction S with
    | leaf k =>
      intro hS t ht
      obtain ⟨op, p⟩ := k
      simp [Tr.flat] at ht
      subst ht
      rcases leaf_cases hS with ⟨rfl, hp⟩ | ⟨rfl, ho⟩
      · exact ⟨by show 2 < 24; decide, by show p < 8; omega⟩
      · exact ⟨by show op < 24; omega, by show 0 < 8; decide⟩
    | un k c ih =>
      intro hS t ht
      obtain ⟨op, p⟩ := k
      obtain ⟨rfl, hc, _, ho⟩ := un_cases hS
      rcases List.mem_append.1 ht with ht | ht
      · exact ih hc t ht
      · simp at ht; subst ht; exact ⟨by show op < 24; omega, by show 0 < 8; decide⟩
    | bin k c d ih jh =>
      intro hS t ht
      obtain ⟨op, p⟩ := k
      obtain ⟨rfl, hc, hd, _, ho⟩ := bin_cases hS
      rcases List.mem_append.1 ht with ht | ht
      · rcases List.mem_append.1 ht with ht | ht
        · exact ih hc t ht
        · exact jh hd t ht
      · simp at ht; subst ht; exact ⟨by show op < 24; omega, by show 0 < 8; decide⟩
  cases hp : pathT T with
  | false =>
    cases b with
    | false => exact key _ ok.w1
    | true => exact key _ (ok.w2 hp)
  | true =>
    cases b with
    | false => exact key _ ok.w1
    | true => show ∀ t ∈ (kTr T).2.flat, _; rw [path_same h hp]; exact key _ ok.w1
end Go.Proofs.Ytfgaieefejdkbaa
