/- Plain: the text of a formula or a path, with as few brackets as may be; the words of that text. -/
import Derived.Test.YtfipefbaabkdeaaGreatDoorPaM
namespace Go.Proofs.YtfipefbaabkdeaaGreatDoor

def Tr.root : Tr → Tk
  | .leaf t => t
  | .un t _ => t
  | .bin t _ _ => t
/-- How strong a part is. -/
def strN (op : Nat) : Nat :=
  if op = 14 ∨ op = 21 then 1 else if op = 13 ∨ op = 22 then 2 else if op = 12 ∨ op = 23 then 3 else if op = 11 ∨ op = 19 ∨ op = 20 then 4
  else if op = 15 ∨ op = 16 then 5 else if (6 ≤ op ∧ op ≤ 10) ∨ op = 17 ∨ op = 18 then 6 else 7
def leafT (ns : List Bytes) (t : Tk) : Bytes :=
  if t.1 = 0 then [116, 114, 117, 101] else if t.1 = 1 then [102, 97, 108, 115, 101] else if t.1 = 3 then [108, 97, 115, 116] else ns.getD t.2 []
def unW (op : Nat) : Bytes := if op = 6 then [33] else if op = 7 then [88] else if op = 8 then [78] else if op = 9 then [70] else if op = 10 then [71] else [63]
def gapB (op : Nat) : Bytes := if op = 6 ∨ op = 20 then [] else [32]
def binW (op : Nat) : Bytes :=
  if op = 14 then [60, 45, 62] else if op = 13 then [45, 62] else if op = 12 then [124] else if op = 11 then [38] else if op = 15 then [85] else if op = 16 then [82]
  else if op = 21 then [43] else [59]
def rightO (op : Nat) : Bool := decide (op = 13) || decide (op = 15) || decide (op = 16)
/-- What must stand first, and second. -/
def leastA (op : Nat) : Nat := strN op + if rightO op then 1 else 0
def leastB (op : Nat) : Nat := strN op + if rightO op then 0 else 1
def wiT (weak : Bool) (s : Bytes) : Bytes := if weak then 40 :: (s ++ [41]) else s
def wiW (weak : Bool) (l : List Bytes) : List Bytes := if weak then [40] :: (l ++ [[41]]) else l
def wkB (t : Tr) (least : Nat) : Bool := decide (strN t.root.1 < least)
def shT (ns : List Bytes) : Tr → Bytes
  | .leaf t => leafT ns t
  | .un t c =>
    if t.1 = 19 then 123 :: (shT ns c ++ [125])
    else if t.1 = 23 then wiT (wkB c 3) (shT ns c) ++ [42]
    else unW t.1 ++ (gapB t.1 ++ wiT (wkB c 6) (shT ns c))
  | .bin t c d =>
    if t.1 = 17 then 60 :: (shT ns c ++ 62 :: 32 :: wiT (wkB d 6) (shT ns d))
    else if t.1 = 18 then 91 :: (shT ns c ++ 93 :: 32 :: wiT (wkB d 6) (shT ns d))
    else wiT (wkB c (leastA t.1)) (shT ns c) ++ 32 :: (binW t.1 ++ 32 :: wiT (wkB d (leastB t.1)) (shT ns d))
def shW (ns : List Bytes) : Tr → List Bytes
  | .leaf t => [leafT ns t]
  | .un t c =>
    if t.1 = 19 then [123] :: (shW ns c ++ [[125]])
    else if t.1 = 23 then wiW (wkB c 3) (shW ns c) ++ [[42]]
    else unW t.1 :: wiW (wkB c 6) (shW ns c)
  | .bin t c d =>
    if t.1 = 17 then [60] :: (shW ns c ++ [62] :: wiW (wkB d 6) (shW ns d))
    else if t.1 = 18 then [91] :: (shW ns c ++ [93] :: wiW (wkB d 6) (shW ns d))
    else wiW (wkB c (leastA t.1)) (shW ns c) ++ binW t.1 :: wiW (wkB d (leastB t.1)) (shW ns d)
/-- A token that a text can say. -/
def tokS (ns : List Bytes) (z : Tk) : Prop := z.1 ≠ 4 ∧ z.1 ≠ 5 ∧ (z.1 = 2 → z.2 < ns.length)
def Shw (ns : List Bytes) (t : Tr) : Prop := ∀ z ∈ t.flat, tokS ns z
theorem Shw.un {ns : List Bytes} {t : Tk} {c : Tr} (h : Shw ns (.un t c)) : Shw ns c ∧ tokS ns t := ⟨fun z hz => h z (by simp [Tr.flat, hz]), h t (by simp [Tr.flat])⟩
theorem Shw.bin {ns : List Bytes} {t : Tk} {c d : Tr} (h : Shw ns (.bin t c d)) : Shw ns c ∧ Shw ns d ∧ tokS ns t := ⟨fun z hz => h z (by simp [Tr.flat, hz]), fun z hz => h z (by simp [Tr.flat, hz]), h t (by simp [Tr.flat])⟩
/-! ### names -/
theorem chk_names : ∀ (l seen : List Bytes), chkGo seen l = 0 → ∀ x ∈ l, nameL x = true := by
  intro l
  induction l with
  | nil => intro seen _ x hx; simp at hx
  | cons a l ih =>
    intro seen h x hx
    unfold chkGo at h
    split at h
    · cases h
    · next hn =>
      split at h
      · cases h
      · rcases List.mem_cons.1 hx with rfl | hx
        · simpa using hn
        · exact ih _ h x hx
theorem check_names {ns : List Bytes} (h : checkE ns = 0) : ∀ x ∈ ns, nameL x = true := by
  unfold checkE at h
  split at h
  · cases h
  · exact chk_names ns [] h
theorem chk_new : ∀ (l seen : List Bytes), chkGo seen l = 0 → seen.Nodup → (seen ++ l).Nodup := by
  intro l
  induction l with
  | nil => intro seen _ hs; simpa using hs
  | cons a l ih =>
    intro seen h hs
    unfold chkGo at h
    split at h
    · cases h
    · split at h
      · cases h
      · next hn =>
        have : (seen ++ [a]).Nodup := by
          rw [List.nodup_append]
          refine ⟨hs, by simp, ?_⟩
          intro x hx y hy e
          simp at hy; subst hy; subst e
          exact hn (by simpa using hx)
        have := ih _ h this
        simpa using this
theorem check_nodup {ns : List Bytes} (h : checkE ns = 0) : ns.Nodup := by
  unfold checkE at h
  split at h
  · cases h
  · simpa using chk_new ns [] h (by simp)
theorem idx_name : ∀ {ns : List Bytes}, ns.Nodup → ∀ {p : Nat} (hp : p < ns.length), ns.idxOf ns[p] = p
  | [], _, p, hp => by simp at hp
  | a :: ns, h, 0, hp => by simp
  | a :: ns, h, p + 1, hp => by
    have h2 := List.nodup_cons.1 h
    have hp' : p < ns.length := by simpa using hp
    have ih := idx_name h2.2 hp'
    have hne : ¬ (a == ns[p]) = true := by
      intro e
      have : a = ns[p] := by simpa using e
      exact h2.1 (this ▸ List.getElem_mem hp')
    rw [List.getElem_cons_succ, List.idxOf_cons]
    simp [hne, ih]
theorem small_pln {c : UInt8} (h : byteB c = true) : plnB c = true := by
  unfold byteB smallB digitB at h
  unfold plnB plnN
  simp only [Bool.or_eq_true, decide_eq_true_eq] at h ⊢
  omega
/-- What a name is as a word. -/
theorem name_word {x : Bytes} (h : nameL x = true) : x ≠ [] ∧ x.all plnB = true ∧ sortL x = (2, true) ∧ atOf x = none ∧ x ≠ [40] ∧ unOf x = none ∧ mdOf x = none ∧ (∀ k, opOf k x = none) ∧ (∀ k, pOf k x = none) := by
  have h0 := h
  unfold nameL at h
  simp only [Bool.and_eq_true, decide_eq_true_eq, Bool.not_eq_true'] at h
  obtain ⟨⟨⟨⟨h1, h2⟩, h3⟩, h4⟩, h5⟩ := h
  have hne : x ≠ [] := by intro e; subst e; simp at h1
  obtain ⟨c, r, rfl⟩ : ∃ c r, x = c :: r := by cases x with | nil => exact absurd rfl hne | cons c r => exact ⟨c, r, rfl⟩
  have hc : smallB (c.toNat : Int) = true := h3
  unfold smallB at hc
  simp only [decide_eq_true_eq] at hc
  have key : ∀ d : UInt8, d.toNat < 97 → c ≠ d := fun d hd e => by subst e; omega
  have big : ∀ d : UInt8, 122 < d.toNat → c ≠ d := fun d hd e => by subst e; omega
  unfold resL at h5
  simp only [Bool.or_eq_false_iff, beq_eq_false_iff_ne, ne_eq] at h5
  refine ⟨hne, List.all_eq_true.2 fun z hz => small_pln (List.all_eq_true.1 h4 z hz), ?_, ?_, ?_, ?_, ?_, ?_, ?_⟩
  · unfold sortL
    have s1 : sgP.contains (c :: r) = false := by
      simp [sgP, key 40 (by decide), key 41 (by decide), key 91 (by decide), key 93 (by decide), key 60 (by decide), key 62 (by decide), key 33 (by decide), key 63 (by decide), key 38 (by decide), key 43 (by decide), key 59 (by decide), key 42 (by decide), key 45 (by decide), big 123 (by decide), big 125 (by decide), big 124 (by decide)]
    have s2 : keyL.contains (c :: r) = false := by
      simp [keyL, key 88 (by decide), key 78 (by decide), key 70 (by decide), key 71 (by decide), key 85 (by decide), key 82 (by decide)]
      have := h5; simp at this; exact ⟨this.1.1, this.1.2, this.2⟩
    rw [s1, s2, h0]; rfl
  · unfold atOf; rw [if_neg h5.1.1, if_neg h5.1.2, if_neg h5.2]
  · simp [key 40 (by decide)]
  · simp [unOf, key 33 (by decide), key 88 (by decide), key 78 (by decide), key 70 (by decide), key 71 (by decide)]
  · simp [mdOf, key 60 (by decide), key 91 (by decide)]
  · intro k; simp [opOf, key 60 (by decide), key 45 (by decide), big 124 (by decide), key 38 (by decide), key 85 (by decide), key 82 (by decide)]
  · intro k; simp [pOf, key 43 (by decide), key 59 (by decide), key 42 (by decide)]
end Go.Proofs.YtfipefbaabkdeaaGreatDoor
namespace Go.Proofs.YtfipefbaabkdeaaGreatDoor

def wd2 (x : Bytes) : Nat × ByteArray := ((sortL x).1, mkB x)
abbrev wdsL (l : List Bytes) : List (Nat × ByteArray) := l.map wd2
theorem brk42 : Brk 42 := ⟨by decide, by decide⟩
theorem brk125 : Brk 125 := ⟨by decide, by decide⟩
/-- What stands at a tree's root. -/
theorem leaf_ops {ns : List Bytes} {t : Tk} (h : (Tr.leaf t).WF) (hs : Shw ns (.leaf t)) : t = (0, 0) ∨ t = (1, 0) ∨ t = (3, 0) ∨ (t.1 = 2 ∧ t.2 < ns.length) := by
  obtain ⟨op, p⟩ := t
  have hz := hs (op, p) (by simp [Tr.flat])
  have h1 := h.1
  unfold takesN at h1
  simp only at h1 hz
  split at h1
  · cases h1
  · next hb =>
    split at h1
    · unfold tokS at hz
      simp only at hz
      rcases Nat.lt_or_ge op 3 with h3 | h3
      · rcases Nat.lt_or_ge op 2 with h2 | h2
        · have : p = 0 := by omega
          subst this
          have : op = 0 ∨ op = 1 := by omega
          rcases this with rfl | rfl <;> simp
        · have : op = 2 := by omega
          subst this
          exact Or.inr (Or.inr (Or.inr ⟨rfl, hz.2.2 rfl⟩))
      · have : op = 3 := by omega
        subst this
        have : p = 0 := by omega
        subst this; simp
    · split at h1 <;> cases h1
theorem un_ops {t : Tk} {c : Tr} (h : (Tr.un t c).WF) : t.2 = 0 ∧ (t.1 = 6 ∨ t.1 = 7 ∨ t.1 = 8 ∨ t.1 = 9 ∨ t.1 = 10 ∨ t.1 = 19 ∨ t.1 = 20 ∨ t.1 = 23) := by
  have h1 := h.1
  unfold takesN at h1
  split at h1
  · cases h1
  · next hb =>
    split at h1
    · cases h1
    · split at h1
      · exact ⟨by omega, by omega⟩
      · cases h1
theorem bin_ops {t : Tk} {c d : Tr} (h : (Tr.bin t c d).WF) : t.2 = 0 ∧ ((11 ≤ t.1 ∧ t.1 ≤ 18) ∨ t.1 = 21 ∨ t.1 = 22) := by
  have h1 := h.1
  unfold takesN at h1
  split at h1
  · cases h1
  · next hb =>
    split at h1
    · cases h1
    · split at h1
      · cases h1
      · exact ⟨by omega, by omega⟩
/-- A formula, a path. -/
def isP (t : Tr) : Bool := isPathB t.root.1
theorem part_path (t : Tr) (o : Nat) : (t.part o).path = isP t := by cases t <;> rfl
theorem lex_wi {s : Bytes} {l : List Bytes} (b : Bool) (h : Lex s (wdsL l)) : Lex (wiT b s) (wdsL (wiW b l)) := by
  cases b with
  | false => exact h
  | true =>
    have := lp_lex (Lex.app brk41 (rp_lex Lex.nil) s.length s _ (Nat.le_refl _) h)
    simpa [wiT, wiW, wd2, sort_sign (show ([40] : Bytes) ∈ sgR by decide), sort_sign (show ([41] : Bytes) ∈ sgR by decide)] using this
theorem run_blank (r : Bytes) : runN (32 :: r) = 0 := rfl
theorem lex_leaf {x : Bytes} (h1 : x ≠ []) (h2 : x.all plnB = true) (h3 : (sortL x).2 = true) : Lex x [wd2 x] := by
  have hh : x.headD 0 ≠ 32 := by
    cases x with
    | nil => exact absurd rfl h1
    | cons c r =>
      intro e
      have e : c = 32 := e
      subst e
      simp [plnB, plnN] at h2
  have := Lex.word (x := x) (s := []) h1 hh (run_word h1 h2 h3 rfl) Lex.nil
  simpa [wd2] using this
theorem lex_key {x s : Bytes} {l : List (Nat × ByteArray)} (h1 : x ≠ []) (h2 : x.all plnB = true) (h3 : (sortL x).2 = true) (hh : x.headD 0 ≠ 32) (h : Lex s l) : Lex (x ++ 32 :: s) (wd2 x :: l) :=
  Lex.word h1 hh (run_word h1 h2 h3 (run_blank s)) h.blank
theorem lex_sign {x s : Bytes} {l : List (Nat × ByteArray)} (hx : x ∈ sgR) (h1 : x ≠ [60]) (h : Lex s l) : Lex (x ++ s) (wd2 x :: l) :=
  Lex.word (sg_ne hx) (sign_facts x hx).2.1 (sign_stands hx h1 s) h
/-- What a path's text begins with. -/
theorem path_head (ns : List Bytes) : ∀ t : Tr, t.WF → isP t = true → ∃ c r, shT ns t = c :: r ∧ (c = 123 ∨ c = 63 ∨ c = 40)
  | .leaf t, h, hp => by
    have h1 := h.1
    have : 19 ≤ t.1 := of_decide_eq_true hp
    unfold takesN at h1
    split at h1
    · cases h1
    · split at h1
      · omega
      · split at h1 <;> cases h1
  | .un t c, h, hp => by
    have hop := un_ops h
    have h19 : 19 ≤ t.1 := of_decide_eq_true hp
    by_cases e19 : t.1 = 19
    · exact ⟨123, shT ns c ++ [125], by simp only [shT, if_pos e19], Or.inl rfl⟩
    · by_cases e23 : t.1 = 23
      · have hf := h.2.1
        have hc : isP c = true := by rw [← part_path c 0]; unfold fitsP at hf; simp [e23] at hf; exact hf
        obtain ⟨b, r, e, hb⟩ := path_head ns c h.2.2 hc
        simp only [shT, if_neg e19, if_pos e23]
        unfold wiT
        split
        · exact ⟨40, _, rfl, Or.inr (Or.inr rfl)⟩
        · rw [e]; exact ⟨b, _, rfl, hb⟩
      · have e20 : t.1 = 20 := by omega
        exact ⟨63, gapB t.1 ++ wiT (wkB c 6) (shT ns c), by simp only [shT, if_neg e19, if_neg e23]; simp [unW, e20], Or.inr (Or.inl rfl)⟩
  | .bin t c d, h, hp => by
    have hop := bin_ops h
    have h19 : 19 ≤ t.1 := of_decide_eq_true hp
    have e17 : ¬ t.1 = 17 := by omega
    have e18 : ¬ t.1 = 18 := by omega
    have hf := h.2.1
    have hc : isP c = true := by
      rw [← part_path c 0]
      have e21 : t.1 = 21 ∨ t.1 = 22 := by omega
      have e19 : ¬ t.1 = 19 := by omega
      unfold fitsP at hf; simp [e17, e18, e19, e21] at hf; exact hf.1
    obtain ⟨b, r, e, hb⟩ := path_head ns c h.2.2.1 hc
    simp only [shT, if_neg e17, if_neg e18]
    unfold wiT
    split
    · exact ⟨40, _, rfl, Or.inr (Or.inr rfl)⟩
    · rw [e]; exact ⟨b, _, rfl, hb⟩
theorem path_less (ns : List Bytes) {t : Tr} (h : t.WF) (hp : isP t = true) (r : Bytes) : (shT ns t ++ r).take 2 ≠ [45, 62] := by
  obtain ⟨c, q, e, hc⟩ := path_head ns t h hp
  rw [e]
  intro e2
  simp at e2
  rcases hc with rfl | rfl | rfl <;> simp at e2
/-- The words of the text. -/
theorem lex_sh {ns : List Bytes} (hns : ∀ x ∈ ns, nameL x = true) : ∀ t : Tr, t.WF → Shw ns t → Lex (shT ns t) (wdsL (shW ns t))
  | .leaf t, h, hs => by
    rcases leaf_ops h hs with rfl | rfl | rfl | ⟨h2, hp⟩
    · exact lex_leaf (x := [116, 114, 117, 101]) (by decide) (by decide) (by decide)
    · exact lex_leaf (x := [102, 97, 108, 115, 101]) (by decide) (by decide) (by decide)
    · exact lex_leaf (x := [108, 97, 115, 116]) (by decide) (by decide) (by decide)
    · have e : leafT ns t = ns[t.2] := by simp [leafT, h2, List.getD_eq_getElem?_getD, hp]
      have hw := name_word (hns _ (List.getElem_mem hp))
      simp only [shT, shW, e]
      exact lex_leaf hw.1 hw.2.1 (by rw [hw.2.2.1])
  | .un t c, h, hs => by
    have ih := lex_sh hns c h.2.2 hs.un.1
    obtain ⟨_, hop⟩ := un_ops h
    by_cases e19 : t.1 = 19
    · simp only [shT, shW, if_pos e19]
      have h1 : Lex ([125] ++ []) (wd2 [125] :: []) := lex_sign (by decide) (by decide) Lex.nil
      have h2 : Lex (shT ns c ++ 125 :: []) (wdsL (shW ns c) ++ [wd2 [125]]) := Lex.app brk125 h1 _ _ _ (Nat.le_refl _) ih
      have h3 := lex_sign (x := [123]) (by decide) (by decide) h2
      simpa using h3
    · by_cases e23 : t.1 = 23
      · simp only [shT, shW, if_neg e19, if_pos e23]
        have h1 : Lex ([42] ++ []) (wd2 [42] :: []) := lex_sign (by decide) (by decide) Lex.nil
        have h2 : Lex (wiT (wkB c 3) (shT ns c) ++ 42 :: []) (wdsL (wiW (wkB c 3) (shW ns c)) ++ [wd2 [42]]) := Lex.app brk42 h1 _ _ _ (Nat.le_refl _) (lex_wi _ ih)
        simpa using h2
      · simp only [shT, shW, if_neg e19, if_neg e23]
        have hi := lex_wi (wkB c 6) ih
        have hc : t.1 = 6 ∨ t.1 = 7 ∨ t.1 = 8 ∨ t.1 = 9 ∨ t.1 = 10 ∨ t.1 = 20 := by omega
        rcases hc with e | e | e | e | e | e <;> rw [e]
        · exact lex_sign (x := [33]) (by decide) (by decide) hi
        · exact lex_key (x := [88]) (by decide) (by decide) (by decide) (by decide) hi
        · exact lex_key (x := [78]) (by decide) (by decide) (by decide) (by decide) hi
        · exact lex_key (x := [70]) (by decide) (by decide) (by decide) (by decide) hi
        · exact lex_key (x := [71]) (by decide) (by decide) (by decide) (by decide) hi
        · exact lex_sign (x := [63]) (by decide) (by decide) hi
  | .bin t c d, h, hs => by
    have ihc := lex_sh hns c h.2.2.1 hs.bin.1
    have ihd := lex_sh hns d h.2.2.2 hs.bin.2.1
    obtain ⟨_, hop⟩ := bin_ops h
    by_cases e17 : t.1 = 17
    · simp only [shT, shW, if_pos e17]
      have hp : isP c = true := by
        have hf := h.2.1
        rw [← part_path c 0]; unfold fitsP at hf; simp [e17] at hf; exact hf.1
      have h1 : Lex (62 :: 32 :: wiT (wkB d 6) (shT ns d)) (wd2 [62] :: wdsL (wiW (wkB d 6) (shW ns d))) := lex_sign (x := [62]) (by decide) (by decide) (lex_wi _ ihd).blank
      have h2 := Lex.app brk62 h1 _ _ _ (Nat.le_refl _) ihc
      have h3 := Lex.word (x := [60]) (by decide) (by decide) (less_stands (path_less ns h.2.2.1 hp _)) h2
      have e60 : ((sortL [60]).1, mkB [60]) = wd2 [60] := rfl
      rw [e60] at h3
      simpa using h3
    · by_cases e18 : t.1 = 18
      · simp only [shT, shW, if_neg e17, if_pos e18]
        have h1 : Lex (93 :: 32 :: wiT (wkB d 6) (shT ns d)) (wd2 [93] :: wdsL (wiW (wkB d 6) (shW ns d))) := lex_sign (x := [93]) (by decide) (by decide) (lex_wi _ ihd).blank
        have h2 := Lex.app brk93 h1 _ _ _ (Nat.le_refl _) ihc
        have h3 := lex_sign (x := [91]) (by decide) (by decide) h2
        simpa using h3
      · simp only [shT, shW, if_neg e17, if_neg e18]
        have hb : Lex (binW t.1 ++ 32 :: wiT (wkB d (leastB t.1)) (shT ns d)) (wd2 (binW t.1) :: wdsL (wiW (wkB d (leastB t.1)) (shW ns d))) := by
          have hi := lex_wi (wkB d (leastB t.1)) ihd
          have hc : t.1 = 11 ∨ t.1 = 12 ∨ t.1 = 13 ∨ t.1 = 14 ∨ t.1 = 15 ∨ t.1 = 16 ∨ t.1 = 21 ∨ t.1 = 22 := by omega
          generalize wiT (wkB d (leastB t.1)) (shT ns d) = S at *
          generalize wiW (wkB d (leastB t.1)) (shW ns d) = L at *
          rcases hc with e | e | e | e | e | e | e | e <;> rw [e]
          · exact lex_sign (x := [38]) (by decide) (by decide) hi.blank
          · exact lex_sign (x := [124]) (by decide) (by decide) hi.blank
          · exact lex_sign (x := [45, 62]) (by decide) (by decide) hi.blank
          · exact lex_sign (x := [60, 45, 62]) (by decide) (by decide) hi.blank
          · exact lex_key (x := [85]) (by decide) (by decide) (by decide) (by decide) hi
          · exact lex_key (x := [82]) (by decide) (by decide) (by decide) (by decide) hi
          · exact lex_sign (x := [43]) (by decide) (by decide) hi.blank
          · exact lex_sign (x := [59]) (by decide) (by decide) hi.blank
        have h2 := Lex.app brk32 hb.blank _ _ _ (Nat.le_refl _) (lex_wi (wkB c (leastA t.1)) ihc)
        simpa using h2
end Go.Proofs.YtfipefbaabkdeaaGreatDoor
namespace Go.Proofs.YtfipefbaabkdeaaGreatDoor

/-- Some number of calls reads the tokens t, and leaves the words r. -/
def Rd (ns : List Bytes) (fin : Int) (nt : NT) (ws : List Wd) (t : List Tk5) (r : List Wd) : Prop := ∃ n, rd5 ns fin n nt ws = some (.ok (t, r))
section
variable {ns : List Bytes} {fin : Int}
theorem Rd.from {nt : NT} {ws r : List Wd} {t : List Tk5} (h : Rd ns fin nt ws t r) : ∃ m, ∀ n, m ≤ n → rd5 ns fin n nt ws = some (.ok (t, r)) := by
  obtain ⟨m, h⟩ := h; exact ⟨m, fun n hn => rd5_mono hn _ h⟩
theorem Rd.two {nt nt' : NT} {ws r ws' r' : List Wd} {t t' : List Tk5} (h : Rd ns fin nt ws t r) (h' : Rd ns fin nt' ws' t' r') : ∃ n, rd5 ns fin n nt ws = some (.ok (t, r)) ∧ rd5 ns fin n nt' ws' = some (.ok (t', r')) := by
  obtain ⟨m, h⟩ := h.from
  obtain ⟨m', h'⟩ := h'.from
  exact ⟨max m m', h _ (Nat.le_max_left _ _), h' _ (Nat.le_max_right _ _)⟩
theorem Rd.lev5 {ws r : List Wd} {t : List Tk5} (h : Rd ns fin .una ws t r) : Rd ns fin (.lev 5) ws t r := by
  obtain ⟨n, h⟩ := h
  exact ⟨n + 1, by rw [rd5, if_pos (by omega)]; exact h⟩
theorem Rd.lev {k : Nat} {ws m r : List Wd} {t u : List Tk5} (hk : k < 5) (h : Rd ns fin (.lev (k + 1)) ws t m) (h' : Rd ns fin (.more k) m u r) : Rd ns fin (.lev k) ws (t ++ u) r := by
  obtain ⟨n, h1, h2⟩ := h.two h'
  exact ⟨n + 1, by rw [rd5, if_neg (by omega), h1]; simp only [andR, h2]; rfl⟩
theorem Rd.more0 {k : Nat} {ws : List Wd} (h : opOf k (hdT ws) = none) : Rd ns fin (.more k) ws [] ws := ⟨1, by rw [rd5, h]; rfl⟩
theorem Rd.moreL {k op : Nat} {ws m r : List Wd} {t u : List Tk5} (ho : opOf k (hdT ws) = some op) (hr : rightB k = false) (h : Rd ns fin (.lev (k + 1)) ws.tail t m) (h' : Rd ns fin (.more k) m u r) : Rd ns fin (.more k) ws (t ++ [(op, 0)] ++ u) r := by
  obtain ⟨n, h1, h2⟩ := h.two h'
  exact ⟨n + 1, by rw [rd5, ho]; simp only [hr]; rw [h1]; simp only [andR, h2]; rfl⟩
theorem Rd.moreR {k op : Nat} {ws r : List Wd} {t : List Tk5} (ho : opOf k (hdT ws) = some op) (hr : rightB k = true) (h : Rd ns fin (.lev k) ws.tail t r) : Rd ns fin (.more k) ws (t ++ [(op, 0)]) r := by
  obtain ⟨n, h1⟩ := h
  exact ⟨n + 1, by rw [rd5, ho]; simp only [hr]; rw [if_pos trivial, h1]; rfl⟩
theorem Rd.un {op : Nat} {ws r : List Wd} {t : List Tk5} (ho : unOf (hdT ws) = some op) (h : Rd ns fin .una ws.tail t r) : Rd ns fin .una ws (t ++ [(op, 0)]) r := by
  obtain ⟨n, h1⟩ := h
  exact ⟨n + 1, by unfold rd5; rw [ho]; simp only [h1]; rfl⟩
theorem Rd.md {op : Nat} {c : Bytes} {ws m r : List Wd} {t u : List Tk5} (hn : unOf (hdT ws) = none) (ho : mdOf (hdT ws) = some (c, op)) (h : Rd ns fin (.pat 0) ws.tail t m) (hc : hdT m = c) (h' : Rd ns fin .una m.tail u r) : Rd ns fin .una ws (t ++ u ++ [(op, 0)]) r := by
  obtain ⟨n, h1, h2⟩ := h.two h'
  exact ⟨n + 1, by unfold rd5; rw [hn, ho]; simp only [h1, andR, hc, if_pos, h2]; rfl⟩
theorem Rd.una {ws r : List Wd} {t : List Tk5} (hn : unOf (hdT ws) = none) (hm : mdOf (hdT ws) = none) (h : Rd ns fin .ato ws t r) : Rd ns fin .una ws t r := rd_una h hn hm
theorem Rd.at {op : Nat} {ws : List Wd} (ho : atOf (hdT ws) = some op) : Rd ns fin .ato ws [(op, 0)] ws.tail := ⟨1, by unfold rd5; rw [ho]; rfl⟩
theorem Rd.paren {ws m : List Wd} {t : List Tk5} (ho : hdT ws = [40]) (h : Rd ns fin (.lev 0) ws.tail t m) (hc : hdT m = [41]) : Rd ns fin .ato ws t m.tail := by
  obtain ⟨n, h1⟩ := h
  exact ⟨n + 1, by
    have ha : atOf [40] = none := by decide
    unfold rd5; rw [ho, ha]; simp only [if_pos, h1, andR, hc]; rfl⟩
theorem Rd.name {w : Wd} {r : List Wd} (hs : w.so = 2) (ha : atOf w.tx.toList = none) (h4 : w.tx.toList ≠ [40]) (hc : w.tx.toList ∈ ns) : Rd ns fin .ato (w :: r) [(2, ns.idxOf w.tx.toList)] r :=
  ⟨1, by
    have hc' : ns.contains w.tx.toList = true := by simpa using hc
    unfold rd5; rw [show hdT (w :: r) = w.tx.toList from rfl, ha]; simp only [if_neg h4, hs, if_pos, hc']; rfl⟩
theorem Rd.pat {k : Nat} {ws m r : List Wd} {t u : List Tk5} (hk : k < 2) (h : Rd ns fin (.pat (k + 1)) ws t m) (h' : Rd ns fin (.pmore k) m u r) : Rd ns fin (.pat k) ws (t ++ u) r := by
  obtain ⟨n, h1, h2⟩ := h.two h'
  exact ⟨n + 1, by rw [rd5, if_neg (by omega), h1]; simp only [andR, h2]; rfl⟩
theorem Rd.pat2 {ws m r : List Wd} {t u : List Tk5} (h : Rd ns fin .bar ws t m) (h' : Rd ns fin (.pmore 2) m u r) : Rd ns fin (.pat 2) ws (t ++ u) r := by
  obtain ⟨n, h1, h2⟩ := h.two h'
  exact ⟨n + 1, by rw [rd5, if_pos (by omega), h1]; simp only [andR, h2]; rfl⟩
theorem Rd.pmore0 {k : Nat} {ws : List Wd} (h : pOf k (hdT ws) = none) : Rd ns fin (.pmore k) ws [] ws := ⟨1, by rw [rd5, h]; rfl⟩
theorem Rd.pmoreL {k op : Nat} {ws m r : List Wd} {t u : List Tk5} (hk : k < 2) (ho : pOf k (hdT ws) = some op) (h : Rd ns fin (.pat (k + 1)) ws.tail t m) (h' : Rd ns fin (.pmore k) m u r) : Rd ns fin (.pmore k) ws (t ++ [(op, 0)] ++ u) r := by
  obtain ⟨n, h1, h2⟩ := h.two h'
  exact ⟨n + 1, by rw [rd5, ho]; simp only; rw [if_neg (by omega), h1]; simp only [andR, h2]; rfl⟩
theorem Rd.star {ws r : List Wd} {u : List Tk5} (ho : hdT ws = [42]) (h : Rd ns fin (.pmore 2) ws.tail u r) : Rd ns fin (.pmore 2) ws ((23, 0) :: u) r := by
  obtain ⟨n, h1⟩ := h
  exact ⟨n + 1, by
    have e : pOf 2 [42] = some 23 := by decide
    rw [rd5, ho, e]; simp only; rw [if_pos (by omega), h1]; rfl⟩
theorem Rd.step {ws m : List Wd} {t : List Tk5} (ho : hdT ws = [123]) (h : Rd ns fin (.lev 0) ws.tail t m) (hc : hdT m = [125]) : Rd ns fin .bar ws (t ++ [(19, 0)]) m.tail := by
  obtain ⟨n, h1⟩ := h
  exact ⟨n + 1, by unfold rd5; rw [if_pos ho, h1]; simp only [andR, hc, if_pos]; rfl⟩
theorem Rd.test {ws r : List Wd} {t : List Tk5} (ho : hdT ws = [63]) (h : Rd ns fin .una ws.tail t r) : Rd ns fin .bar ws (t ++ [(20, 0)]) r := by
  obtain ⟨n, h1⟩ := h
  exact ⟨n + 1, by unfold rd5; rw [if_neg (by rw [ho]; decide), if_pos ho, h1]; rfl⟩
theorem Rd.grp {ws m : List Wd} {t : List Tk5} (ho : hdT ws = [40]) (h : Rd ns fin (.pat 0) ws.tail t m) (hc : hdT m = [41]) : Rd ns fin .bar ws t m.tail := by
  obtain ⟨n, h1⟩ := h
  exact ⟨n + 1, by unfold rd5; rw [if_neg (by rw [ho]; decide), if_neg (by rw [ho]; decide), if_pos ho, h1]; simp only [andR, hc, if_pos]; rfl⟩
end
/-- The words l, and r behind them. -/
def Sp (ws : List Wd) (l : List Bytes) (r : List Wd) : Prop := ∃ p, ws = p ++ r ∧ p.map same2 = wdsL l
theorem Sp.cons {ws r : List Wd} {x : Bytes} {l : List Bytes} (h : Sp ws (x :: l) r) : hdT ws = x ∧ Sp ws.tail l r ∧ ∃ w, ws = w :: ws.tail ∧ w.so = (sortL x).1 ∧ w.tx.toList = x := by
  obtain ⟨p, rfl, hp⟩ := h
  cases p with
  | nil => simp at hp
  | cons w p =>
    simp [same2, wd2] at hp
    have e : w.tx.toList = x := by rw [hp.1.2, mkB_toList]
    exact ⟨e, ⟨p, rfl, hp.2⟩, w, rfl, hp.1.1, e⟩
theorem Sp.app {ws r : List Wd} {l m : List Bytes} (h : Sp ws (l ++ m) r) : ∃ q, Sp ws l q ∧ Sp q m r := by
  obtain ⟨p, rfl, hp⟩ := h
  rw [show wdsL (l ++ m) = wdsL l ++ wdsL m from List.map_append] at hp
  refine ⟨p.drop l.length ++ r, ⟨p.take l.length, by rw [← List.append_assoc, List.take_append_drop], ?_⟩, p.drop l.length, rfl, ?_⟩
  · rw [List.map_take, hp, List.take_left' (by simp)]
  · rw [List.map_drop, hp, List.drop_left' (by simp)]
theorem Sp.nil {ws r : List Wd} (h : Sp ws [] r) : ws = r := by
  obtain ⟨p, rfl, hp⟩ := h
  have : p = [] := by simpa using hp
  subst this; rfl
theorem Sp.one {ws r : List Wd} {x : Bytes} (h : Sp ws [x] r) : hdT ws = x ∧ ws.tail = r := ⟨h.cons.1, h.cons.2.1.nil⟩
/-- What may stand behind a formula that is read at level k. -/
def EndF (k : Nat) (r : List Wd) : Prop := ∀ i, k ≤ i → opOf i (hdT r) = none
def EndP (k : Nat) (r : List Wd) : Prop := ∀ i, k ≤ i → pOf i (hdT r) = none
theorem end_closer {r : List Wd} (h : Closer (hdT r)) (k : Nat) : EndF k r ∧ EndP k r := ⟨fun i _ => closer_op h i, fun i _ => closer_p h i⟩
/-- What is read of a tree's words, at each level where it may stand bare. -/
structure BackF (ns : List Bytes) (fin : Int) (t : Tr) : Prop where
  ato : strN t.root.1 = 7 → ∀ ws r, Sp ws (shW ns t) r → Rd ns fin .ato ws t.flat r
  una : 6 ≤ strN t.root.1 → ∀ ws r, Sp ws (shW ns t) r → Rd ns fin .una ws t.flat r
  lev : ∀ k, k < 5 → k + 1 ≤ strN t.root.1 → ∀ ws r, Sp ws (shW ns t) r → EndF (k + 1) r → (rightB k = true → opOf k (hdT r) = none) → ∀ u r', Rd ns fin (.more k) r u r' → Rd ns fin (.lev k) ws (t.flat ++ u) r'
structure BackP (ns : List Bytes) (fin : Int) (t : Tr) : Prop where
  bar : strN t.root.1 = 4 → ∀ ws r, Sp ws (shW ns t) r → Rd ns fin .bar ws t.flat r
  pat : ∀ k, k ≤ 2 → k + 1 ≤ strN t.root.1 → ∀ ws r, Sp ws (shW ns t) r → (∀ i, k < i → i ≤ 2 → pOf i (hdT r) = none) → ∀ u r', Rd ns fin (.pmore k) r u r' → Rd ns fin (.pat k) ws (t.flat ++ u) r'
end Go.Proofs.YtfipefbaabkdeaaGreatDoor
namespace Go.Proofs.YtfipefbaabkdeaaGreatDoor
section
variable {ns : List Bytes} {fin : Int}
theorem Rd.uniq {nt : NT} {ws r r' : List Wd} {t t' : List Tk5} (h : Rd ns fin nt ws t r) (h' : Rd ns fin nt ws t' r') : t = t' ∧ r = r' := by
  obtain ⟨n, h1, h2⟩ := h.two h'
  rw [h1] at h2
  injection h2 with h2; injection h2 with h2; injection h2 with a b
  exact ⟨a, b⟩
theorem levs {ws r : List Wd} {t : List Tk5} {j : Nat} (hj : j ≤ 5) (h : Rd ns fin (.lev j) ws t r) : ∀ d k, k + d = j → EndF k r → Rd ns fin (.lev k) ws t r
  | 0, k, hk, _ => by rw [show k = j by omega]; exact h
  | d + 1, k, hk, he => by
    have := levs hj h d (k + 1) (by omega) (fun i hi => he i (by omega))
    have := Rd.lev (by omega) this (Rd.more0 (he k (Nat.le_refl _)))
    rwa [List.append_nil] at this
theorem una_lev {ws m r : List Wd} {t u : List Tk5} {k : Nat} (hk : k < 5) (h : Rd ns fin .una ws t m) (he : EndF (k + 1) m) (h' : Rd ns fin (.more k) m u r) : Rd ns fin (.lev k) ws (t ++ u) r :=
  Rd.lev hk (levs (Nat.le_refl 5) h.lev5 (5 - (k + 1)) (k + 1) (by omega) he) h'
theorem lev_lev {ws m r : List Wd} {t u : List Tk5} {j k : Nat} (hj : j < 5) (hk : k < j) (h : Rd ns fin (.lev j) ws t m) (he : EndF (k + 1) m) (h' : Rd ns fin (.more k) m u r) : Rd ns fin (.lev k) ws (t ++ u) r :=
  Rd.lev (by omega) (levs (by omega) h (j - (k + 1)) (k + 1) (by omega) he) h'
theorem pats {ws r : List Wd} {t : List Tk5} {j : Nat} (hj : j ≤ 2) (h : Rd ns fin (.pat j) ws t r) : ∀ d k, k + d = j → (∀ i, k ≤ i → i ≤ 2 → pOf i (hdT r) = none) → Rd ns fin (.pat k) ws t r
  | 0, k, hk, _ => by rw [show k = j by omega]; exact h
  | d + 1, k, hk, he => by
    have := pats hj h d (k + 1) (by omega) (fun i hi => he i (by omega))
    have := Rd.pat (by omega) this (Rd.pmore0 (he k (Nat.le_refl _) (by omega)))
    rwa [List.append_nil] at this
theorem bar_pat {ws m r : List Wd} {t u : List Tk5} {k : Nat} (hk : k ≤ 2) (h : Rd ns fin .bar ws t m) (he : ∀ i, k < i → i ≤ 2 → pOf i (hdT m) = none) (h' : Rd ns fin (.pmore k) m u r) : Rd ns fin (.pat k) ws (t ++ u) r := by
  rcases Nat.lt_or_ge k 2 with h2 | h2
  · have h3 := Rd.pat2 h (Rd.pmore0 (he 2 (by omega) (Nat.le_refl _)))
    rw [List.append_nil] at h3
    exact Rd.pat h2 (pats (Nat.le_refl 2) h3 (2 - (k + 1)) (k + 1) (by omega) (fun i hi => he i (by omega))) h'
  · have : k = 2 := by omega
    subst this
    exact Rd.pat2 h h'
theorem pat_pat {ws m r : List Wd} {t u : List Tk5} {j k : Nat} (hj : j ≤ 2) (hk : k < j) (h : Rd ns fin (.pat j) ws t m) (he : ∀ i, k < i → i ≤ 2 → pOf i (hdT m) = none) (h' : Rd ns fin (.pmore k) m u r) : Rd ns fin (.pat k) ws (t ++ u) r :=
  Rd.pat (by omega) (pats hj h (j - (k + 1)) (k + 1) (by omega) (fun i hi => he i (by omega))) h'
/-! ### brackets -/
theorem str_pos (op : Nat) : 1 ≤ strN op := by unfold strN; split <;> (try omega); split <;> (try omega); split <;> (try omega); split <;> (try omega); split <;> (try omega); split <;> omega
theorem whole_lev {t : Tr} (h : BackF ns fin t) {ws r : List Wd} (hs : Sp ws (shW ns t) r) (he : EndF 0 r) : Rd ns fin (.lev 0) ws t.flat r := by
  have := h.lev 0 (by omega) (str_pos _) ws r hs (fun i _ => he i (Nat.zero_le _)) (fun _ => he 0 (Nat.le_refl _)) [] r (Rd.more0 (he 0 (Nat.le_refl _)))
  rwa [List.append_nil] at this
theorem whole_pat {t : Tr} (h : BackP ns fin t) {ws r : List Wd} (hs : Sp ws (shW ns t) r) (he : EndP 0 r) : Rd ns fin (.pat 0) ws t.flat r := by
  have := h.pat 0 (by omega) (str_pos _) ws r hs (fun i _ _ => he i (Nat.zero_le _)) [] r (Rd.pmore0 (he 0 (Nat.le_refl _)))
  rwa [List.append_nil] at this
theorem par_una {t : Tr} (h : BackF ns fin t) {ws r : List Wd} (hs : Sp ws ([40] :: (shW ns t ++ [[41]])) r) : Rd ns fin .una ws t.flat r := by
  obtain ⟨h1, h2, _⟩ := hs.cons
  obtain ⟨q, h3, h4⟩ := h2.app
  obtain ⟨h5, rfl⟩ := h4.one
  have hl := whole_lev h h3 (end_closer (r := q) (by rw [h5]; exact Or.inl rfl) 0).1
  exact Rd.una (by rw [h1]; decide) (by rw [h1]; decide) (Rd.paren h1 hl h5)
theorem wi_una {t : Tr} (h : BackF ns fin t) {ws r : List Wd} (hs : Sp ws (wiW (wkB t 6) (shW ns t)) r) : Rd ns fin .una ws t.flat r := by
  unfold wiW at hs
  split at hs
  · exact par_una h hs
  · next hw => exact h.una (by unfold wkB at hw; simpa using hw) ws r hs
theorem wi_lev {t : Tr} (h : BackF ns fin t) {k : Nat} (hk : k < 5) {ws r r' : List Wd} {u : List Tk5} (hs : Sp ws (wiW (wkB t (k + 1)) (shW ns t)) r) (he : EndF (k + 1) r) (hr : rightB k = true → opOf k (hdT r) = none) (h' : Rd ns fin (.more k) r u r') : Rd ns fin (.lev k) ws (t.flat ++ u) r' := by
  unfold wiW at hs
  split at hs
  · exact una_lev hk (par_una h hs) he h'
  · next hw => exact h.lev k hk (by unfold wkB at hw; simp at hw; omega) ws r hs he hr u r' h'
theorem wi_pat {t : Tr} (h : BackP ns fin t) {k : Nat} (hk : k ≤ 2) {ws r r' : List Wd} {u : List Tk5} (hs : Sp ws (wiW (wkB t (k + 1)) (shW ns t)) r) (he : ∀ i, k < i → i ≤ 2 → pOf i (hdT r) = none) (h' : Rd ns fin (.pmore k) r u r') : Rd ns fin (.pat k) ws (t.flat ++ u) r' := by
  unfold wiW at hs
  split at hs
  · obtain ⟨h1, h2, _⟩ := hs.cons
    obtain ⟨q, h3, h4⟩ := h2.app
    obtain ⟨h5, rfl⟩ := h4.one
    have hl := whole_pat h h3 (end_closer (r := q) (by rw [h5]; exact Or.inl rfl) 0).2
    exact bar_pat hk (Rd.grp h1 hl h5) he h'
  · next hw => exact h.pat k hk (by unfold wkB at hw; simp at hw; omega) ws r hs he u r' h'
/-! ### a level's own operator -/
theorem BackF.of_una {t : Tr} (hs : strN t.root.1 = 6) (h : ∀ ws r, Sp ws (shW ns t) r → Rd ns fin .una ws t.flat r) : BackF ns fin t :=
  ⟨fun e => by omega, fun _ => h, fun _ hk _ ws r hsp he _ _ _ h' => una_lev hk (h ws r hsp) he h'⟩
theorem BackF.of_ato {t : Tr} (h : ∀ ws r, Sp ws (shW ns t) r → Rd ns fin .ato ws t.flat r) (hd : ∀ ws r, Sp ws (shW ns t) r → unOf (hdT ws) = none ∧ mdOf (hdT ws) = none) : BackF ns fin t :=
  have hu : ∀ ws r, Sp ws (shW ns t) r → Rd ns fin .una ws t.flat r := fun ws r hsp => Rd.una (hd ws r hsp).1 (hd ws r hsp).2 (h ws r hsp)
  ⟨fun _ => h, fun _ => hu, fun _ hk _ ws r hsp he _ _ _ h' => una_lev hk (hu ws r hsp) he h'⟩
theorem BackF.of_lev {t : Tr} {j : Nat} (hj : j < 5) (hs : strN t.root.1 = j + 1) (h : ∀ ws r, Sp ws (shW ns t) r → EndF (j + 1) r → (rightB j = true → opOf j (hdT r) = none) → ∀ u r', Rd ns fin (.more j) r u r' → Rd ns fin (.lev j) ws (t.flat ++ u) r') : BackF ns fin t :=
  ⟨fun e => by omega, fun e => by omega, fun k hk hk2 ws r hsp he hr u r' h' => by
    rcases Nat.lt_or_ge k j with hl | hl
    · have hend : opOf j (hdT r) = none := he j (by omega)
      have h0 := h ws r hsp (fun i hi => he i (by omega)) (fun _ => hend) [] r (Rd.more0 hend)
      rw [List.append_nil] at h0
      exact lev_lev hj hl h0 he h'
    · have : k = j := by omega
      subst this
      exact h ws r hsp he hr u r' h'⟩
theorem BackP.of_bar {t : Tr} (h : ∀ ws r, Sp ws (shW ns t) r → Rd ns fin .bar ws t.flat r) : BackP ns fin t :=
  ⟨fun _ => h, fun _ hk _ ws r hsp he _ _ h' => bar_pat hk (h ws r hsp) he h'⟩
theorem BackP.of_pat {t : Tr} {j : Nat} (hj : j ≤ 2) (hs : strN t.root.1 = j + 1) (h : ∀ ws r, Sp ws (shW ns t) r → (∀ i, j < i → i ≤ 2 → pOf i (hdT r) = none) → ∀ u r', Rd ns fin (.pmore j) r u r' → Rd ns fin (.pat j) ws (t.flat ++ u) r') : BackP ns fin t :=
  ⟨fun e => by omega, fun k hk hk2 ws r hsp he u r' h' => by
    rcases Nat.lt_or_ge k j with hl | hl
    · have hend : pOf j (hdT r) = none := he j hl hj
      have h0 := h ws r hsp (fun i hi => he i (by omega)) [] r (Rd.pmore0 hend)
      rw [List.append_nil] at h0
      exact pat_pat hj hl h0 he h'
    · have : k = j := by omega
      subst this
      exact h ws r hsp he u r' h'⟩
theorem back_left {c d : Tr} {op j : Nat} (hj : j < 4) (hs : strN op = j + 1) (hl : rightO op = false) (hr : rightB j = false) (ho : opOf j (binW op) = some op) (hn : ∀ i, j + 1 ≤ i → opOf i (binW op) = none) (h17 : op ≠ 17) (h18 : op ≠ 18) (hc : BackF ns fin c) (hd : BackF ns fin d) : BackF ns fin (.bin (op, 0) c d) := by
  refine BackF.of_lev (j := j) (by omega) hs ?_
  intro ws r hsp he _ u r' h'
  simp only [shW, if_neg h17, if_neg h18, leastA, leastB, hl, hs] at hsp
  obtain ⟨q, h1, h2⟩ := hsp.app
  obtain ⟨h3, h4, _⟩ := h2.cons
  have hq := wi_lev hd (k := j + 1) (by omega) h4 (fun i hi => he i (by omega)) (fun _ => he (j + 1) (Nat.le_refl _)) (Rd.more0 (he (j + 1) (Nat.le_refl _)))
  rw [List.append_nil] at hq
  have hm := Rd.moreL (ws := q) (by rw [h3]; exact ho) hr hq h'
  have := wi_lev hc (k := j) (by omega) h1 (fun i hi => by rw [h3]; exact hn i hi) (fun e => by rw [hr] at e; cases e) hm
  simpa [Tr.flat] using this
theorem back_right {c d : Tr} {op j : Nat} (hj : j < 5) (hs : strN op = j + 1) (hl : rightO op = true) (hr : rightB j = true) (ho : opOf j (binW op) = some op) (hn : ∀ i, j + 1 ≤ i → opOf i (binW op) = none) (h17 : op ≠ 17) (h18 : op ≠ 18) (hc : BackF ns fin c) (hd : BackF ns fin d) : BackF ns fin (.bin (op, 0) c d) := by
  refine BackF.of_lev (j := j) hj hs ?_
  intro ws r hsp he hro u r' h'
  have hend := hro hr
  obtain ⟨rfl, rfl⟩ := Rd.uniq (Rd.more0 (ns := ns) (fin := fin) hend) h'
  simp only [shW, if_neg h17, if_neg h18, leastA, leastB, hl, hs] at hsp
  obtain ⟨q, h1, h2⟩ := hsp.app
  obtain ⟨h3, h4, _⟩ := h2.cons
  have hq := wi_lev hd (k := j) hj h4 he (fun _ => hend) (Rd.more0 hend)
  rw [List.append_nil] at hq
  have hm := Rd.moreR (ws := q) (by rw [h3]; exact ho) hr hq
  have hcl : Rd ns fin (.lev (j + 1)) ws c.flat q := by
    rcases Nat.lt_or_ge (j + 1) 5 with h5 | h5
    · have hnq : opOf (j + 1) (hdT q) = none := by rw [h3]; exact hn _ (Nat.le_refl _)
      have := wi_lev hc (k := j + 1) h5 h1 (fun i hi => by rw [h3]; exact hn i (by omega)) (fun _ => hnq) (Rd.more0 hnq)
      rwa [List.append_nil] at this
    · have e : j = 4 := by omega
      subst e
      exact (wi_una hc h1).lev5
  have := Rd.lev hj hcl hm
  simpa [Tr.flat] using this
theorem back_pleft {c d : Tr} {op j : Nat} (hj : j < 2) (hs : strN op = j + 1) (hl : rightO op = false) (ho : pOf j (binW op) = some op) (hn : ∀ i, j < i → i ≤ 2 → pOf i (binW op) = none) (h17 : op ≠ 17) (h18 : op ≠ 18) (hc : BackP ns fin c) (hd : BackP ns fin d) : BackP ns fin (.bin (op, 0) c d) := by
  refine BackP.of_pat (j := j) (by omega) hs ?_
  intro ws r hsp he u r' h'
  simp only [shW, if_neg h17, if_neg h18, leastA, leastB, hl, hs] at hsp
  obtain ⟨q, h1, h2⟩ := hsp.app
  obtain ⟨h3, h4, _⟩ := h2.cons
  have hq := wi_pat hd (k := j + 1) (by omega) h4 (fun i hi => he i (by omega)) (Rd.pmore0 (he (j + 1) (by omega) (by omega)))
  rw [List.append_nil] at hq
  have hm := Rd.pmoreL (ws := q) hj (by rw [h3]; exact ho) hq h'
  have := wi_pat hc (k := j) (by omega) h1 (fun i hi hi2 => by rw [h3]; exact hn i hi hi2) hm
  simpa [Tr.flat] using this
theorem back_un {c : Tr} {op : Nat} (hs : strN op = 6) (hu : unOf (unW op) = some op) (h19 : op ≠ 19) (h23 : op ≠ 23) (hc : BackF ns fin c) : BackF ns fin (.un (op, 0) c) := by
  refine BackF.of_una hs ?_
  intro ws r hsp
  simp only [shW, if_neg h19, if_neg h23] at hsp
  obtain ⟨h1, h2, _⟩ := hsp.cons
  exact Rd.un (by rw [h1]; exact hu) (wi_una hc h2)
theorem back_md {c d : Tr} {op : Nat} {a b : Bytes} (hop : op = 17 ∧ a = [60] ∧ b = [62] ∨ op = 18 ∧ a = [91] ∧ b = [93]) (hc : BackP ns fin c) (hd : BackF ns fin d) : BackF ns fin (.bin (op, 0) c d) := by
  have key : ∀ ws r, Sp ws (a :: (shW ns c ++ b :: wiW (wkB d 6) (shW ns d))) r → unOf a = none → mdOf a = some (b, op) → Closer b → Rd ns fin .una ws (c.flat ++ d.flat ++ [(op, 0)]) r := by
    intro ws r hsp hu hm hb
    obtain ⟨h1, h2, _⟩ := hsp.cons
    obtain ⟨q, h3, h4⟩ := h2.app
    obtain ⟨h5, h6, _⟩ := h4.cons
    exact Rd.md (by rw [h1]; exact hu) (by rw [h1]; exact hm) (whole_pat hc h3 (end_closer (r := q) (by rw [h5]; exact hb) 0).2) h5 (wi_una hd h6)
  rcases hop with ⟨rfl, rfl, rfl⟩ | ⟨rfl, rfl, rfl⟩
  · exact BackF.of_una rfl fun ws r hsp => key ws r hsp rfl rfl (by simp [Closer])
  · exact BackF.of_una rfl fun ws r hsp => key ws r hsp rfl rfl (by simp [Closer])
theorem op_no (op i j : Nat) (hi : j + 1 ≤ i) (h : (op = 14 ∧ j = 0) ∨ (op = 13 ∧ j = 1) ∨ (op = 12 ∧ j = 2) ∨ (op = 11 ∧ j = 3) ∨ (op = 15 ∧ j = 4) ∨ (op = 16 ∧ j = 4)) : opOf i (binW op) = none := by
  rcases h with ⟨rfl, rfl⟩ | ⟨rfl, rfl⟩ | ⟨rfl, rfl⟩ | ⟨rfl, rfl⟩ | ⟨rfl, rfl⟩ | ⟨rfl, rfl⟩ <;> simp [opOf, binW] <;> omega
theorem p_no (i : Nat) (h : 0 < i) (h2 : i ≤ 2) : pOf i (binW 21) = none := by
  have : i = 1 ∨ i = 2 := by omega
  rcases this with rfl | rfl <;> rfl
theorem p_no2 (i : Nat) (h : 1 < i) (h2 : i ≤ 2) : pOf i (binW 22) = none := by
  have : i = 2 := by omega
  subst this; rfl
/-- Of every tree. -/
theorem back_all (hns : ∀ x ∈ ns, nameL x = true) (hnd : ns.Nodup) : ∀ t : Tr, t.WF → Shw ns t → (isP t = false → BackF ns fin t) ∧ (isP t = true → BackP ns fin t)
  | .leaf t, h, hs => by
    rcases leaf_ops h hs with rfl | rfl | rfl | ⟨h2, hp⟩
    · refine ⟨fun _ => BackF.of_ato (fun ws r hsp => ?_) (fun ws r hsp => ?_), fun e => by cases e⟩
      · obtain ⟨h1, rfl⟩ := hsp.one; exact Rd.at (by rw [h1]; rfl)
      · obtain ⟨h1, _⟩ := hsp.one; rw [h1]; exact ⟨rfl, rfl⟩
    · refine ⟨fun _ => BackF.of_ato (fun ws r hsp => ?_) (fun ws r hsp => ?_), fun e => by cases e⟩
      · obtain ⟨h1, rfl⟩ := hsp.one; exact Rd.at (by rw [h1]; rfl)
      · obtain ⟨h1, _⟩ := hsp.one; rw [h1]; exact ⟨rfl, rfl⟩
    · refine ⟨fun _ => BackF.of_ato (fun ws r hsp => ?_) (fun ws r hsp => ?_), fun e => by cases e⟩
      · obtain ⟨h1, rfl⟩ := hsp.one; exact Rd.at (by rw [h1]; rfl)
      · obtain ⟨h1, _⟩ := hsp.one; rw [h1]; exact ⟨rfl, rfl⟩
    · have e : leafT ns t = ns[t.2] := by simp [leafT, h2, List.getD_eq_getElem?_getD, hp]
      have hw := name_word (hns _ (List.getElem_mem hp))
      have hx : shW ns (.leaf t) = [ns[t.2]] := by simp only [shW, e]
      refine ⟨fun _ => BackF.of_ato (fun ws r hsp => ?_) (fun ws r hsp => ?_), fun e => ?_⟩
      · rw [hx] at hsp
        obtain ⟨_, hr⟩ := hsp.one
        obtain ⟨_, _, w, hw1, hw2, hw3⟩ := hsp.cons
        rw [hr] at hw1
        rw [hw1]
        have h3 := Rd.name (ns := ns) (fin := fin) (w := w) (r := r) (by rw [hw2, hw.2.2.1]) (by rw [hw3]; exact hw.2.2.2.1) (by rw [hw3]; exact hw.2.2.2.2.1) (by rw [hw3]; exact List.getElem_mem hp)
        rw [hw3, idx_name hnd hp] at h3
        obtain ⟨a, b⟩ := t
        simp only at h2
        subst h2
        exact h3
      · rw [hx] at hsp
        obtain ⟨h1, _⟩ := hsp.one; rw [h1]; exact ⟨hw.2.2.2.2.2.1, hw.2.2.2.2.2.2.1⟩
      · have : 19 ≤ t.1 := of_decide_eq_true e
        omega
  | .un t c, h, hs => by
    obtain ⟨ihF, ihP⟩ := back_all hns hnd c h.2.2 hs.un.1
    obtain ⟨h0, hop⟩ := un_ops h
    obtain ⟨op, p⟩ := t
    simp only at h0 hop
    subst h0
    have hf := h.2.1
    unfold fitsP at hf
    rcases hop with rfl | rfl | rfl | rfl | rfl | rfl | rfl | rfl
    · simp [part_path] at hf
      exact ⟨fun _ => back_un rfl rfl (by decide) (by decide) (ihF hf), fun e => by cases e⟩
    · simp [part_path] at hf
      exact ⟨fun _ => back_un rfl rfl (by decide) (by decide) (ihF hf), fun e => by cases e⟩
    · simp [part_path] at hf
      exact ⟨fun _ => back_un rfl rfl (by decide) (by decide) (ihF hf), fun e => by cases e⟩
    · simp [part_path] at hf
      exact ⟨fun _ => back_un rfl rfl (by decide) (by decide) (ihF hf), fun e => by cases e⟩
    · simp [part_path] at hf
      exact ⟨fun _ => back_un rfl rfl (by decide) (by decide) (ihF hf), fun e => by cases e⟩
    · simp [part_path] at hf
      have hc := ihF hf.1
      refine ⟨fun e => (by cases e), fun _ => BackP.of_bar fun ws r hsp => ?_⟩
      have hsp : Sp ws ([123] :: (shW ns c ++ [[125]])) r := hsp
      obtain ⟨h1, h2, _⟩ := hsp.cons
      obtain ⟨q, h3, h4⟩ := h2.app
      obtain ⟨h5, rfl⟩ := h4.one
      exact Rd.step h1 (whole_lev hc h3 (end_closer (r := q) (by rw [h5]; simp [Closer]) 0).1) h5
    · simp [part_path] at hf
      have hc := ihF hf
      refine ⟨fun e => (by cases e), fun _ => BackP.of_bar fun ws r hsp => ?_⟩
      have hsp : Sp ws ([63] :: wiW (wkB c 6) (shW ns c)) r := hsp
      obtain ⟨h1, h2, _⟩ := hsp.cons
      exact Rd.test h1 (wi_una hc h2)
    · simp [part_path] at hf
      have hc := ihP hf
      refine ⟨fun e => (by cases e), fun _ => BackP.of_pat (j := 2) (Nat.le_refl _) rfl fun ws r hsp _ u r' h' => ?_⟩
      have hsp : Sp ws (wiW (wkB c 3) (shW ns c) ++ [[42]]) r := hsp
      obtain ⟨q, h1, h2⟩ := hsp.app
      obtain ⟨h3, rfl⟩ := h2.one
      have := wi_pat hc (k := 2) (Nat.le_refl _) h1 (fun i hi hi2 => by omega) (Rd.star h3 h')
      simpa [Tr.flat] using this
  | .bin t c d, h, hs => by
    obtain ⟨icF, icP⟩ := back_all hns hnd c h.2.2.1 hs.bin.1
    obtain ⟨idF, idP⟩ := back_all hns hnd d h.2.2.2 hs.bin.2.1
    obtain ⟨h0, hop⟩ := bin_ops h
    obtain ⟨op, p⟩ := t
    simp only at h0 hop
    subst h0
    have hf := h.2.1
    unfold fitsP at hf
    have hc : op = 11 ∨ op = 12 ∨ op = 13 ∨ op = 14 ∨ op = 15 ∨ op = 16 ∨ op = 17 ∨ op = 18 ∨ op = 21 ∨ op = 22 := by omega
    rcases hc with rfl | rfl | rfl | rfl | rfl | rfl | rfl | rfl | rfl | rfl
    · simp [part_path] at hf
      exact ⟨fun _ => back_left (j := 3) (by omega) rfl rfl rfl rfl (fun i hi => op_no 11 i 3 hi (by omega)) (by decide) (by decide) (icF hf.1) (idF hf.2), fun e => by cases e⟩
    · simp [part_path] at hf
      exact ⟨fun _ => back_left (j := 2) (by omega) rfl rfl rfl rfl (fun i hi => op_no 12 i 2 hi (by omega)) (by decide) (by decide) (icF hf.1) (idF hf.2), fun e => by cases e⟩
    · simp [part_path] at hf
      exact ⟨fun _ => back_right (j := 1) (by omega) rfl rfl rfl rfl (fun i hi => op_no 13 i 1 hi (by omega)) (by decide) (by decide) (icF hf.1) (idF hf.2), fun e => by cases e⟩
    · simp [part_path] at hf
      exact ⟨fun _ => back_left (j := 0) (by omega) rfl rfl rfl rfl (fun i hi => op_no 14 i 0 hi (by omega)) (by decide) (by decide) (icF hf.1) (idF hf.2), fun e => by cases e⟩
    · simp [part_path] at hf
      exact ⟨fun _ => back_right (j := 4) (by omega) rfl rfl rfl rfl (fun i hi => op_no 15 i 4 hi (by omega)) (by decide) (by decide) (icF hf.1) (idF hf.2), fun e => by cases e⟩
    · simp [part_path] at hf
      exact ⟨fun _ => back_right (j := 4) (by omega) rfl rfl rfl rfl (fun i hi => op_no 16 i 4 hi (by omega)) (by decide) (by decide) (icF hf.1) (idF hf.2), fun e => by cases e⟩
    · simp [part_path] at hf
      exact ⟨fun _ => back_md (Or.inl ⟨rfl, rfl, rfl⟩) (icP hf.1) (idF hf.2), fun e => by cases e⟩
    · simp [part_path] at hf
      exact ⟨fun _ => back_md (Or.inr ⟨rfl, rfl, rfl⟩) (icP hf.1) (idF hf.2), fun e => by cases e⟩
    · simp [part_path] at hf
      exact ⟨fun e => (by cases e), fun _ => back_pleft (j := 0) (by omega) rfl rfl rfl (fun i hi hi2 => p_no i hi hi2) (by decide) (by decide) (icP hf.1) (idP hf.2)⟩
    · simp [part_path] at hf
      exact ⟨fun e => (by cases e), fun _ => back_pleft (j := 1) (by omega) rfl rfl rfl (fun i hi hi2 => p_no2 i hi hi2) (by decide) (by decide) (icP hf.1) (idP hf.2)⟩
end
end Go.Proofs.YtfipefbaabkdeaaGreatDoor
namespace Go.Proofs.YtfipefbaabkdeaaGreatDoor

/-- A text, how strong it is. -/
abbrev Tx := Bytes × Nat
def wiX (x : Tx) (least : Nat) : Bytes := wiT (decide (x.2 < least)) x.1
/-- The text of a token and what it takes. -/
def putT (ns : List Bytes) (op p : Nat) (a : List Tx) : Bytes :=
  match a with
  | [] => leafT ns (op, p)
  | [x] => if op = 19 then 123 :: (x.1 ++ [125]) else if op = 23 then wiX x 3 ++ [42] else unW op ++ (gapB op ++ wiX x 6)
  | x :: y :: _ =>
    if op = 17 then 60 :: (x.1 ++ 62 :: 32 :: wiX y 6)
    else if op = 18 then 91 :: (x.1 ++ 93 :: 32 :: wiX y 6)
    else wiX x (leastA op) ++ 32 :: (binW op ++ 32 :: wiX y (leastB op))
def takesC (t : Tk) : Nat := (takesN t).getD 0
def stepS (ns : List Bytes) (st : List Tx) (t : Tk) : List Tx := st.take (st.length - takesC t) ++ [(putT ns t.1 t.2 (st.drop (st.length - takesC t)), strN t.1)]
def stS (ns : List Bytes) (ts : List Tk) (st : List Tx) : List Tx := ts.foldl (stepS ns) st
theorem stS_app (ns : List Bytes) (a b : List Tk) (st : List Tx) : stS ns (a ++ b) st = stS ns b (stS ns a st) := by unfold stS; rw [List.foldl_append]
theorem stS_flat (ns : List Bytes) : ∀ (t : Tr), t.WF → ∀ st, stS ns t.flat st = st ++ [(shT ns t, strN t.root.1)]
  | .leaf t, h, st => by
    have h0 : takesC t = 0 := by unfold takesC; rw [h.1]; rfl
    simp [Tr.flat, stS, stepS, h0, putT, shT, Tr.root]
  | .un t c, h, st => by
    have h0 : takesC t = 1 := by unfold takesC; rw [h.1]; rfl
    have ih := stS_flat ns c h.2.2 st
    rw [Tr.flat, stS_app, ih]
    have e1 : (st ++ [(shT ns c, strN c.root.1)]).length - 1 = st.length := by simp
    have e2 : (st ++ [(shT ns c, strN c.root.1)]).take st.length = st := by simp
    have e3 : (st ++ [(shT ns c, strN c.root.1)]).drop st.length = [(shT ns c, strN c.root.1)] := by simp
    simp only [stS, List.foldl_cons, List.foldl_nil, stepS, h0, e1, e2, e3]
    rfl
  | .bin t c d, h, st => by
    have h0 : takesC t = 2 := by unfold takesC; rw [h.1]; rfl
    have ih := stS_flat ns c h.2.2.1 st
    have ih2 := stS_flat ns d h.2.2.2 (st ++ [(shT ns c, strN c.root.1)])
    rw [Tr.flat, stS_app, stS_app, ih, ih2]
    have e1 : (st ++ [(shT ns c, strN c.root.1)] ++ [(shT ns d, strN d.root.1)]).length - 2 = st.length := by simp
    have e2 : (st ++ [(shT ns c, strN c.root.1)] ++ [(shT ns d, strN d.root.1)]).take st.length = st := by simp
    have e3 : (st ++ [(shT ns c, strN c.root.1)] ++ [(shT ns d, strN d.root.1)]).drop st.length = [(shT ns c, strN c.root.1), (shT ns d, strN d.root.1)] := by simp
    simp only [stS, List.foldl_cons, List.foldl_nil, stepS, h0, e1, e2, e3]
    rfl
/-- The text of tokens. -/
def textL (ns : List Bytes) (ts : List Tk) : Bytes := match stS ns ts [] with | x :: _ => x.1 | [] => []
theorem textL_flat (ns : List Bytes) {t : Tr} (h : t.WF) : textL ns t.flat = shT ns t := by unfold textL; rw [stS_flat ns t h]; rfl
def odd4 (t : Tk) : Bool := decide (t.1 = 4) || decide (t.1 = 5)
def far2 (ns : List Bytes) (t : Tk) : Bool := decide (t.1 = 2) && decide (ns.length ≤ t.2)
/-- What Formula (want 1) and Path (want 3) answer: the text, the error. -/
def tellL (ns : List Bytes) (ts : List Tk) (want : Nat) : Bytes × Int :=
  if checkE ns ≠ 0 then ([], checkE ns)
  else if lookE ts want ≠ 0 then ([], (lookE ts want : Int))
  else if ts.any odd4 then ([], 160)
  else if ts.any (far2 ns) then ([], 2)
  else if 4096 < (textL ns ts).length then ([], 3)
  else (textL ns ts, 0)
theorem tell_ok {ns : List Bytes} {ts : List Tk} {want : Nat} (h : (tellL ns ts want).2 = 0) (hw : want = 1 ∨ want = 3) :
    checkE ns = 0 ∧ lookE ts want = 0 ∧ ∃ t : Tr, t.WF ∧ ts = t.flat ∧ Shw ns t ∧ isP t = decide (want = 3) ∧ (shT ns t).length ≤ 4096 ∧ tellL ns ts want = (shT ns t, 0) := by
  unfold tellL at h ⊢
  split at h
  · next hc => exact absurd h hc
  · next hc =>
    split at h
    · next hl => exact absurd (by simpa using h) hl
    · next hl =>
      split at h
      · cases h
      · next ho =>
        split at h
        · cases h
        · next hf =>
          split at h
          · cases h
          · next hn =>
            have hc' : checkE ns = 0 := by simpa using hc
            have hl' : lookE ts want = 0 := by simpa using hl
            obtain ⟨_, t, ht, rfl, hk, _⟩ := lookE_zero.1 hl'
            rw [textL_flat ns ht] at hn
            refine ⟨hc', hl', t, ht, rfl, ?_, ?_, by omega, ?_⟩
            · intro z hz
              have h1 : odd4 z = false := by
                cases hb : odd4 z with
                | false => rfl
                | true => exact absurd (List.any_eq_true.2 ⟨z, hz, hb⟩) ho
              have h2 : far2 ns z = false := by
                cases hb : far2 ns z with
                | false => rfl
                | true => exact absurd (List.any_eq_true.2 ⟨z, hz, hb⟩) hf
              unfold odd4 at h1
              unfold far2 at h2
              simp at h1 h2
              exact ⟨h1.1, h1.2, fun e => by have := h2 e; omega⟩
            · rw [← part_path t 0]
              rcases hw with rfl | rfl
              · rw [kind_formula] at hk; simpa using hk
              · rw [kind_path] at hk; simpa using hk
            · rw [if_neg hc, if_neg hl, if_neg ho, if_neg hf, textL_flat ns ht, if_neg hn]
/-- Read again. -/
theorem show_back {ns : List Bytes} {ts : List Tk} {want : Nat} (h : (tellL ns ts want).2 = 0) (hw : want = 1 ∨ want = 3) : form5 ns (tellL ns ts want).1 (if want = 1 then .lev 0 else .pat 0) want = (ts, 0, 0) := by
  obtain ⟨hc, hl, t, ht, rfl, hs, hp, hn, he⟩ := tell_ok h hw
  rw [he]
  have hns := check_names hc
  obtain ⟨ws, hws, hm⟩ := lex_sh hns t ht hs
  have hsp : Sp ws (shW ns t) [] := ⟨ws, by simp, hm⟩
  have hb := back_all (fin := (shT ns t).length) hns (check_nodup hc) t ht hs
  have hwh : whole5 ns (shT ns t).length (if want = 1 then .lev 0 else .pat 0) ws = .ok t.flat := by
    rcases hw with rfl | rfl
    · exact whole_ok.2 (whole_lev (hb.1 hp) hsp (fun i _ => nil_op i))
    · exact whole_ok.2 (whole_pat (hb.2 hp) hsp (fun i _ => nil_p i))
  rw [form_of hc hn hws hwh, if_neg (by simp [hl])]
end Go.Proofs.YtfipefbaabkdeaaGreatDoor
namespace Go.Proofs.YtfipefbaabkdeaaGreatDoor

/-- How many brackets open. -/
def nb (ws : List Wd) : Nat := ws.countP fun w => w.tx.toList == [40]
def wkN (t : Tr) (least : Nat) : Nat := if strN t.root.1 < least then 1 else 0
def br : Tr → Nat
  | .leaf _ => 0
  | .un t c => br c + if t.1 = 19 then 0 else if t.1 = 23 then wkN c 3 else wkN c 6
  | .bin t c d => if t.1 = 17 ∨ t.1 = 18 then br c + br d + wkN d 6 else br c + wkN c (leastA t.1) + (br d + wkN d (leastB t.1))
def mb (t : Tr) (least : Nat) : Nat := br t + wkN t least
theorem mb_mono (t : Tr) {a b : Nat} (h : a ≤ b) : mb t a ≤ mb t b := by unfold mb wkN; split <;> split <;> omega
theorem mb_own {t : Tr} {a : Nat} (h : a ≤ strN t.root.1) : mb t a = br t := by unfold mb wkN; rw [if_neg (by omega)]; rfl
theorem mb_le (t : Tr) (a : Nat) : mb t a ≤ br t + 1 := by unfold mb wkN; split <;> omega
/-- Each token takes as many parts as it has. -/
def Ar : Tr → Prop
  | .leaf t => takesC t = 0
  | .un t c => takesC t = 1 ∧ Ar c
  | .bin t c d => takesC t = 2 ∧ Ar c ∧ Ar d
theorem ar_wf : ∀ {t : Tr}, t.WF → Ar t
  | .leaf t, h => by show takesC t = 0; unfold takesC; rw [h.1]; rfl
  | .un t c, h => ⟨by unfold takesC; rw [h.1]; rfl, ar_wf h.2.2⟩
  | .bin t c d, h => ⟨by unfold takesC; rw [h.1]; rfl, ar_wf h.2.2.1, ar_wf h.2.2.2⟩
theorem stS_ar (ns : List Bytes) : ∀ (t : Tr), Ar t → ∀ st, stS ns t.flat st = st ++ [(shT ns t, strN t.root.1)]
  | .leaf t, h, st => by
    have h0 : takesC t = 0 := h
    simp [Tr.flat, stS, stepS, h0, putT, shT, Tr.root]
  | .un t c, h, st => by
    have h0 := h.1
    have ih := stS_ar ns c h.2 st
    rw [Tr.flat, stS_app, ih]
    have e1 : (st ++ [(shT ns c, strN c.root.1)]).length - 1 = st.length := by simp
    have e2 : (st ++ [(shT ns c, strN c.root.1)]).take st.length = st := by simp
    have e3 : (st ++ [(shT ns c, strN c.root.1)]).drop st.length = [(shT ns c, strN c.root.1)] := by simp
    simp only [stS, List.foldl_cons, List.foldl_nil, stepS, h0, e1, e2, e3]
    rfl
  | .bin t c d, h, st => by
    have h0 := h.1
    have ih := stS_ar ns c h.2.1 st
    have ih2 := stS_ar ns d h.2.2 (st ++ [(shT ns c, strN c.root.1)])
    rw [Tr.flat, stS_app, stS_app, ih, ih2]
    have e1 : (st ++ [(shT ns c, strN c.root.1)] ++ [(shT ns d, strN d.root.1)]).length - 2 = st.length := by simp
    have e2 : (st ++ [(shT ns c, strN c.root.1)] ++ [(shT ns d, strN d.root.1)]).take st.length = st := by simp
    have e3 : (st ++ [(shT ns c, strN c.root.1)] ++ [(shT ns d, strN d.root.1)]).drop st.length = [(shT ns c, strN c.root.1), (shT ns d, strN d.root.1)] := by simp
    simp only [stS, List.foldl_cons, List.foldl_nil, stepS, h0, e1, e2, e3]
    rfl
theorem sh_same (ns : List Bytes) {s t : Tr} (hs : Ar s) (ht : Ar t) (h : s.flat = t.flat) : shT ns s = shT ns t := by
  have h1 := stS_ar ns s hs []
  have h2 := stS_ar ns t ht []
  rw [h, h2] at h1
  simp at h1
  exact h1.1.symm
/-! ### brackets of a text -/
theorem cnt_wi (b : Bool) (s : Bytes) : (wiT b s).count 40 = s.count 40 + if b then 1 else 0 := by
  cases b <;> simp [wiT, List.count_append]
theorem cnt_name {ns : List Bytes} (hns : ∀ x ∈ ns, nameL x = true) (t : Tk) : (leafT ns t).count 40 = 0 := by
  unfold leafT
  split
  · decide
  · split
    · decide
    · split
      · decide
      · rw [List.count_eq_zero]
        rw [List.getD_eq_getElem?_getD]
        cases h : ns[t.2]? with
        | none => simp
        | some x =>
          have hx := hns x (List.mem_of_getElem? h)
          intro h40
          have := List.all_eq_true.1 (name_word hx).2.1 40 (by simpa using h40)
          simp [plnB, plnN] at this
theorem cnt_un (op : Nat) : (unW op ++ gapB op).count 40 = 0 := by
  unfold unW gapB
  split <;> (try (split <;> decide))
  split <;> (try (split <;> decide))
  split <;> (try (split <;> decide))
  split <;> (try (split <;> decide))
  split <;> (try (split <;> decide))
theorem cnt_bin (op : Nat) : (binW op).count 40 = 0 := by
  unfold binW
  split
  · decide
  split
  · decide
  split
  · decide
  split
  · decide
  split
  · decide
  split
  · decide
  split <;> decide
theorem wk_eq (t : Tr) (l : Nat) : (if wkB t l = true then 1 else 0) = wkN t l := by unfold wkB wkN; simp
theorem cnt_sh {ns : List Bytes} (hns : ∀ x ∈ ns, nameL x = true) : ∀ t : Tr, (shT ns t).count 40 = br t
  | .leaf t => cnt_name hns t
  | .un t c => by
    have ih := cnt_sh hns c
    have h1 := cnt_un t.1
    rw [List.count_append] at h1
    simp only [shT, br]
    split
    · simp [List.count_append, ih]
    · split
      · rw [List.count_append, cnt_wi, ih, wk_eq]; simp
      · rw [List.count_append, List.count_append, cnt_wi, ih, wk_eq]; omega
  | .bin t c d => by
    have ihc := cnt_sh hns c
    have ihd := cnt_sh hns d
    simp only [shT, br]
    by_cases h17 : t.1 = 17
    · simp [h17, List.count_append, cnt_wi, ihc, ihd, wk_eq]; omega
    · by_cases h18 : t.1 = 18
      · simp [h18, List.count_append, cnt_wi, ihc, ihd, wk_eq]; omega
      · simp [h17, h18, List.count_append, cnt_wi, ihc, ihd, wk_eq, cnt_bin]
theorem nb_words : ∀ (n p : Nat) (s : Bytes) (ws : List Wd), wgo n p s = .ok ws → nb ws ≤ s.count 40 := by
  intro n
  induction n with
  | zero => intro p s ws h; unfold wgo at h; injection h with h; subst h; simp [nb]
  | succ n ih =>
    intro p s ws h
    cases s with
    | nil => unfold wgo at h; injection h with h; subst h; simp [nb]
    | cons b r =>
      unfold wgo at h
      split at h
      · have := ih _ _ _ h
        rw [List.count_cons]; omega
      · split at h
        · cases h
        · next hb hf =>
          split at h
          · next l hl =>
            injection h with h
            subst h
            have h1 := ih _ _ _ hl
            have h2 : b :: r = firstL (b :: r) ++ (b :: r).drop (firstL (b :: r)).length := by
              conv => lhs; rw [← List.take_append_drop (firstL (b :: r)).length (b :: r)]
              rw [← first_pre]
            generalize firstL (b :: r) = x at *
            generalize (b :: r).drop x.length = y at *
            rw [h2, List.count_append]
            unfold nb at h1 ⊢
            rw [List.countP_cons]
            by_cases hx : x = [40]
            · subst hx; simp [mkB_toList]; omega
            · have : ((mkB x).toList == [40]) = false := by rw [mkB_toList]; simpa using hx
              simp only [this]; simp; omega
          · cases h
end Go.Proofs.YtfipefbaabkdeaaGreatDoor
namespace Go.Proofs.YtfipefbaabkdeaaGreatDoor

theorem nb_tail (ws : List Wd) : nb ws.tail ≤ nb ws := by
  cases ws with
  | nil => exact Nat.le_refl _
  | cons w r => unfold nb; rw [List.tail_cons, List.countP_cons]; omega
theorem nb_open {ws : List Wd} (h : hdT ws = [40]) : nb ws.tail + 1 = nb ws := by
  cases ws with
  | nil => cases h
  | cons w r =>
    have h : w.tx.toList = [40] := h
    unfold nb; rw [List.tail_cons, List.countP_cons]; simp [h]
/-- What is known of what is read. -/
def FewR (ws : List Wd) (least : Nat) (x : PR) : Prop := ∀ t r, x = some (.ok (t, r)) → ∃ T : Tr, Ar T ∧ T.flat = t ∧ mb T least + nb r ≤ nb ws
def FewM (ws : List Wd) (la lb : Nat) (x : PR) : Prop := ∀ t r, x = some (.ok (t, r)) → ∀ A : Tr, Ar A → ∃ B : Tr, Ar B ∧ B.flat = A.flat ++ t ∧ mb B lb + nb r ≤ mb A la + nb ws
def FewN (nt : NT) (ws : List Wd) (x : PR) : Prop :=
  match nt with
  | .lev k => k ≤ 5 → FewR ws (k + 1) x
  | .una => FewR ws 6 x
  | .ato => FewR ws 7 x
  | .more k => k < 5 → FewM ws (if rightB k then k + 2 else k + 1) (k + 1) x
  | .pat k => k ≤ 2 → FewR ws (k + 1) x
  | .pmore k => k ≤ 2 → FewM ws (k + 1) (k + 1) x
  | .bar => FewR ws 4 x
theorem and_ok {x : PR} {f : List Tk5 → List Wd → PR} {t : List Tk5} {r : List Wd} (h : andR x f = some (.ok (t, r))) : ∃ t1 r1, x = some (.ok (t1, r1)) ∧ f t1 r1 = some (.ok (t, r)) := by
  cases x with
  | none => simp [andR] at h
  | some y =>
    cases y with
    | error e => simp [andR] at h
    | ok q => exact ⟨q.1, q.2, rfl, h⟩
theorem ok_inj {t t' : List Tk5} {r r' : List Wd} (h : okR t r = some (.ok (t', r'))) : t = t' ∧ r = r' := by
  unfold okR at h; injection h with h; injection h with h; injection h with a b; exact ⟨a, b⟩
theorem op_facts {k op : Nat} {s : Bytes} (h : opOf k s = some op) : strN op = k + 1 ∧ rightO op = rightB k ∧ takesC (op, 0) = 2 ∧ op ≠ 17 ∧ op ≠ 18 := by
  unfold opOf at h
  split at h
  · next hc => injection h with h; subst h; obtain ⟨rfl, _⟩ := hc; decide
  · split at h
    · next hc => injection h with h; subst h; obtain ⟨rfl, _⟩ := hc; decide
    · split at h
      · next hc => injection h with h; subst h; obtain ⟨rfl, _⟩ := hc; decide
      · split at h
        · next hc => injection h with h; subst h; obtain ⟨rfl, _⟩ := hc; decide
        · split at h
          · next hc => injection h with h; subst h; obtain ⟨rfl, _⟩ := hc; decide
          · split at h
            · next hc => injection h with h; subst h; obtain ⟨rfl, _⟩ := hc; decide
            · cases h
theorem un_facts {op : Nat} {s : Bytes} (h : unOf s = some op) : strN op = 6 ∧ takesC (op, 0) = 1 ∧ op ≠ 19 ∧ op ≠ 23 := by
  unfold unOf at h
  split at h
  · injection h with h; subst h; decide
  · split at h
    · injection h with h; subst h; decide
    · split at h
      · injection h with h; subst h; decide
      · split at h
        · injection h with h; subst h; decide
        · split at h
          · injection h with h; subst h; decide
          · cases h
theorem md_facts {op : Nat} {c s : Bytes} (h : mdOf s = some (c, op)) : (op = 17 ∨ op = 18) := by
  unfold mdOf at h
  split at h
  · injection h with h; injection h with _ h; exact Or.inl h.symm
  · split at h
    · injection h with h; injection h with _ h; exact Or.inr h.symm
    · cases h
theorem at_facts {op : Nat} {s : Bytes} (h : atOf s = some op) : strN op = 7 ∧ takesC (op, 0) = 0 := by
  unfold atOf at h
  split at h
  · injection h with h; subst h; decide
  · split at h
    · injection h with h; subst h; decide
    · split at h
      · injection h with h; subst h; decide
      · cases h
theorem p_facts {k op : Nat} {s : Bytes} (h : pOf k s = some op) (hk : k < 2) : strN op = k + 1 ∧ rightO op = false ∧ takesC (op, 0) = 2 ∧ op ≠ 17 ∧ op ≠ 18 := by
  unfold pOf at h
  split at h
  · next hc => injection h with h; subst h; obtain ⟨rfl, _⟩ := hc; decide
  · split at h
    · next hc => injection h with h; subst h; obtain ⟨rfl, _⟩ := hc; decide
    · split at h
      · next hc => omega
      · cases h
theorem br_bin {op : Nat} (c d : Tr) (h17 : op ≠ 17) (h18 : op ≠ 18) : br (.bin (op, 0) c d) = mb c (leastA op) + mb d (leastB op) := by
  simp only [br, mb]; rw [if_neg (by simp [h17, h18])]
theorem takesC_two {p : Nat} : takesC (2, p) = 0 := by
  unfold takesC takesN
  split
  · rfl
  · simp
theorem rd5_few (ns : List Bytes) (fin : Int) : ∀ (n : Nat) (nt : NT) (ws : List Wd), FewN nt ws (rd5 ns fin n nt ws)
  | 0, nt, ws => by
    have key : ∀ l, FewR ws l none := fun l t r h => by cases h
    have key2 : ∀ a b, FewM ws a b none := fun a b t r h => by cases h
    have e : rd5 ns fin 0 nt ws = none := by rw [rd5]
    rw [e]
    cases nt with
    | lev k => exact fun _ => key _
    | more k => exact fun _ => key2 _ _
    | una => exact key _
    | ato => exact key _
    | pat k => exact fun _ => key _
    | pmore k => exact fun _ => key2 _ _
    | bar => exact key _
  | n + 1, nt, ws => by
    have ih := rd5_few ns fin n
    cases nt with
    | lev k =>
      intro hk t r h
      rw [rd5] at h
      split at h
      · have : k = 5 := by omega
        subst this
        exact ih .una ws t r h
      · next hk5 =>
        obtain ⟨t1, r1, h1, h2⟩ := and_ok h
        obtain ⟨u, r2, h3, h4⟩ := and_ok h2
        obtain ⟨rfl, rfl⟩ := ok_inj h4
        obtain ⟨A, hA, rfl, hn⟩ := ih (.lev (k + 1)) ws (by omega) _ _ h1
        obtain ⟨B, hB, hf, hn2⟩ := ih (.more k) r1 (by omega) _ _ h3 A hA
        refine ⟨B, hB, hf, ?_⟩
        have : mb A (if rightB k then k + 2 else k + 1) ≤ mb A (k + 1 + 1) := mb_mono A (by split <;> omega)
        omega
    | more k =>
      intro hk t r h A hA
      rw [rd5] at h
      split at h
      · obtain ⟨rfl, rfl⟩ := ok_inj h
        refine ⟨A, hA, by simp, ?_⟩
        have : mb A (k + 1) ≤ mb A (if rightB k then k + 2 else k + 1) := mb_mono A (by split <;> omega)
        omega
      · next op hop =>
        obtain ⟨h1, h2, h3, h17, h18⟩ := op_facts hop
        have ht := nb_tail ws
        split at h
        · next hr =>
          obtain ⟨t1, r1, h4, h5⟩ := and_ok h
          obtain ⟨rfl, rfl⟩ := ok_inj h5
          obtain ⟨D, hD, rfl, hn⟩ := ih (.lev k) ws.tail (by omega) _ _ h4
          refine ⟨.bin (op, 0) A D, ⟨h3, hA, hD⟩, by simp [Tr.flat], ?_⟩
          rw [mb_own (by show k + 1 ≤ strN op; omega), br_bin A D h17 h18]
          simp only [leastA, leastB, h2, hr, h1, if_true]
          have e : k + 1 + 1 = k + 2 := by omega
          rw [e]
          have e0 : k + 1 + 0 = k + 1 := rfl
          rw [e0]
          omega
        · next hr =>
          have hr' : rightB k = false := by simpa using hr
          obtain ⟨t1, r1, h4, h5⟩ := and_ok h
          obtain ⟨u, r2, h6, h7⟩ := and_ok h5
          obtain ⟨rfl, rfl⟩ := ok_inj h7
          obtain ⟨D, hD, rfl, hn⟩ := ih (.lev (k + 1)) ws.tail (by omega) _ _ h4
          have hAr : Ar (.bin (op, 0) A D) := ⟨h3, hA, hD⟩
          obtain ⟨B, hB, hf, hn2⟩ := ih (.more k) r1 hk _ _ h6 (.bin (op, 0) A D) hAr
          refine ⟨B, hB, by rw [hf]; simp [Tr.flat], ?_⟩
          simp only [hr'] at hn2 ⊢
          simp only [Bool.false_eq_true, if_false] at hn2 ⊢
          rw [mb_own (t := .bin (op, 0) A D) (by show k + 1 ≤ strN op; omega), br_bin A D h17 h18] at hn2
          simp only [leastA, leastB, h2, hr', h1] at hn2
          simp only [Bool.false_eq_true, if_false, Nat.add_zero] at hn2
          omega
    | una =>
      intro t r h
      unfold rd5 at h
      have ht := nb_tail ws
      split at h
      · next op hop =>
        obtain ⟨h1, h2, h19, h23⟩ := un_facts hop
        obtain ⟨t1, r1, h4, h5⟩ := and_ok h
        obtain ⟨rfl, rfl⟩ := ok_inj h5
        obtain ⟨C, hC, rfl, hn⟩ := ih .una ws.tail _ _ h4
        refine ⟨.un (op, 0) C, ⟨h2, hC⟩, rfl, ?_⟩
        rw [mb_own (by show 6 ≤ strN op; omega)]
        have e : br (.un (op, 0) C) = mb C 6 := by simp only [br, mb]; rw [if_neg h19, if_neg h23]
        omega
      · split at h
        · next c op hop =>
          have h17 := md_facts hop
          obtain ⟨t1, r1, h4, h5⟩ := and_ok h
          split at h5
          · obtain ⟨u, r2, h6, h7⟩ := and_ok h5
            obtain ⟨rfl, rfl⟩ := ok_inj h7
            obtain ⟨C, hC, rfl, hn⟩ := ih (.pat 0) ws.tail (by omega) _ _ h4
            obtain ⟨D, hD, rfl, hn2⟩ := ih .una r1.tail _ _ h6
            have ht1 := nb_tail r1
            refine ⟨.bin (op, 0) C D, ⟨by rcases h17 with rfl | rfl <;> rfl, hC, hD⟩, rfl, ?_⟩
            rw [mb_own (by show 6 ≤ strN op; rcases h17 with rfl | rfl <;> decide)]
            have e : br (.bin (op, 0) C D) = br C + br D + wkN D 6 := by simp only [br]; rw [if_pos h17]
            have e2 : mb C (0 + 1) = br C := mb_own (str_pos _)
            unfold mb at hn2
            omega
          · cases h5
        · exact (fun T hT => by
            obtain ⟨C, hC, hf, hn⟩ := ih .ato ws t r h
            exact ⟨C, hC, hf, by have := mb_mono C (show 6 ≤ 7 by omega); omega⟩) () ()
    | ato =>
      intro t r h
      unfold rd5 at h
      have ht := nb_tail ws
      split at h
      · next op hop =>
        obtain ⟨h1, h2⟩ := at_facts hop
        obtain ⟨rfl, rfl⟩ := ok_inj h
        refine ⟨.leaf (op, 0), h2, rfl, ?_⟩
        rw [mb_own (by show 7 ≤ strN op; omega)]
        simp only [br]; omega
      · split at h
        · next ho =>
          obtain ⟨t1, r1, h4, h5⟩ := and_ok h
          split at h5
          · obtain ⟨rfl, rfl⟩ := ok_inj h5
            obtain ⟨C, hC, hf, hn⟩ := ih (.lev 0) ws.tail (by omega) _ _ h4
            have ht1 := nb_tail r1
            have ho1 := nb_open ho
            refine ⟨C, hC, hf, ?_⟩
            have e2 : mb C (0 + 1) = br C := mb_own (str_pos _)
            have := mb_le C 7
            omega
          · cases h5
        · cases ws with
          | nil => cases h
          | cons w rr =>
            simp only at h
            split at h
            · split at h
              · obtain ⟨rfl, rfl⟩ := ok_inj h
                refine ⟨.leaf (2, ns.idxOf w.tx.toList), takesC_two, rfl, ?_⟩
                rw [mb_own (by show 7 ≤ strN 2; decide)]
                simp only [br]
                have ht2 : nb rr ≤ nb (w :: rr) := nb_tail (w :: rr)
                omega
              · cases h
            · cases h
    | pat k =>
      intro hk t r h
      rw [rd5] at h
      obtain ⟨t1, r1, h1, h2⟩ := and_ok h
      obtain ⟨u, r2, h3, h4⟩ := and_ok h2
      obtain ⟨rfl, rfl⟩ := ok_inj h4
      have hA : ∃ A : Tr, Ar A ∧ A.flat = t1 ∧ mb A (k + 1 + 1) + nb r1 ≤ nb ws := by
        split at h1
        · have : k = 2 := by omega
          subst this
          exact ih .bar ws t1 r1 h1
        · exact ih (.pat (k + 1)) ws (by omega) t1 r1 h1
      obtain ⟨A, hA, rfl, hn⟩ := hA
      obtain ⟨B, hB, hf, hn2⟩ := ih (.pmore k) r1 hk _ _ h3 A hA
      refine ⟨B, hB, hf, ?_⟩
      have := mb_mono A (show k + 1 ≤ k + 1 + 1 by omega)
      omega
    | pmore k =>
      intro hk t r h A hA
      rw [rd5] at h
      have ht := nb_tail ws
      split at h
      · obtain ⟨rfl, rfl⟩ := ok_inj h
        exact ⟨A, hA, by simp, Nat.le_refl _⟩
      · next op hop =>
        split at h
        · next h2 =>
          have : k = 2 := by omega
          subst this
          have hop23 : op = 23 := by
            unfold pOf at hop
            split at hop
            · next hc => omega
            · split at hop
              · next hc => omega
              · split at hop
                · injection hop with hop; exact hop.symm
                · cases hop
          subst hop23
          obtain ⟨u, r1, h4, h5⟩ := and_ok h
          obtain ⟨rfl, rfl⟩ := ok_inj h5
          obtain ⟨B, hB, hf, hn2⟩ := ih (.pmore 2) ws.tail (Nat.le_refl _) _ _ h4 (.un (23, 0) A) ⟨rfl, hA⟩
          refine ⟨B, hB, by rw [hf]; simp [Tr.flat], ?_⟩
          rw [mb_own (t := .un (23, 0) A) (by show 2 + 1 ≤ strN 23; decide)] at hn2
          have e : br (.un (23, 0) A) = mb A 3 := rfl
          have e3 : mb A (2 + 1) = mb A 3 := rfl
          omega
        · next hk2 =>
          obtain ⟨h1, h2, h3, h17, h18⟩ := p_facts hop (by omega)
          obtain ⟨t1, r1, h4, h5⟩ := and_ok h
          obtain ⟨u, r2, h6, h7⟩ := and_ok h5
          obtain ⟨rfl, rfl⟩ := ok_inj h7
          obtain ⟨D, hD, rfl, hn⟩ := ih (.pat (k + 1)) ws.tail (by omega) _ _ h4
          obtain ⟨B, hB, hf, hn2⟩ := ih (.pmore k) r1 hk _ _ h6 (.bin (op, 0) A D) ⟨h3, hA, hD⟩
          refine ⟨B, hB, by rw [hf]; simp [Tr.flat], ?_⟩
          rw [mb_own (t := .bin (op, 0) A D) (by show k + 1 ≤ strN op; omega), br_bin A D h17 h18] at hn2
          simp only [leastA, leastB, h2, h1] at hn2
          simp only [Bool.false_eq_true, if_false, Nat.add_zero] at hn2
          omega
    | bar =>
      intro t r h
      unfold rd5 at h
      have ht := nb_tail ws
      split at h
      · obtain ⟨t1, r1, h4, h5⟩ := and_ok h
        split at h5
        · obtain ⟨rfl, rfl⟩ := ok_inj h5
          obtain ⟨C, hC, rfl, hn⟩ := ih (.lev 0) ws.tail (by omega) _ _ h4
          have ht1 := nb_tail r1
          refine ⟨.un (19, 0) C, ⟨rfl, hC⟩, rfl, ?_⟩
          rw [mb_own (by show 4 ≤ strN 19; decide)]
          have e : br (.un (19, 0) C) = br C := by simp [br]
          have e2 : mb C (0 + 1) = br C := mb_own (str_pos _)
          omega
        · cases h5
      · split at h
        · obtain ⟨t1, r1, h4, h5⟩ := and_ok h
          obtain ⟨rfl, rfl⟩ := ok_inj h5
          obtain ⟨C, hC, rfl, hn⟩ := ih .una ws.tail _ _ h4
          refine ⟨.un (20, 0) C, ⟨rfl, hC⟩, rfl, ?_⟩
          rw [mb_own (by show 4 ≤ strN 20; decide)]
          have e : br (.un (20, 0) C) = mb C 6 := rfl
          omega
        · split at h
          · next ho =>
            obtain ⟨t1, r1, h4, h5⟩ := and_ok h
            split at h5
            · obtain ⟨rfl, rfl⟩ := ok_inj h5
              obtain ⟨C, hC, hf, hn⟩ := ih (.pat 0) ws.tail (by omega) _ _ h4
              have ht1 := nb_tail r1
              have ho1 := nb_open ho
              refine ⟨C, hC, hf, ?_⟩
              have e2 : mb C (0 + 1) = br C := mb_own (str_pos _)
              have := mb_le C 4
              omega
            · cases h5
          · cases h
/-- With fewer brackets it is another formula's text, or none. -/
theorem show_few {ns : List Bytes} {ts : List Tk} (h : (tellL ns ts 1).2 = 0) {s : Bytes} (hc : s.count 40 < (tellL ns ts 1).1.count 40) (er ea : Int) (h0 : (er, ea) = ((0 : Int), (0 : Int))) : formL ns s ≠ (ts, er, ea) := by
  intro hf
  obtain ⟨hck, hl, t, ht, rfl, hs, hp, hn, he⟩ := tell_ok h (Or.inl rfl)
  rw [he] at hc
  obtain ⟨_, _, ws, hw, _, hwh, _⟩ := form_ok hf h0
  obtain ⟨n, hr⟩ := whole_ok.1 hwh
  obtain ⟨T, hT, hfl, hcnt⟩ := rd5_few ns s.length n (.lev 0) ws (by omega) _ _ hr
  have hns := check_names hck
  have h1 := sh_same ns hT (ar_wf ht) hfl
  have h2 := cnt_sh hns T
  have h3 := nb_words _ _ _ _ hw
  rw [h1] at h2
  have h3 : nb ws ≤ s.count 40 := by simpa using h3
  have hc : s.count 40 < (shT ns t).count 40 := hc
  have h4 := mb_own (t := T) (str_pos _)
  have : mb T (0 + 1) = br T := h4
  omega
end Go.Proofs.YtfipefbaabkdeaaGreatDoor
namespace Go.Proofs.YtfipefbaabkdeaaGreatDoor

theorem wi_len (b : Bool) (s : Bytes) : (wiT b s).length ≤ s.length + 2 := by cases b <;> simp [wiT]
theorem name_len {x : Bytes} (h : nameL x = true) : x.length ≤ 20 := by
  unfold nameL at h
  simp only [Bool.and_eq_true, decide_eq_true_eq] at h
  exact h.1.1.1.2
theorem leaf_len {ns : List Bytes} (hns : ∀ x ∈ ns, nameL x = true) (t : Tk) : (leafT ns t).length ≤ 20 := by
  unfold leafT
  split
  · simp
  · split
    · simp
    · split
      · simp
      · rw [List.getD_eq_getElem?_getD]
        cases h : ns[t.2]? with
        | none => simp
        | some x => exact name_len (hns x (List.mem_of_getElem? h))
theorem un_len (op : Nat) : (unW op).length ≤ 1 := by
  unfold unW
  repeat' split
  all_goals decide
theorem gap_len (op : Nat) : (gapB op).length ≤ 1 := by unfold gapB; split <;> simp
theorem bin_len (op : Nat) : (binW op).length ≤ 3 := by
  unfold binW
  repeat' split
  all_goals decide
theorem sh_len {ns : List Bytes} (hns : ∀ x ∈ ns, nameL x = true) : ∀ t : Tr, (shT ns t).length ≤ 20 * t.size
  | .leaf t => by simp only [shT, Tr.size]; exact leaf_len hns t
  | .un t c => by
    have ih := sh_len hns c
    have h1 := un_len t.1
    have h2 := gap_len t.1
    have h3 := wi_len (wkB c 3) (shT ns c)
    have h4 := wi_len (wkB c 6) (shT ns c)
    simp only [shT, Tr.size]
    split
    · simp; omega
    · split
      · simp; omega
      · simp; omega
  | .bin t c d => by
    have ihc := sh_len hns c
    have ihd := sh_len hns d
    have h1 := bin_len t.1
    have h3 := wi_len (wkB c (leastA t.1)) (shT ns c)
    have h4 := wi_len (wkB d 6) (shT ns d)
    have h5 := wi_len (wkB d (leastB t.1)) (shT ns d)
    simp only [shT, Tr.size]
    split
    · simp; omega
    · split
      · simp; omega
      · simp; omega
/-- What a text ends with. -/
def EndOk (s : Bytes) : Prop := ∃ q c, s = q ++ [c] ∧ c ≠ 40
theorem EndOk.app {s : Bytes} (h : EndOk s) (a : Bytes) : EndOk (a ++ s) := by
  obtain ⟨q, c, rfl, hc⟩ := h; exact ⟨a ++ q, c, by simp, hc⟩
theorem EndOk.cons {s : Bytes} (h : EndOk s) (a : UInt8) : EndOk (a :: s) := h.app [a]
theorem EndOk.wi {s : Bytes} (h : EndOk s) (b : Bool) : EndOk (wiT b s) := by
  cases b with
  | false => exact h
  | true => exact ⟨40 :: s, 41, by simp [wiT], by decide⟩
theorem end_pln {x : Bytes} (h : x ≠ []) (hp : x.all plnB = true) : EndOk x := by
  refine ⟨x.dropLast, x.getLast h, (List.dropLast_concat_getLast h).symm, fun e => ?_⟩
  have := List.all_eq_true.1 hp _ (List.getLast_mem h)
  rw [e] at this
  simp [plnB, plnN] at this
theorem sh_end {ns : List Bytes} (hns : ∀ x ∈ ns, nameL x = true) : ∀ t : Tr, t.WF → Shw ns t → EndOk (shT ns t)
  | .leaf t, h, hs => by
    rcases leaf_ops h hs with rfl | rfl | rfl | ⟨h2, hp⟩
    · exact end_pln (x := [116, 114, 117, 101]) (by decide) (by decide)
    · exact end_pln (x := [102, 97, 108, 115, 101]) (by decide) (by decide)
    · exact end_pln (x := [108, 97, 115, 116]) (by decide) (by decide)
    · have e : leafT ns t = ns[t.2] := by simp [leafT, h2, List.getD_eq_getElem?_getD, hp]
      have hw := name_word (hns _ (List.getElem_mem hp))
      simp only [shT, e]
      exact end_pln hw.1 hw.2.1
  | .un t c, h, hs => by
    have ih := sh_end hns c h.2.2 hs.un.1
    simp only [shT]
    split
    · exact ⟨123 :: shT ns c, 125, by simp, by decide⟩
    · split
      · exact ⟨_, 42, rfl, by decide⟩
      · exact ((ih.wi _).app _).app _
  | .bin t c d, h, hs => by
    have ih := sh_end hns d h.2.2.2 hs.bin.2.1
    simp only [shT]
    split
    · exact ((((ih.wi _).cons _).cons _).app _).cons _
    · split
      · exact ((((ih.wi _).cons _).cons _).app _).cons _
      · exact ((((ih.wi _).cons _).app _).cons _).app _
/-- The trees behind some of a tree's tokens. -/
theorem pre_trees : ∀ (t : Tr), t.WF → ∀ i, i ≤ t.size → ∃ Ts : List Tr, (∀ s ∈ Ts, s.WF) ∧ t.flat.take i = flatA Ts ∧ ∀ x, t.flat[i]? = some x → takesC x ≤ Ts.length
  | .leaf t, h, i, hi => by
    have h0 : takesC t = 0 := by unfold takesC; rw [h.1]; rfl
    have hi : i ≤ 1 := hi
    rcases Nat.lt_or_ge i 1 with h1 | h1
    · have : i = 0 := by omega
      subst this
      exact ⟨[], by simp, by simp [flatA], fun x hx => by simp [Tr.flat] at hx; subst hx; rw [h0]; exact Nat.zero_le _⟩
    · have : i = 1 := by omega
      subst this
      exact ⟨[.leaf t], by simpa using h, by simp [flatA, Tr.flat], fun x hx => by simp [Tr.flat] at hx⟩
  | .un t c, h, i, hi => by
    have h0 : takesC t = 1 := by unfold takesC; rw [h.1]; rfl
    have hi : i ≤ c.size + 1 := hi
    have hl := flat_len c
    rcases Nat.lt_or_ge i c.size with h1 | h1
    · obtain ⟨Ts, a, b, d⟩ := pre_trees c h.2.2 i (by omega)
      refine ⟨Ts, a, ?_, fun x hx => d x ?_⟩
      · rw [Tr.flat, List.take_append_of_le_length (by omega)]; exact b
      · rw [Tr.flat, List.getElem?_append_left (by omega)] at hx; exact hx
    · rcases Nat.lt_or_ge i (c.size + 1) with h2 | h2
      · have : i = c.size := by omega
        subst this
        refine ⟨[c], by simpa using h.2.2, ?_, fun x hx => ?_⟩
        · rw [Tr.flat, ← hl, List.take_left]; simp [flatA]
        · rw [Tr.flat, ← hl, List.getElem?_append_right (Nat.le_refl _)] at hx
          simp at hx; subst hx; rw [h0]; exact Nat.le_refl _
      · have : i = c.size + 1 := by omega
        subst this
        refine ⟨[.un t c], by simpa using h, ?_, fun x hx => ?_⟩
        · rw [List.take_of_length_le (by rw [flat_len]; exact Nat.le_refl _)]; simp [flatA]
        · rw [List.getElem?_eq_none (by rw [flat_len]; exact Nat.le_refl _)] at hx; cases hx
  | .bin t c d, h, i, hi => by
    have h0 : takesC t = 2 := by unfold takesC; rw [h.1]; rfl
    have hi : i ≤ c.size + d.size + 1 := hi
    have hl := flat_len c
    have hld := flat_len d
    rcases Nat.lt_or_ge i c.size with h1 | h1
    · obtain ⟨Ts, a, b, e⟩ := pre_trees c h.2.2.1 i (by omega)
      refine ⟨Ts, a, ?_, fun x hx => e x ?_⟩
      · rw [Tr.flat, List.append_assoc, List.take_append_of_le_length (by omega)]; exact b
      · rw [Tr.flat, List.append_assoc, List.getElem?_append_left (by omega)] at hx; exact hx
    · rcases Nat.lt_or_ge i (c.size + d.size + 1) with h2 | h2
      · obtain ⟨j, rfl⟩ : ∃ j, i = c.size + j := ⟨i - c.size, by omega⟩
        obtain ⟨Ts, a, b, e⟩ := pre_trees d h.2.2.2 j (by omega)
        refine ⟨c :: Ts, fun s hs => by rcases List.mem_cons.1 hs with rfl | hs; exact h.2.2.1; exact a s hs, ?_, fun x hx => ?_⟩
        · rw [Tr.flat, List.append_assoc, List.take_append, List.take_of_length_le (by omega), hl, show c.size + j - c.size = j by omega, List.take_append_of_le_length (by omega), b]
          simp [flatA]
        · rw [Tr.flat, List.append_assoc, List.getElem?_append_right (by omega), hl, show c.size + j - c.size = j by omega] at hx
          rcases Nat.lt_or_ge j d.size with h3 | h3
          · rw [List.getElem?_append_left (by omega)] at hx
            have := e x hx
            simp; omega
          · have : j = d.size := by omega
            subst this
            rw [List.getElem?_append_right (by omega), hld] at hx
            simp at hx; subst hx
            rw [List.take_of_length_le (by omega)] at b
            have : Ts ≠ [] := by
              intro e0; subst e0
              have := congrArg List.length b
              rw [hld] at this; simp [flatA] at this
              have := size_pos d; omega
            have := List.length_pos_iff.2 this
            rw [h0]; simp; omega
      · have : i = c.size + d.size + 1 := by omega
        subst this
        refine ⟨[.bin t c d], by simpa using h, ?_, fun x hx => ?_⟩
        · rw [List.take_of_length_le (by rw [flat_len]; exact Nat.le_refl _)]; simp [flatA]
        · rw [List.getElem?_eq_none (by rw [flat_len]; exact Nat.le_refl _)] at hx; cases hx
theorem stS_trees (ns : List Bytes) : ∀ (Ts : List Tr) (st : List Tx), (∀ s ∈ Ts, s.WF) → stS ns (flatA Ts) st = st ++ Ts.map fun t => (shT ns t, strN t.root.1)
  | [], st, _ => by simp [flatA, stS]
  | t :: Ts, st, h => by
    have e : flatA (t :: Ts) = t.flat ++ flatA Ts := by simp [flatA]
    rw [e, stS_app, stS_flat ns t (h t (by simp)), stS_trees ns Ts _ (fun s hs => h s (by simp [hs]))]
    simp
end Go.Proofs.YtfipefbaabkdeaaGreatDoor
namespace Go.Proofs.YtfipefbaabkdeaaGreatDoor

/-- What stands ahead, what behind the first part; how strong: the part, the first, the second that it takes. -/
def orows : List (Bytes × Bytes × Nat × Nat × Nat) :=
  [([116, 114, 117, 101], [], 7, 0, 0), ([102, 97, 108, 115, 101], [], 7, 0, 0), ([], [], 7, 0, 0), ([108, 97, 115, 116], [], 7, 0, 0), ([], [], 0, 0, 0), ([], [], 0, 0, 0),
   ([33], [], 6, 6, 0), ([88, 32], [], 6, 6, 0), ([78, 32], [], 6, 6, 0), ([70, 32], [], 6, 6, 0), ([71, 32], [], 6, 6, 0),
   ([], [32, 38, 32], 4, 4, 5), ([], [32, 124, 32], 3, 3, 4), ([], [32, 45, 62, 32], 2, 3, 2), ([], [32, 60, 45, 62, 32], 1, 1, 2), ([], [32, 85, 32], 5, 6, 5), ([], [32, 82, 32], 5, 6, 5),
   ([60], [62, 32], 6, 0, 6), ([91], [93, 32], 6, 0, 6), ([123], [125], 4, 0, 0), ([63], [], 4, 6, 0), ([], [32, 43, 32], 1, 1, 2), ([], [32, 59, 32], 2, 2, 3), ([], [42], 3, 3, 0)]
def orow (op : Nat) : Bytes × Bytes × Nat × Nat × Nat := orows.getD op ([], [], 0, 0, 0)
def ahT (op : Nat) : Bytes := (orow op).1
def beT (op : Nat) : Bytes := (orow op).2.1
def owT (op : Nat) : Nat := (orow op).2.2.1
def fiT (op : Nat) : Nat := (orow op).2.2.2.1
def seT (op : Nat) : Nat := (orow op).2.2.2.2
theorem ow_str : ∀ {op : Nat}, op ≤ 23 → op ≠ 4 → op ≠ 5 → owT op = strN op := by
  have h : ∀ op : Fin 24, op.val ≠ 4 → op.val ≠ 5 → owT op.val = strN op.val := by decide
  intro op h1 h2 h3
  exact h ⟨op, by omega⟩ h2 h3
theorem ow_small (op : Nat) : owT op < 256 ∧ fiT op < 256 ∧ seT op < 256 ∧ (ahT op).length ≤ 5 ∧ (beT op).length ≤ 5 := by
  by_cases h : op < 24
  · have h' : ∀ op : Fin 24, owT op.val < 256 ∧ fiT op.val < 256 ∧ seT op.val < 256 ∧ (ahT op.val).length ≤ 5 ∧ (beT op.val).length ≤ 5 := by decide
    exact h' ⟨op, h⟩
  · have e : orow op = ([], [], 0, 0, 0) := by unfold orow; rw [List.getD_eq_getElem?_getD, List.getElem?_eq_none (by simp [orows]; omega)]; rfl
    simp [owT, fiT, seT, ahT, beT, e]
theorem wiX_zero (x : Tx) : wiX x 0 = x.1 := by simp [wiX, wiT]
theorem put_leaf (ns : List Bytes) {op p : Nat} (h : op = 0 ∨ op = 1 ∨ op = 3) (a : List Tx) (ha : a = []) : putT ns op p a = ahT op := by
  subst ha
  rcases h with rfl | rfl | rfl <;> rfl
theorem put_prop (ns : List Bytes) (p : Nat) : putT ns 2 p [] = ns.getD p [] := rfl
theorem takes_one {op p : Nat} (h : takesN (op, p) = some 1) : op = 6 ∨ op = 7 ∨ op = 8 ∨ op = 9 ∨ op = 10 ∨ op = 19 ∨ op = 20 ∨ op = 23 := by
  unfold takesN at h
  dsimp only at h
  split at h
  · cases h
  · split at h
    · cases h
    · split at h
      · omega
      · cases h
theorem takes_two {op p : Nat} (h : takesN (op, p) = some 2) : (11 ≤ op ∧ op ≤ 18) ∨ op = 21 ∨ op = 22 := by
  unfold takesN at h
  dsimp only at h
  split at h
  · cases h
  · split at h
    · cases h
    · split at h
      · cases h
      · omega
theorem takes_zero {op p : Nat} (h : takesN (op, p) = some 0) : op ≤ 5 := by
  unfold takesN at h
  dsimp only at h
  split at h
  · cases h
  · split at h
    · assumption
    · split at h <;> cases h
theorem put_un (ns : List Bytes) {op p : Nat} (h : takesN (op, p) = some 1) (x : Tx) : putT ns op p [x] = ahT op ++ (wiX x (fiT op) ++ beT op) := by
  rcases takes_one h with rfl | rfl | rfl | rfl | rfl | rfl | rfl | rfl <;> simp [putT, ahT, beT, fiT, orow, orows, unW, gapB, wiX_zero]
theorem put_bin (ns : List Bytes) {op p : Nat} (h : takesN (op, p) = some 2) (x y : Tx) : putT ns op p [x, y] = ahT op ++ (wiX x (fiT op) ++ (beT op ++ wiX y (seT op))) := by
  have h' := takes_two h
  have : op = 11 ∨ op = 12 ∨ op = 13 ∨ op = 14 ∨ op = 15 ∨ op = 16 ∨ op = 17 ∨ op = 18 ∨ op = 21 ∨ op = 22 := by omega
  rcases this with rfl | rfl | rfl | rfl | rfl | rfl | rfl | rfl | rfl | rfl <;> simp [putT, ahT, beT, fiT, seT, orow, orows, binW, leastA, leastB, rightO, strN, wiX_zero]
end Go.Proofs.YtfipefbaabkdeaaGreatDoor
namespace Go.Proofs.YtfipefbaabkdeaaGreatDoor

theorem wf_takes : ∀ (t : Tr), t.WF → ∀ z ∈ t.flat, ∃ n, takesN z = some n
  | .leaf t, h, z, hz => by simp [Tr.flat] at hz; subst hz; exact ⟨_, h.1⟩
  | .un t c, h, z, hz => by
    simp only [Tr.flat, List.mem_append, List.mem_singleton] at hz
    rcases hz with hz | rfl
    · exact wf_takes c h.2.2 z hz
    · exact ⟨_, h.1⟩
  | .bin t c d, h, z, hz => by
    simp only [Tr.flat, List.mem_append, List.mem_singleton] at hz
    rcases hz with (hz | hz) | rfl
    · exact wf_takes c h.2.2.1 z hz
    · exact wf_takes d h.2.2.2 z hz
    · exact ⟨_, h.1⟩
theorem trees_len : ∀ (Ts : List Tr), Ts.length ≤ (flatA Ts).length ∧ ∀ s ∈ Ts, s.size ≤ (flatA Ts).length
  | [] => ⟨Nat.le_refl _, fun s hs => by simp at hs⟩
  | t :: Ts => by
    have ih := trees_len Ts
    have e : (flatA (t :: Ts)).length = t.size + (flatA Ts).length := by simp [flatA, flat_len]
    have := size_pos t
    refine ⟨by simp only [List.length_cons]; omega, fun s hs => ?_⟩
    rcases List.mem_cons.1 hs with rfl | hs
    · omega
    · have := ih.2 s hs; omega
/-- Tokens that have a text. -/
structure Told (ns : List Bytes) (ts : List Tk) : Prop where
  few : ts.length ≤ 512
  tok : ∀ k (h : k < ts.length), tokS ns ts[k] ∧ ∃ n, takesN ts[k] = some n ∧ n ≤ (stS ns (ts.take k) []).length
  st : ∀ k, (stS ns (ts.take k) []).length ≤ 512 ∧ ∀ x ∈ stS ns (ts.take k) [], x.1.length ≤ 20000
  fin : ∃ s, stS ns ts [] = [(textL ns ts, s)] ∧ (textL ns ts).length ≤ 20000
theorem told_of {ns : List Bytes} {ts : List Tk} {want : Nat} (hc : checkE ns = 0) (hl : lookE ts want = 0) (ho : ts.any odd4 = false) (hf : ts.any (far2 ns) = false) : Told ns ts := by
  have hns := check_names hc
  obtain ⟨hm, t, ht, rfl, _, _⟩ := lookE_zero.1 hl
  have hs : Shw ns t := by
    intro z hz
    have h1 : odd4 z = false := by
      cases hb : odd4 z with
      | false => rfl
      | true => rw [List.any_eq_true.2 ⟨z, hz, hb⟩] at ho; cases ho
    have h2 : far2 ns z = false := by
      cases hb : far2 ns z with
      | false => rfl
      | true => rw [List.any_eq_true.2 ⟨z, hz, hb⟩] at hf; cases hf
    unfold odd4 at h1
    unfold far2 at h2
    simp at h1 h2
    exact ⟨h1.1, h1.2, fun e => by have := h2 e; omega⟩
  have hsz : t.size ≤ 512 := by rw [← flat_len]; exact hm
  have hlen : t.flat.length ≤ 512 := by rw [flat_len]; exact hsz
  have hst : ∀ k, ∃ Ts : List Tr, (∀ s ∈ Ts, s.WF) ∧ t.flat.take k = flatA Ts ∧ stS ns (t.flat.take k) [] = Ts.map (fun t => (shT ns t, strN t.root.1)) ∧ ∀ x, t.flat[k]? = some x → takesC x ≤ Ts.length := by
    intro k
    by_cases hk : k ≤ t.size
    · obtain ⟨Ts, h1, h2, h3⟩ := pre_trees t ht k hk
      exact ⟨Ts, h1, h2, by rw [h2, stS_trees ns Ts [] h1]; rfl, h3⟩
    · have e : t.flat.take k = t.flat := List.take_of_length_le (by rw [flat_len]; omega)
      refine ⟨[t], by simpa using ht, by rw [e]; simp [flatA], by rw [e, stS_flat ns t ht]; rfl, fun x hx => ?_⟩
      rw [List.getElem?_eq_none (by rw [flat_len]; omega)] at hx; cases hx
  refine ⟨hlen, fun k hk => ⟨hs _ (List.getElem_mem hk), ?_⟩, fun k => ?_, ?_⟩
  · obtain ⟨n, hn⟩ := wf_takes t ht _ (List.getElem_mem hk)
    obtain ⟨Ts, _, _, h3, h4⟩ := hst k
    refine ⟨n, hn, ?_⟩
    have := h4 _ (List.getElem?_eq_getElem hk)
    unfold takesC at this
    rw [hn] at this
    rw [h3, List.length_map]; exact this
  · obtain ⟨Ts, _, h2, h3, _⟩ := hst k
    have h5 := trees_len Ts
    have h6 : (flatA Ts).length ≤ 512 := by rw [← h2]; simp; omega
    rw [h3]
    refine ⟨by rw [List.length_map]; omega, fun x hx => ?_⟩
    obtain ⟨s, hs1, rfl⟩ := List.mem_map.1 hx
    have := sh_len hns s
    have := h5.2 s hs1
    dsimp only; omega
  · refine ⟨strN t.root.1, ?_, ?_⟩
    · rw [textL_flat ns ht, stS_flat ns t ht]; rfl
    · rw [textL_flat ns ht]; have := sh_len hns t; omega
theorem stS_next (ns : List Bytes) {ts : List Tk} {k : Nat} (h : k < ts.length) : stS ns (ts.take (k + 1)) [] = stepS ns (stS ns (ts.take k) []) ts[k] := by
  rw [List.take_add_one, List.getElem?_eq_getElem h, stS_app]; rfl
end Go.Proofs.YtfipefbaabkdeaaGreatDoor
