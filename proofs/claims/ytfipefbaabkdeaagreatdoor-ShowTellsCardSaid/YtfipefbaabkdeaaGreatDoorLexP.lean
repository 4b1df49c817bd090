/- Plain: signs, keys, the words of a text, the text of words. Nothing of the program is named here. -/
import Derived.Test.YtfipefbaabkdeaaGreatDoorPlain
namespace Go.Proofs.YtfipefbaabkdeaaGreatDoor

def mkB (l : Bytes) : ByteArray := ⟨l.toArray⟩
theorem mkB_toList (l : Bytes) : (mkB l).toList = l := by rw [ByteArray.toList_eq]; simp [mkB]
theorem mkB_of (s : ByteArray) : mkB s.toList = s := by rw [ByteArray.toList_eq]; cases s; simp [mkB]
theorem mkB_size (l : Bytes) : (mkB l).size = l.length := by rw [← tl_len, mkB_toList]
theorem mkB_inj {a b : Bytes} (h : mkB a = mkB b) : a = b := by rw [← mkB_toList a, h, mkB_toList]
theorem toList_inj {a b : ByteArray} (h : a.toList = b.toList) : a = b := by rw [← mkB_of a, h, mkB_of]

def plnN (c : Nat) : Bool := decide (97 ≤ c ∧ c ≤ 122) || decide (65 ≤ c ∧ c ≤ 90) || decide (48 ≤ c ∧ c ≤ 57)
def plnB (c : UInt8) : Bool := plnN c.toNat
/-- How many letters and digits stand at the front. -/
def runN (s : Bytes) : Nat := (s.takeWhile plnB).length
theorem runN_le (s : Bytes) : runN s ≤ s.length := List.Sublist.length_le (List.takeWhile_sublist _)
theorem runN_nil : runN [] = 0 := rfl
theorem runN_cons_t {b : UInt8} {s : Bytes} (h : plnB b = true) : runN (b :: s) = runN s + 1 := by simp [runN, h]
theorem runN_cons_f {b : UInt8} {s : Bytes} (h : plnB b = false) : runN (b :: s) = 0 := by simp [runN, h]
theorem runN_app : ∀ (p r : Bytes), p.all plnB = true → runN (p ++ r) = p.length + runN r
  | [], r, _ => by simp
  | b :: p, r, h => by
    simp only [List.all_cons, Bool.and_eq_true] at h
    rw [List.cons_append, runN_cons_t h.1, runN_app p r h.2, List.length_cons]; omega
theorem runN_take : ∀ s : Bytes, (s.take (runN s)).all plnB = true
  | [] => rfl
  | b :: s => by
    cases h : plnB b with
    | true => rw [runN_cons_t h, List.take_succ_cons, List.all_cons, h, runN_take s]; rfl
    | false => rw [runN_cons_f h]; rfl
/-- The first k bytes are letters and digits. -/
def upP (s : Bytes) (k : Nat) : Prop := (s.take k).all plnB = true
theorem upP_zero (s : Bytes) : upP s 0 := by simp [upP]
theorem upP_succ {s : Bytes} {k : Nat} {b : UInt8} (h : upP s k) (hb : s[k]? = some b) (hp : plnB b = true) : upP s (k + 1) := by
  unfold upP at *; rw [List.take_add_one, hb, List.all_append, h]; simp [hp]
theorem upP_stop {s : Bytes} {k : Nat} {b : UInt8} (h : upP s k) (hb : s[k]? = some b) (hp : plnB b = false) : runN s = k := by
  obtain ⟨hk, e⟩ := List.getElem?_eq_some_iff.1 hb
  have : s = s.take k ++ b :: s.drop (k + 1) := by rw [← e, ← List.drop_eq_getElem_cons hk, List.take_append_drop]
  rw [this, runN_app _ _ h, runN_cons_f hp, List.length_take]; omega
theorem upP_end {s : Bytes} (h : upP s s.length) : runN s = s.length := by
  unfold upP at h; rw [List.take_length] at h
  have := runN_app s [] h
  simpa [runN_nil] using this

/-! ### signs and keys -/
def sgP : List Bytes := [[40], [41], [91], [93], [123], [125], [60], [62], [33], [63], [38], [124], [43], [59], [42], [45, 62], [60, 45, 62]]
def sgR : List Bytes := [[60, 45, 62], [45, 62], [40], [41], [91], [93], [123], [125], [60], [62], [33], [63], [38], [124], [43], [59], [42]]
def keyL : List Bytes := [[88], [78], [70], [71], [85], [82], [116, 114, 117, 101], [102, 97, 108, 115, 101], [108, 97, 115, 116]]
theorem sg_mem (x : Bytes) : x ∈ sgP ↔ x ∈ sgR := by
  have : sgP.Perm sgR := by decide
  exact this.mem_iff
theorem sg_contains (x : Bytes) : sgP.contains x = sgR.contains x := by
  rw [Bool.eq_iff_iff]; simp only [List.contains_iff_mem]; exact sg_mem x
/-- Which sort of word a text is, and whether it is one. -/
def sortL (s : Bytes) : Nat × Bool := if sgP.contains s then (0, true) else if keyL.contains s then (1, true) else if nameL s then (2, true) else (0, false)
def pre (a s : Bytes) : Bool := a == s.take a.length
theorem pre_eq {a s : Bytes} (h : pre a s = true) : a = s.take a.length := by simpa [pre] using h
theorem pre_short {a s : Bytes} (h : s.length < a.length) : pre a s = false := by
  cases hp : pre a s with
  | false => rfl
  | true => have := congrArg List.length (pre_eq hp); simp at this; omega
def longGo (s : Bytes) : List Bytes → Bytes → Bytes
  | [], best => best
  | a :: r, best => if decide (best.length < a.length) && pre a s then longGo s r a else longGo s r best
def hitGo (s : Bytes) : List Bytes → Bytes
  | [] => []
  | a :: r => if pre a s then a else hitGo s r
theorem longGo_is (s : Bytes) : ∀ (l : List Bytes) (best : Bytes), (longGo s l best = best ∨ (longGo s l best ∈ l ∧ pre (longGo s l best) s = true)) ∧ best.length ≤ (longGo s l best).length ∧ ∀ a ∈ l, pre a s = true → a.length ≤ (longGo s l best).length
  | [], best => ⟨Or.inl rfl, Nat.le_refl _, fun a ha => by simp at ha⟩
  | b :: r, best => by
    unfold longGo
    by_cases h : (decide (best.length < b.length) && pre b s) = true
    · rw [if_pos h]
      simp only [Bool.and_eq_true, decide_eq_true_eq] at h
      obtain ⟨h1, h2, h3⟩ := longGo_is s r b
      refine ⟨Or.inr ?_, by omega, fun a ha hp => ?_⟩
      · rcases h1 with e | ⟨m, p⟩
        · rw [e]; exact ⟨by simp, h.2⟩
        · exact ⟨by simp [m], p⟩
      · rcases List.mem_cons.1 ha with rfl | ha
        · exact h2
        · exact h3 a ha hp
    · rw [if_neg h]
      obtain ⟨h1, h2, h3⟩ := longGo_is s r best
      refine ⟨?_, h2, fun a ha hp => ?_⟩
      · rcases h1 with e | ⟨m, p⟩
        · exact Or.inl e
        · exact Or.inr ⟨by simp [m], p⟩
      · rcases List.mem_cons.1 ha with rfl | ha
        · simp only [Bool.and_eq_true, decide_eq_true_eq, not_and] at h
          have : ¬ best.length < a.length := fun hl => h hl hp
          omega
        · exact h3 a ha hp
theorem hitGo_is (s : Bytes) : ∀ (l : List Bytes), l.Pairwise (fun a b => b.length ≤ a.length) → (hitGo s l = [] ∧ ∀ a ∈ l, pre a s = false) ∨ (hitGo s l ∈ l ∧ pre (hitGo s l) s = true ∧ ∀ a ∈ l, pre a s = true → a.length ≤ (hitGo s l).length)
  | [], _ => Or.inl ⟨rfl, fun a ha => by simp at ha⟩
  | b :: r, hw => by
    rw [List.pairwise_cons] at hw
    unfold hitGo
    cases h : pre b s with
    | true =>
      rw [if_pos rfl]
      refine Or.inr ⟨by simp, h, fun a ha _ => ?_⟩
      rcases List.mem_cons.1 ha with rfl | ha
      · exact Nat.le_refl _
      · exact hw.1 a ha
    | false =>
      rw [if_neg (by simp)]
      rcases hitGo_is s r hw.2 with ⟨e, hn⟩ | ⟨m, p, hm⟩
      · exact Or.inl ⟨e, fun a ha => by rcases List.mem_cons.1 ha with rfl | ha; exact h; exact hn a ha⟩
      · refine Or.inr ⟨by simp [m], p, fun a ha hp => ?_⟩
        rcases List.mem_cons.1 ha with rfl | ha
        · rw [h] at hp; cases hp
        · exact hm a ha hp
theorem sgR_sorted : sgR.Pairwise (fun a b => b.length ≤ a.length) := by decide
theorem long_eq (s : Bytes) : longGo s sgP [] = hitGo s sgR := by
  obtain ⟨h1, _, h3⟩ := longGo_is s sgP []
  rcases hitGo_is s sgR sgR_sorted with ⟨e, hn⟩ | ⟨m, p, hm⟩
  · rw [e]
    rcases h1 with e1 | ⟨m1, p1⟩
    · exact e1
    · have := hn _ ((sg_mem _).1 m1); rw [p1] at this; cases this
  · rcases h1 with e1 | ⟨m1, p1⟩
    · have := h3 _ ((sg_mem _).2 m) p
      rw [e1] at this ⊢
      exact (List.eq_nil_of_length_eq_zero (by simpa using this)).symm
    · have e2 := Nat.le_antisymm (hm _ ((sg_mem _).1 m1) p1) (h3 _ ((sg_mem _).2 m) p)
      rw [pre_eq p1, pre_eq p, e2]
theorem hit_cases (s : Bytes) : hitGo s sgR = [] ∨ (hitGo s sgR ∈ sgR ∧ hitGo s sgR = s.take (hitGo s sgR).length) := by
  rcases hitGo_is s sgR sgR_sorted with ⟨e, _⟩ | ⟨m, p, _⟩
  · exact Or.inl e
  · exact Or.inr ⟨m, pre_eq p⟩
theorem sort_sign {s : Bytes} (h : s ∈ sgR) : sortL s = (0, true) := by unfold sortL; rw [if_pos (by rw [sg_contains]; simpa using h)]
theorem sort_nil : sortL [] = (0, false) := by decide
theorem sg_ne {s : Bytes} (h : s ∈ sgR) : s ≠ [] := by intro e; subst e; exact absurd h (by decide)

/-! ### the first word -/
def firstL (s : Bytes) : Bytes :=
  if decide (0 < runN s) && (sortL (s.take (runN s))).2 then s.take (runN s) else if runN s = 0 then hitGo s sgR else []
def reachN (s : Bytes) : Nat := if 0 < runN s then runN s else (longGo s sgP []).length
theorem reach_le (s : Bytes) : reachN s ≤ s.length := by
  unfold reachN
  split
  · exact runN_le s
  · rw [long_eq]
    rcases hit_cases s with e | ⟨_, e⟩
    · rw [e]; simp
    · rw [e]; simp; omega
theorem first_ok {s : Bytes} (h : (sortL (s.take (reachN s))).2 = true) : firstL s = s.take (reachN s) ∧ firstL s ≠ [] ∧ (firstL s).length = reachN s := by
  have hl := reach_le s
  have key : firstL s = s.take (reachN s) := by
    unfold reachN at h ⊢
    unfold firstL
    by_cases hr : 0 < runN s
    · rw [if_pos hr] at h ⊢; rw [if_pos (by simp [hr, h])]
    · rw [if_neg hr] at h ⊢
      rw [if_neg (by simp; omega), if_pos (by omega), long_eq]
      rcases hit_cases s with e | ⟨_, e⟩
      · rw [e]; simp
      · exact e
  refine ⟨key, ?_, by rw [key, List.length_take]; omega⟩
  rw [key]; intro e; rw [e, sort_nil] at h; cases h
theorem first_no {s : Bytes} (h : (sortL (s.take (reachN s))).2 = false) : firstL s = [] := by
  unfold reachN at h
  unfold firstL
  by_cases hr : 0 < runN s
  · rw [if_pos hr] at h; rw [if_neg (by simp [h]), if_neg (by omega)]
  · rw [if_neg hr, long_eq] at h
    rw [if_neg (by simp; intro hc; omega), if_pos (by omega)]
    rcases hit_cases s with e | ⟨m, e⟩
    · exact e
    · rw [← e, sort_sign m] at h; cases h
theorem first_pre (s : Bytes) : firstL s = s.take (firstL s).length := by
  cases h : (sortL (s.take (reachN s))).2 with
  | true => obtain ⟨a, _, c⟩ := first_ok h; rw [c]; exact a
  | false => rw [first_no h]; simp
theorem first_le (s : Bytes) : (firstL s).length ≤ s.length := by
  have := congrArg List.length (first_pre s); rw [List.length_take] at this; omega
theorem first_sort {s : Bytes} (h : firstL s ≠ []) : (sortL (firstL s)).2 = true := by
  cases hs : (sortL (s.take (reachN s))).2 with
  | true => rw [(first_ok hs).1]; exact hs
  | false => exact absurd (first_no hs) h

/-! ### the words -/
structure Wd where
  so : Nat
  tx : ByteArray
  pl : Int
deriving Inhabited
def wgo : Nat → Nat → Bytes → Except Nat (List Wd)
  | 0, _, _ => .ok []
  | _ + 1, _, [] => .ok []
  | n + 1, p, b :: r =>
    if b = 32 then wgo n (p + 1) r
    else if firstL (b :: r) = [] then .error p
    else match wgo n (p + (firstL (b :: r)).length) ((b :: r).drop (firstL (b :: r)).length) with
      | .ok l => .ok (⟨(sortL (firstL (b :: r))).1, mkB (firstL (b :: r)), p⟩ :: l)
      | .error e => .error e
theorem wgo_fuel : ∀ (n m p : Nat) (r : Bytes), r.length ≤ n → r.length ≤ m → wgo n p r = wgo m p r
  | n, m, p, [], _, _ => by cases n <;> cases m <;> rfl
  | 0, m, p, b :: r, h, _ => by simp at h
  | n + 1, 0, p, b :: r, _, h => by simp at h
  | n + 1, m + 1, p, b :: r, hn, hm => by
    simp only [List.length_cons] at hn hm
    unfold wgo
    rw [wgo_fuel n m (p + 1) r (by omega) (by omega)]
    by_cases hf : firstL (b :: r) = []
    · simp only [hf, if_pos]
    · have h1 : 1 ≤ (firstL (b :: r)).length := by cases h : firstL (b :: r) with | nil => exact absurd h hf | cons => simp
      have hd : ((b :: r).drop (firstL (b :: r)).length).length ≤ r.length := by simp; omega
      rw [wgo_fuel n m _ _ (by omega) (by omega)]
/-- The words from place k on. -/
def wat (s : Bytes) (k : Nat) : Except Nat (List Wd) := wgo s.length k (s.drop k)
def addW (x : List Wd) : Except Nat (List Wd) → Except Nat (List Wd)
  | .ok l => .ok (x ++ l)
  | .error e => .error e
theorem addW_add (x y : List Wd) (e : Except Nat (List Wd)) : addW x (addW y e) = addW (x ++ y) e := by cases e <;> simp [addW]
theorem addW_nil (e : Except Nat (List Wd)) : addW [] e = e := by cases e <;> simp [addW]
theorem wat_end {s : Bytes} {k : Nat} (h : s.length ≤ k) : wat s k = .ok [] := by
  unfold wat; rw [List.drop_of_length_le h]; cases s.length <;> rfl
theorem wat_blank {s : Bytes} {k : Nat} (h : s[k]? = some 32) : wat s k = wat s (k + 1) := by
  obtain ⟨hk, e⟩ := List.getElem?_eq_some_iff.1 h
  unfold wat
  rw [List.drop_eq_getElem_cons hk, e]
  obtain ⟨n, hn⟩ : ∃ n, s.length = n + 1 := ⟨s.length - 1, by omega⟩
  rw [hn]
  conv => lhs; unfold wgo
  rw [if_pos rfl]
  exact wgo_fuel _ _ _ _ (by simp; omega) (by simp; omega)
theorem wat_bad {s : Bytes} {k : Nat} {b : UInt8} (h : s[k]? = some b) (hb : b ≠ 32) (hf : firstL (s.drop k) = []) : wat s k = .error k := by
  obtain ⟨hk, e⟩ := List.getElem?_eq_some_iff.1 h
  unfold wat
  rw [List.drop_eq_getElem_cons hk, e] at hf ⊢
  obtain ⟨n, hn⟩ : ∃ n, s.length = n + 1 := ⟨s.length - 1, by omega⟩
  rw [hn]
  unfold wgo
  rw [if_neg hb, if_pos hf]
theorem wat_word {s : Bytes} {k : Nat} {b : UInt8} (h : s[k]? = some b) (hb : b ≠ 32) (hf : firstL (s.drop k) ≠ []) :
    wat s k = addW [⟨(sortL (firstL (s.drop k))).1, mkB (firstL (s.drop k)), k⟩] (wat s (k + (firstL (s.drop k)).length)) := by
  obtain ⟨hk, e⟩ := List.getElem?_eq_some_iff.1 h
  have hd : s.drop (k + (firstL (s.drop k)).length) = (s.drop k).drop (firstL (s.drop k)).length := by rw [List.drop_drop]
  have h1 : 1 ≤ (firstL (s.drop k)).length := by cases h : firstL (s.drop k) with | nil => exact absurd h hf | cons => simp
  unfold wat
  rw [hd]
  rw [List.drop_eq_getElem_cons hk, e] at hf h1 ⊢
  obtain ⟨n, hn⟩ : ∃ n, s.length = n + 1 := ⟨s.length - 1, by omega⟩
  have hlen : (b :: s.drop (k + 1)).length ≤ s.length := by simp; omega
  rw [hn] at hlen ⊢
  conv => lhs; unfold wgo
  rw [if_neg hb, if_neg hf]
  rw [wgo_fuel n (n + 1) _ _ (by simp only [List.length_drop]; omega) (by simp only [List.length_drop]; omega)]
  cases wgo (n + 1) (k + (firstL (b :: s.drop (k + 1))).length) ((b :: s.drop (k + 1)).drop (firstL (b :: s.drop (k + 1))).length) <;> rfl
/-- What Words answers: the words, the error, its place. -/
def wordsL (s : Bytes) : List Wd × Int × Int :=
  if 4096 < s.length then ([], 3, -1) else match wat s 0 with
    | .ok l => (l, 0, 0)
    | .error p => ([], 140, p)
end Go.Proofs.YtfipefbaabkdeaaGreatDoor
