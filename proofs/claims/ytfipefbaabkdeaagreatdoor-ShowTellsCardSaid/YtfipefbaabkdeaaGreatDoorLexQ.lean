/- Plain: the text of words; the words of that text; where words stand. Nothing of the program is named here. -/
import Derived.Test.YtfipefbaabkdeaaGreatDoorLexP
namespace Go.Proofs.YtfipefbaabkdeaaGreatDoor

def tailL : List Bytes → Bytes
  | [] => []
  | x :: r => 32 :: (x ++ tailL r)
def joinL : List Bytes → Bytes
  | [] => []
  | x :: r => x ++ tailL r
theorem tailL_append : ∀ (a b : List Bytes), tailL (a ++ b) = tailL a ++ tailL b
  | [], b => rfl
  | x :: a, b => by simp [tailL, tailL_append a b]
theorem joinL_append {a : List Bytes} (h : a ≠ []) (b : List Bytes) : joinL (a ++ b) = joinL a ++ tailL b := by
  cases a with
  | nil => exact absurd rfl h
  | cons x a => simp [joinL, tailL_append]
theorem joinL_snoc {a : List Bytes} (h : a ≠ []) (x : Bytes) : joinL (a ++ [x]) = joinL a ++ 32 :: x := by rw [joinL_append h]; simp [tailL]
theorem joinL_one (x : Bytes) : joinL [x] = x := by simp [joinL, tailL]
theorem joinL_take_le (xs : List Bytes) (k : Nat) : (joinL (xs.take k)).length ≤ (joinL xs).length := by
  by_cases h : xs.take k = []
  · rw [h]; simp [joinL]
  · have := joinL_append h (xs.drop k)
    rw [List.take_append_drop] at this
    rw [this]; simp

/-! ### words of the text of words -/
def Good (x : Bytes) : Prop := x ≠ [] ∧ x.headD 0 ≠ 32 ∧ firstL x = x ∧ ∀ r, firstL (x ++ 32 :: r) = x
theorem pln32 : plnB 32 = false := by decide
theorem good_run {x : Bytes} (hx : x ≠ []) (hp : x.all plnB = true) (hs : (sortL x).2 = true) : Good x := by
  have hl : 0 < x.length := List.length_pos_iff.2 hx
  refine ⟨hx, ?_, ?_, fun r => ?_⟩
  · cases x with
    | nil => exact absurd rfl hx
    | cons b x => simp only [List.all_cons, Bool.and_eq_true] at hp; intro e; simp at e; subst e; rw [pln32] at hp; cases hp.1
  · have e : runN x = x.length := by have := runN_app x [] hp; simpa [runN_nil] using this
    unfold firstL; rw [e, List.take_length, if_pos (by simp [hl, hs])]
  · have e : runN (x ++ 32 :: r) = x.length := by rw [runN_app x _ hp, runN_cons_f pln32]; rfl
    unfold firstL; rw [e, List.take_left, if_pos (by simp [hl, hs])]
theorem sign_facts : ∀ x ∈ sgR, x ≠ [] ∧ x.headD 0 ≠ 32 ∧ firstL x = x := by decide
theorem sign_then : ∀ x ∈ sgR, ∀ r, firstL (x ++ 32 :: r) = x := by
  intro x hx r
  simp only [sgR, List.mem_cons, List.not_mem_nil, or_false] at hx
  rcases hx with h | h | h | h | h | h | h | h | h | h | h | h | h | h | h | h | h <;> subst h <;> rfl
theorem good_sign {x : Bytes} (h : x ∈ sgR) : Good x := ⟨(sign_facts x h).1, (sign_facts x h).2.1, (sign_facts x h).2.2, sign_then x h⟩
theorem first_good {s : Bytes} (h : firstL s ≠ []) : Good (firstL s) := by
  have h2 := first_sort h
  unfold firstL at h h2 ⊢
  by_cases hc : (decide (0 < runN s) && (sortL (s.take (runN s))).2) = true
  · rw [if_pos hc] at h h2 ⊢
    exact good_run h (runN_take s) h2
  · rw [if_neg hc] at h h2 ⊢
    by_cases h0 : runN s = 0
    · rw [if_pos h0] at h h2 ⊢
      rcases hit_cases s with e | ⟨m, _⟩
      · exact absurd e h
      · exact good_sign m
    · rw [if_neg h0] at h; exact absurd rfl h
/-- A word of a text. -/
def WdGood (t : Wd) : Prop := Good t.tx.toList ∧ sortL t.tx.toList = (t.so, true)
def same2 (t : Wd) : Nat × ByteArray := (t.so, t.tx)
theorem wgo_tail : ∀ (ts : List Wd) (n p : Nat), (∀ t ∈ ts, WdGood t) → (tailL (ts.map fun t => t.tx.toList)).length ≤ n →
    ∃ l, wgo n p (tailL (ts.map fun t => t.tx.toList)) = .ok l ∧ l.map same2 = ts.map same2
  | [], n, p, _, _ => ⟨[], by cases n <;> rfl, rfl⟩
  | t :: ts, n, p, hg, hn => by
    obtain ⟨⟨g1, g2, g3, g4⟩, hso⟩ := hg t (by simp)
    have hgr : ∀ u ∈ ts, WdGood u := fun u hu => hg u (by simp [hu])
    simp only [List.map_cons, tailL] at hn ⊢
    cases n with
    | zero => simp at hn
    | succ n =>
      simp only [List.length_cons, List.length_append] at hn
      have hl : 0 < t.tx.toList.length := List.length_pos_iff.2 g1
      have hf : firstL (t.tx.toList ++ tailL (ts.map fun t => t.tx.toList)) = t.tx.toList := by
        cases ts with
        | nil => simpa [tailL] using g3
        | cons u ts => simp only [List.map_cons, tailL]; exact g4 _
      obtain ⟨b, r, hbr⟩ : ∃ b r, t.tx.toList = b :: r := by
        cases hc : t.tx.toList with
        | nil => exact absurd hc g1
        | cons b r => exact ⟨b, r, rfl⟩
      have hb : b ≠ 32 := by rw [hbr] at g2; simpa using g2
      conv => enter [1, l]; lhs; unfold wgo
      rw [if_pos rfl]
      cases n with
      | zero => omega
      | succ n =>
        obtain ⟨l, h1, h2⟩ := wgo_tail ts n (p + 1 + t.tx.toList.length) hgr (by omega)
        have hd : (b :: (r ++ tailL (ts.map fun t => t.tx.toList))).drop t.tx.toList.length = tailL (ts.map fun t => t.tx.toList) := by
          rw [← List.cons_append, ← hbr, List.drop_left]
        have hf' : firstL (b :: (r ++ tailL (ts.map fun t => t.tx.toList))) = t.tx.toList := by rw [← List.cons_append, ← hbr, hf]
        refine ⟨⟨(sortL t.tx.toList).1, mkB t.tx.toList, ((p + 1 : Nat) : Int)⟩ :: l, ?_, ?_⟩
        · conv => lhs; rw [hbr, List.cons_append]; unfold wgo
          rw [if_neg hb, hf', if_neg g1, hd, h1]
        · simp only [List.map_cons, h2]
          congr 1
          unfold same2
          rw [hso, mkB_of]
theorem wat_join {ts : List Wd} (hg : ∀ t ∈ ts, WdGood t) : ∃ l, wat (joinL (ts.map fun t => t.tx.toList)) 0 = .ok l ∧ l.map same2 = ts.map same2 := by
  cases ts with
  | nil => exact ⟨[], rfl, rfl⟩
  | cons t ts =>
    obtain ⟨⟨g1, g2, g3, g4⟩, hso⟩ := hg t (by simp)
    have hgr : ∀ u ∈ ts, WdGood u := fun u hu => hg u (by simp [hu])
    have hf : firstL (t.tx.toList ++ tailL (ts.map fun t => t.tx.toList)) = t.tx.toList := by
      cases ts with
      | nil => simpa [tailL] using g3
      | cons u ts => simp only [List.map_cons, tailL]; exact g4 _
    obtain ⟨b, r, hbr⟩ : ∃ b r, t.tx.toList = b :: r := by
      cases hc : t.tx.toList with
      | nil => exact absurd hc g1
      | cons b r => exact ⟨b, r, rfl⟩
    have hb : b ≠ 32 := by rw [hbr] at g2; simpa using g2
    have hlen : (tailL (ts.map fun t => t.tx.toList)).length ≤ (r ++ tailL (ts.map fun t => t.tx.toList)).length := by simp
    obtain ⟨l, h1, h2⟩ := wgo_tail ts (r ++ tailL (ts.map fun t => t.tx.toList)).length (0 + t.tx.toList.length) hgr hlen
    have hd : (b :: (r ++ tailL (ts.map fun t => t.tx.toList))).drop t.tx.toList.length = tailL (ts.map fun t => t.tx.toList) := by
      rw [← List.cons_append, ← hbr, List.drop_left]
    have hf' : firstL (b :: (r ++ tailL (ts.map fun t => t.tx.toList))) = t.tx.toList := by rw [← List.cons_append, ← hbr, hf]
    refine ⟨⟨(sortL t.tx.toList).1, mkB t.tx.toList, ((0 : Nat) : Int)⟩ :: l, ?_, ?_⟩
    · unfold wat
      rw [List.drop_zero]
      simp only [List.map_cons, joinL]
      rw [hbr, List.cons_append, List.length_cons]
      unfold wgo
      rw [if_neg hb, hf', if_neg g1, hd, h1, ← hbr]
    · simp only [List.map_cons, h2]
      congr 1
      unfold same2
      rw [hso, mkB_of]

/-! ### where words stand -/
def blankL (s : Bytes) : Bool := s.all (fun b => b == 32)
/-- From place p on: the words ts, blanks alone between. -/
def Spans (s : Bytes) : Nat → List Wd → Prop
  | p, [] => p ≤ s.length ∧ blankL (s.drop p) = true
  | p, t :: ts => ∃ q : Nat, t.pl = (q : Int) ∧ p ≤ q ∧ q + t.tx.toList.length ≤ s.length ∧ (s.drop q).take t.tx.toList.length = t.tx.toList ∧ blankL ((s.drop p).take (q - p)) = true ∧ WdGood t ∧ Spans s (q + t.tx.toList.length) ts
theorem spans_wgo (s : Bytes) : ∀ (n p b : Nat) (l : List Wd), b ≤ p → p ≤ s.length → blankL ((s.drop b).take (p - b)) = true → (s.drop p).length ≤ n → wgo n p (s.drop p) = .ok l → Spans s b l := by
  intro n
  induction n with
  | zero =>
    intro p b l hbp hp hbl hn hw
    simp only [wgo] at hw
    injection hw with hw
    subst hw
    refine ⟨by omega, ?_⟩
    rw [List.length_drop] at hn
    rwa [List.take_of_length_le (by rw [List.length_drop]; omega)] at hbl
  | succ n ih =>
    intro p b l hbp hp hbl hn hw
    by_cases hlt : p < s.length
    · rw [List.drop_eq_getElem_cons hlt] at hw hn
      rw [List.length_cons] at hn
      unfold wgo at hw
      by_cases h32 : s[p] = 32
      · rw [if_pos h32] at hw
        refine ih (p + 1) b l (by omega) (by omega) ?_ (by omega) hw
        have e : (s.drop b).take (p + 1 - b) = (s.drop b).take (p - b) ++ [32] := by
          rw [show p + 1 - b = (p - b) + 1 by omega, List.take_add_one, List.getElem?_drop, show b + (p - b) = p by omega, List.getElem?_eq_getElem hlt, h32]; rfl
        rw [e]; unfold blankL at hbl ⊢; rw [List.all_append, hbl]; rfl
      · rw [if_neg h32, ← List.drop_eq_getElem_cons hlt] at hw
        by_cases h0 : firstL (s.drop p) = []
        · rw [if_pos h0] at hw; cases hw
        · rw [if_neg h0] at hw
          have hle := first_le (s.drop p)
          rw [List.length_drop] at hle
          have hpos : 0 < (firstL (s.drop p)).length := List.length_pos_iff.2 h0
          rw [List.drop_drop] at hw
          cases hr : wgo n (p + (firstL (s.drop p)).length) (s.drop (p + (firstL (s.drop p)).length)) with
          | error e => rw [hr] at hw; cases hw
          | ok l2 =>
            rw [hr] at hw
            injection hw with hw
            subst hw
            refine ⟨p, rfl, hbp, ?_, ?_, hbl, ⟨?_, ?_⟩, ?_⟩
            · rw [mkB_toList]; omega
            · rw [mkB_toList]; exact (first_pre (s.drop p)).symm
            · rw [mkB_toList]; exact first_good h0
            · rw [mkB_toList]; exact Prod.ext rfl (first_sort h0)
            · rw [mkB_toList]
              refine ih _ _ l2 (Nat.le_refl _) (by omega) ?_ (by rw [List.length_drop] at hn ⊢; omega) hr
              rw [Nat.sub_self, List.take_zero]; rfl
    · rw [List.drop_of_length_le (by omega)] at hw
      have : l = [] := by unfold wgo at hw; injection hw with hw; exact hw.symm
      subst this
      refine ⟨by omega, ?_⟩
      rwa [List.take_of_length_le (by rw [List.length_drop]; omega)] at hbl
theorem spans_wat {s : Bytes} {l : List Wd} (h : wat s 0 = .ok l) : Spans s 0 l :=
  spans_wgo s s.length 0 0 l (Nat.le_refl _) (Nat.zero_le _) rfl (by simp) h
theorem spans_good {s : Bytes} : ∀ {l : List Wd} {p : Nat}, Spans s p l → ∀ t ∈ l, WdGood t
  | [], _, _, t, ht => by simp at ht
  | u :: l, p, h, t, ht => by
    obtain ⟨q, _, _, _, _, _, hg, hr⟩ := h
    rcases List.mem_cons.1 ht with rfl | ht
    · exact hg
    · exact spans_good hr t ht
end Go.Proofs.YtfipefbaabkdeaaGreatDoor
