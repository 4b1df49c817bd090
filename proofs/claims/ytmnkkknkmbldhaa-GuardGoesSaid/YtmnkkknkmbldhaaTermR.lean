/- Formulas as lists of tokens, plain: the block of a token, and what Put and the others tell of it. -/
import Derived.Test.YtmnkkknkmbldhaaTermK
namespace Go.Proofs.Ytmnkkknkmbldhaa

/-- The block of the token at i: a tree of its own. -/
theorem at_part {t : Tr} (hw : t.WF) {i : Nat} (hi : i < t.size) : ∃ (s : Tr) (pre post : List Tk), s.WF ∧ t.flat = pre ++ s.flat ++ post ∧ pre.length + s.size = i + 1 ∧ (t.parts 0)[i]? = some (s.part pre.length) ∧ ∀ k, pre.length ≤ k → k ≤ i → ∀ q, (t.parts 0)[k]? = some q → pre.length ≤ q.frm := by
  obtain ⟨s, pre, post, qp, qq, h1, h2, h3, h4, h5⟩ := sub_at t hw 0 i hi
  rw [Nat.zero_add] at h3
  obtain ⟨l, hl, hll⟩ := parts_last s pre.length
  have hsp := size_pos s
  refine ⟨s, pre, post, h1, h2, h5, ?_, ?_⟩
  · rw [h3, hl, List.append_assoc, List.getElem?_append_right (by omega), List.append_assoc, List.getElem?_append_right (by omega)]
    have : i - qp.length - l.length = 0 := by omega
    rw [this]; rfl
  · intro k hk1 hk2 q hq
    have hlen : (s.parts pre.length).length = s.size := parts_len s _
    rw [h3, List.append_assoc, List.getElem?_append_right (by omega), List.getElem?_append_left (by omega)] at hq
    exact parts_frm s _ q (List.mem_of_getElem? hq)
def frmAt (ts : List Tk) (k : Nat) : Nat := ((allP ts)[k]?.map (·.frm)).getD 0
def kindAt (ts : List Tk) (k : Nat) : Nat := ((allP ts)[k]?.map kindOf).getD 0
def putTs (ts : List Tk) (i : Int) (gs : List Tk) : List Tk := ts.take (frmAt ts i.toNat) ++ gs ++ ts.drop (i.toNat + 1)
def refE (ts : List Tk) (want : Nat) : Nat := lookE ts (if want = 3 then 3 else 1)
/-- What Put answers. -/
def putE (ts : List Tk) (i : Int) (gs : List Tk) : Nat :=
  if lookE ts 4 = 0 then (if i < 0 ∨ (ts.length : Int) ≤ i then 2 else (if refE gs (kindAt ts i.toNat) = 0 then lookE (putTs ts i gs) 4 else refE gs (kindAt ts i.toNat))) else lookE ts 4
theorem allP_len {ts : List Tk} {want : Nat} (h : lookE ts want = 0) : (allP ts).length = ts.length := by
  obtain ⟨_, t, hw, rfl, _⟩ := lookE_zero.1 h
  rw [allP_tree hw, parts_len, flat_len]
theorem frmAt_le {ts : List Tk} {want k : Nat} (h : lookE ts want = 0) (hk : k < ts.length) : frmAt ts k ≤ k := by
  obtain ⟨_, t, hw, rfl, _⟩ := lookE_zero.1 h
  obtain ⟨s, pre, post, h1, h2, h3, h4, _⟩ := at_part hw (by rw [← flat_len]; exact hk)
  unfold frmAt
  rw [allP_tree hw, h4]
  simp only [Option.map_some, Option.getD_some, part_frm]
  have := size_pos s; omega
end Go.Proofs.Ytmnkkknkmbldhaa
