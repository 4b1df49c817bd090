/- LexisSpans: each word stands where it says, blanks alone between, and the words of their text are the same words. -/
import Derived.Test.YtngajjffkbbaiaaDoorWLx12
namespace Go.Proofs.YtngajjffkbbaiaaDoor
open Go.RowKit Go.Maps

theorem spans_tail {s : Bytes} : ∀ {l : List Wd} {p : Nat}, Spans s p l → p + 0 ≤ s.length ∧ (tailL (txs l)).length ≤ 2 * (s.length - p)
  | [], p, h => ⟨h.1, by simp [txs, tailL]⟩
  | t :: l, p, h => by
    obtain ⟨q, _, h1, h2, _, _, hg, hr⟩ := h
    have ih := (spans_tail hr).2
    have hp : 0 < t.tx.toList.length := List.length_pos_iff.2 hg.1.1
    unfold txs at ih ⊢
    simp only [List.map_cons, tailL, List.length_cons, List.length_append]
    omega
theorem join_le_tail (xs : List Bytes) : (joinL xs).length ≤ (tailL xs).length := by
  cases xs with
  | nil => exact Nat.le_refl _
  | cons x r => simp [joinL, tailL]
theorem spans_join {s : Bytes} {l : List Wd} (h : Spans s 0 l) : (joinL (txs l)).length ≤ 2 * s.length := by
  have := (spans_tail h).2
  have := join_le_tail (txs l)
  omega
theorem spans_len {s : Bytes} : ∀ {l : List Wd} {p : Nat}, Spans s p l → l.length ≤ s.length - p
  | [], p, _ => by simp
  | t :: l, p, h => by
    obtain ⟨q, _, h1, h2, _, _, hg, hr⟩ := h
    have ih := spans_len hr
    have hp : 0 < t.tx.toList.length := List.length_pos_iff.2 hg.1.1
    simp only [List.length_cons]; omega
theorem spans_ok {s : Bytes} (h4 : s.length ≤ 4096) : ∀ {l : List Wd} {p : Nat}, Spans s p l → ∀ t ∈ l, t.Ok
  | [], _, _, t, ht => by simp at ht
  | u :: l, p, h, t, ht => by
    obtain ⟨q, hq, h1, h2, _, _, hg, hr⟩ := h
    rcases List.mem_cons.1 ht with rfl | ht
    · have h3 := sortL_le t.tx.toList
      rw [hg.2] at h3
      rw [tl_len] at h2
      exact ⟨by dsimp only at h3; omega, by unfold maxLen; omega, by rw [hq]; omega⟩
    · exact spans_ok h4 hr t ht
/-- What Words tells, in two cases. -/
theorem words_two (s : ByteArray) : ((wordsL s.toList).1 = [] ∧ ((wordsL s.toList).2.1, (wordsL s.toList).2.2) ≠ ((0 : Int), (0 : Int))) ∨ (s.size ≤ 4096 ∧ ∃ l, wordsL s.toList = (l, 0, 0) ∧ Spans s.toList 0 l) := by
  by_cases h : 4096 < s.toList.length
  · rw [wordsL_long h]; exact Or.inl ⟨rfl, by decide⟩
  · cases hw : wat s.toList 0 with
    | error p => rw [wordsL_bad h hw]; exact Or.inl ⟨rfl, fun e => by injection e with e1 e2; cases e1⟩
    | ok l => exact Or.inr ⟨by rw [tl_len] at h; omega, l, wordsL_ok h hw, spans_wat hw⟩
set_option maxHeartbeats 2000000 in
theorem Tryd.lspans_bad (s : ByteArray) (w : World) (hT : Tab w) (h1 : (wordsL s.toList).1 = []) (h2 : ((wordsL s.toList).2.1, (wordsL s.toList).2.2) ≠ ((0 : Int), (0 : Int))) :
    Calls Tryd.prog 4 #[.string s] w fun e w' => e = .returned (.bool true) ∧ Below w.heap.size w w' := by
  have hA := Tryd.awake_any w hT
  have hW := fun w1 (hT1 : Tab w1) => Tryd.words_any s w1 hT1
  rw [h1] at hW
  generalize (wordsL s.toList).2.1 = er at *
  generalize (wordsL s.toList).2.2 = ea at *
  have hq := Tryd.neqFlt er ea 0 0
  have hd : decide ((er, ea) = ((0 : Int), (0 : Int))) = false := decide_eq_false h2
  rw [hd] at hq
  clear hd h1 h2
  go_enter Tryd.func4, Tryd.ntmps4
  go_wp2_with fail
  refine hA.mono ?_
  rintro e w1 ⟨rfl, hb1⟩
  have HB1 : Hid (Below w.heap.size w w1) := hb1
  have hW1 := hW w1 (hT.up hb1)
  clear hb1 hA hT hW
  go_wp2_with fail
  refine hW1.mono ?_
  rintro e w2 ⟨v, rfl, hown, hb2⟩
  obtain ⟨a1, c1, rfl, hS1, _⟩ := own_wd (ts := []) hown (fun t ht => by simp at ht)
  have HB2 : Hid (Below w.heap.size w (w2.alloc (.cells #[.int .i64 er, .int .i64 ea] 25))) := (below_step HB1.out hb2).alloc (below_step HB1.out hb2).size _
  clear hown hS1 hb2 hW1
  go_wp2
  go_ret
  exact ⟨rfl, HB2.out⟩
end Go.Proofs.YtngajjffkbbaiaaDoor
