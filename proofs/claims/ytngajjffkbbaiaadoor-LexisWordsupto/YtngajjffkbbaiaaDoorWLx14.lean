/- The law's Same of two lists that hold the same words; ApartInts of two lists; a row of words that is written over. -/
import Derived.Test.YtngajjffkbbaiaaDoorWLx13
import Derived.Test.YtngajjffkbbaiaaDoorWApJ
namespace Go.Proofs.YtngajjffkbbaiaaDoor
open Go.RowKit Go.Maps

set_option maxHeartbeats 1000000 in
theorem Tryd.same_eq (a a' : Option Addr) (len cap cap' : Nat) (ts : List Wd) (w : World) (hS : WdSl w a len cap ts) (hO : WdSl w a' len cap' ts) :
    Calls Tryd.prog 8 #[.slice a len cap, .slice a' len cap'] w fun e w' => e = .returned (.bool true) ∧ ∃ n, w' = w.drewN n := by
  have HL : Hid (ts.length = len) := hS.hlen
  have hb0 := hS.bd
  have hb1 := hS.hcap
  unfold maxLen at hb0
  have HS : Hid (WdSl w a len cap ts) := hS
  have HO : Hid (WdSl w a' len cap' ts) := hO
  clear hS hO
  go_enter Tryd.func8, Tryd.ntmps8
  go_wp2
  go_loopw [5] (fun i wr => ∃ k : Nat, k ≤ len ∧ i = .int .i64 k ∧ ∃ n, wr = w.drewN n) (fun i _ => len - (intOf i).toNat)
  case atStart => exact ⟨0, Nat.zero_le _, rfl, 0, rfl⟩
  case round =>
    obtain ⟨k, hk, rfl, n, rfl⟩ := hrel
    by_cases hlt : k < len
    · obtain ⟨g, o, sh, hidx, c0, c1, c2, _, _⟩ := HS.out.at Tryd.underlying22 Tryd.sizeWd k hlt
      obtain ⟨g', o', sh', hidx', d0, d1, d2, _, _⟩ := HO.out.at Tryd.underlying22 Tryd.sizeWd k hlt
      have hik := fun w => hidx len w hlt
      have hik' := fun w => hidx' len w hlt
      clear hidx hidx'
      generalize (ts[k]'(by rw [HL.out]; exact hlt)).so = so at *
      generalize (ts[k]'(by rw [HL.out]; exact hlt)).tx = x at *
      generalize (ts[k]'(by rw [HL.out]; exact hlt)).pl = pl at *
      have hne := Tryd.neqWd so x pl so x pl
      rw [show eqW so x pl so x pl = true by simp [eqW]] at hne
      go_wp2_with fail
      go_quiet (fail)
      go_wp2
      go_roundw
      case rel => exact ⟨k + 1, by omega, by go_num, n + nq, rfl⟩
      case measure => simp [intOf]; omega
    · go_wp2
      go_ret
      exact ⟨rfl, n, rfl⟩
def pick2 {α : Type} (x y : α) (k : Nat) : α := if k = 0 then x else y
theorem Tryd.apartI_two (w : World) (g1 g2 : Nat) (c1 c2 : List Int) (h1 : RowI w 3 g1 c1) (h2 : RowI w 3 g2 c2) (h12 : g1 ≠ g2)
    (hl : c1.length ≤ 1000 ∧ c2.length ≤ 1000) (hv : (∀ z ∈ c1, -9223372036854775808 ≤ z ∧ z < 9223372036854775808) ∧ (∀ z ∈ c2, -9223372036854775808 ≤ z ∧ z < 9223372036854775808)) :
    Calls Tryd.prog 14 #[.slice (some ⟨w.heap.size, 0, none⟩) 2 2] (w.alloc (.cells #[.slice (some ⟨g1, 0, none⟩) c1.length c1.length, .slice (some ⟨g2, 0, none⟩) c2.length c2.length] 36)) fun e w' =>
      e = .returned (.bool true) ∧ Below w.heap.size w w' := by
  have hal : Below w.heap.size w (w.alloc (.cells #[.slice (some ⟨g1, 0, none⟩) c1.length c1.length, .slice (some ⟨g2, 0, none⟩) c2.length c2.length] 36)) := (Below.refl _ _).alloc (Nat.le_refl _) _
  have hnew := (MapKept.heap_alloc w (.cells #[.slice (some ⟨g1, 0, none⟩) c1.length c1.length, .slice (some ⟨g2, 0, none⟩) c2.length c2.length] 36)).1
  have k2 : ∀ {k : Nat}, k < 2 → k = 0 ∨ k = 1 := fun h => by omega
  have l1 := h1.lt
  have l2 := h2.lt
  refine (Tryd.apartI_any w.heap.size 2 (pick2 (some ⟨g1, 0, none⟩) (some ⟨g2, 0, none⟩)) (fun k => (pick2 c1 c2 k).length) (pick2 c1 c2) _ ⟨?_, ?_, ?_, ?_, by decide⟩ ⟨?_, ?_, ?_⟩).mono fun e w' ⟨he, hb⟩ => ⟨he, hal.trans (hb.mono (by simp))⟩
  · intro j k hj hk hne
    rcases k2 hj with rfl | rfl <;> rcases k2 hk with rfl | rfl
    · exact absurd rfl hne
    · exact Or.inr (by simp [pick2]; omega)
    · exact Or.inr (by simp [pick2]; omega)
    · exact absurd rfl hne
  · intro k hk e
    rcases k2 hk with rfl | rfl <;> simp [pick2] at e <;> omega
  · intro k
    obtain ⟨q1, q2⟩ := hl
    unfold pick2; split <;> omega
  · intro k
    unfold pick2; split
    · exact hv.1
    · exact hv.2
  · intro k hk
    rcases k2 hk with rfl | rfl
    · rw [cell_row hnew]; rfl
    · rw [cell_row hnew]; rfl
  · intro k hk
    rcases k2 hk with rfl | rfl
    · exact Or.inr ⟨g1, rfl, h1.up hal⟩
    · exact Or.inr ⟨g2, rfl, h2.up hal⟩
  · simp
/-- Block g is a row of at least n words. -/
def RowV (w : World) (g n : Nat) : Prop := ∃ cur, w.heap[g]? = some (.cells cur 33 (0, 0)) ∧ n * 3 ≤ cur.size
theorem RowV.up {w w' : World} {g n : Nat} (h : RowV w g n) (hb : Below w.heap.size w w') : RowV w' g n := by
  obtain ⟨cur, h1, h2⟩ := h
  exact ⟨cur, (hb.block g (Array.getElem?_eq_some_iff.1 h1).1).trans h1, h2⟩
theorem RowV.set {w : World} {g n : Nat} (h : RowV w g n) (i : Nat) (v : Value) : RowV (w.setCell ⟨g, i, none⟩ v) g n := by
  obtain ⟨cur, h1, h2⟩ := h
  exact ⟨_, heap_setCell_same w g i _ _ v h1, by simpa using h2⟩
theorem RowV.fz {w : World} {g n : Nat} (h : RowV w g n) (i : Nat) : w.frozen? ⟨g, i, none⟩ = false := by
  obtain ⟨cur, h1, _⟩ := h
  exact frozen_of_row w g i _ _ h1
theorem RowV.cell {w : World} {g n : Nat} (h : RowV w g n) {i : Nat} (hi : i < n * 3) : ∃ v, w.cell? ⟨g, i, none⟩ = some v := by
  obtain ⟨cur, h1, h2⟩ := h
  exact ⟨cur[i]'(by omega), by rw [cell_row h1]; exact Array.getElem?_eq_getElem (by omega)⟩
theorem RowV.lt {w : World} {g n : Nat} (h : RowV w g n) : g < w.heap.size := by
  obtain ⟨cur, h1, _⟩ := h; exact (Array.getElem?_eq_some_iff.1 h1).1
theorem own_rowV {w : World} {base n : Nat} {v : Value} {xs : List Value} (h : w.ownsRow base 33 3 v n xs) (hn : 0 < n) : ∃ g cap, v = .slice (some ⟨g, 0, none⟩) n cap ∧ RowV w g n ∧ base ≤ g := by
  obtain ⟨hl, h⟩ := h
  rcases h with ⟨_, rfl⟩ | ⟨g, cap, cur, rfl, hg, hcell, hnc, hcm, hsz, htk⟩
  · omega
  · refine ⟨g, cap, rfl, ⟨cur, hcell, ?_⟩, hg⟩
    have h1 := congrArg List.length htk
    rw [List.length_take, hl] at h1
    have : cur.toList.length = cur.size := by simp
    omega
theorem grown_set {w w' : World} {g : Nat} (h : w.grownBy w' (some g)) (i : Nat) (v : Value) : w.grownBy (w'.setCell ⟨g, i, none⟩ v) (some g) :=
  ⟨h.os, h.tape, h.output, by have := h.size; simpa using this, fun k hk hne => by
    rw [Below.heap_setCell _ _ _ _ (fun e => hne (congrArg some e))]
    exact h.block k hk hne⟩
theorem own_empty3 (w : World) (e : TypeId) : (w.alloc (.cells #[] e)).ownsRow w.heap.size e 3 (.slice (some ⟨w.heap.size, 0, none⟩) 0 0) 0 (encW []) :=
  ⟨rfl, Or.inr ⟨w.heap.size, 0, #[], rfl, Nat.le_refl _, (MapKept.heap_alloc w _).1, Nat.le_refl _, Nat.zero_le _, by simp, by simp [encW]⟩⟩
end Go.Proofs.YtngajjffkbbaiaaDoor
