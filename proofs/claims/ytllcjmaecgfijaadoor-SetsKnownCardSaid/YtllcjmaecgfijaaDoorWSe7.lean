/- Stage 10's laws over the contracts of package sets: SetsOrder. -/
import Derived.Test.YtllcjmaecgfijaaDoorWSe6
namespace Go.Proofs.YtllcjmaecgfijaaDoor
open Go.RowKit Go.Maps

/-- A copy of the list, its sets in some order. -/
def TurnAt (w : World) (base : Nat) (v : Value) (n : Nat) (L : List Nat) : Prop := ∃ K : List Nat, (∀ x, x ∈ K ↔ x ∈ L) ∧ K.length = n ∧ w.ownsRow base 22 1 v n ((iU K).map (Value.int .u64))
theorem getD_iU (K : List Nat) (i : Nat) : (iU K).getD i 0 = ((K.getD i 0 : Nat) : Int) := by
  simp only [List.getD_eq_getElem?_getD, iU, List.getElem?_map]
  cases K[i]? <;> rfl
theorem TurnAt.drewN {w : World} {base n : Nat} {v : Value} {L : List Nat} (h : TurnAt w base v n L) (q : Nat) : TurnAt (w.drewN q) base v n L := by
  obtain ⟨K, h1, h2, h3⟩ := h
  exact ⟨K, h1, h2, owns_drew h3 q⟩
theorem TurnAt.open {w : World} {base n : Nat} {v : Value} {L : List Nat} (h : TurnAt w base v n L) (hn : 0 < n) : ∃ g cap, v = .slice (some ⟨g, 0, none⟩) n cap ∧ base ≤ g := by
  obtain ⟨K, _, h2, h3, h4⟩ := h
  rcases h4 with ⟨_, h5⟩ | ⟨g, cap, cur, h5, hg, _⟩
  · omega
  · exact ⟨g, cap, h5, hg⟩
theorem own_cell {w : World} {base n g cap : Nat} {K : List Nat} (h3 : w.ownsRow base 22 1 (.slice (some ⟨g, 0, none⟩) n cap) n ((iU K).map (Value.int .u64))) (i : Nat) (hi : i < n) : w.cell? ⟨g, i, none⟩ = some (.int .u64 ((K.getD i 0 : Nat) : Int)) := by
  obtain ⟨a, c, e, hs, _⟩ := ownU_sl h3 Tryd.underlying25 Tryd.sizeU64
  injection e with e
  have := hs.cell i hi
  rw [← e, show adOf (some ⟨g, 0, none⟩) i = ⟨g, i, none⟩ by simp [adOf, add_plain], getD_iU] at this
  exact this
theorem own_fz {w : World} {base n g cap : Nat} {K : List Value} (h3 : w.ownsRow base 22 1 (.slice (some ⟨g, 0, none⟩) n cap) n K) (i : Nat) : w.frozen? ⟨g, i, none⟩ = false := by
  obtain ⟨_, h4⟩ := h3
  rcases h4 with ⟨h5, _⟩ | ⟨g', cap', cur, h5, _, hcell, _⟩
  · cases h5
  · injection h5 with h5
    injection h5 with h5
    injection h5 with h5
    subst h5
    exact frozen_of_row w g i _ _ hcell
theorem TurnAt.at {w : World} {base n g cap : Nat} {L : List Nat} (h : TurnAt w base (.slice (some ⟨g, 0, none⟩) n cap) n L) :
    ∃ K : List Nat, (∀ i, i < n → w.cell? ⟨g, i, none⟩ = some (.int .u64 ((K.getD i 0 : Nat) : Int))) ∧ (∀ i, w.frozen? ⟨g, i, none⟩ = false) ∧
      (∀ i j, i < n → j < n → (w.setCell ⟨g, i, none⟩ (.int .u64 ((K.getD j 0 : Nat) : Int))).cell? ⟨g, j, none⟩ = some (.int .u64 ((K.getD j 0 : Nat) : Int))) ∧
      (∀ i j, (w.setCell ⟨g, i, none⟩ (.int .u64 ((K.getD j 0 : Nat) : Int))).frozen? ⟨g, j, none⟩ = false) ∧
      ∀ i j, i < n → j < n → TurnAt ((w.setCell ⟨g, i, none⟩ (.int .u64 ((K.getD j 0 : Nat) : Int))).setCell ⟨g, j, none⟩ (.int .u64 ((K.getD i 0 : Nat) : Int))) base (.slice (some ⟨g, 0, none⟩) n cap) n L := by
  obtain ⟨K, h1, h2, h3⟩ := h
  have k0 := fun i j : Nat => owns_put h3 i ((K.getD j 0 : Nat) : Int)
  refine ⟨K, own_cell h3, own_fz h3, fun i j hi hj => ?_, fun i j => own_fz (k0 i j) j, fun i j hi hj => ?_⟩
  · have k1 := k0 i j
    rw [iU_set] at k1
    rw [own_cell k1 j hj]
    congr 3
    by_cases e : i = j
    · subst e
      simp [List.getD_eq_getElem?_getD, h2, hi]
    · simp [List.getD_eq_getElem?_getD, e]
  · have k1 := k0 i j
    rw [iU_set] at k1
    have k2 := owns_put k1 j ((K.getD i 0 : Nat) : Int)
    rw [iU_set] at k2
    exact ⟨_, fun x => (swap_mem (by omega) (by omega) x).trans (h1 x), by simpa using h2, k2⟩
end Go.Proofs.YtllcjmaecgfijaaDoor
