/- A door seat's rows with names: they are opened. -/
import Derived.Test.YtfipefbaabkdeaaGreatDoorLFrame
import Derived.Test.YtfipefbaabkdeaaGreatDoorWCheck
namespace Go.Proofs.YtfipefbaabkdeaaGreatDoor
open Go.ChangeShapes Go.WideShapes Go.ChangeAt Go.RowKit

theorem Tryz.cellsStr : Tryz.prog.cellsOf 9 = 1 := by kernel_rfl

theorem Tryz.strSl_of {H : Type} {enc : TypeId × Value → H} {W : World} {a : Option Addr} {len cap : Nat} {d : DataW H} {p : List MemPlace}
    (h : DataW.Trod enc Tryz.prog W 0 (fun _ => true) true 22 (.slice a len cap) d p) : ∃ ss, StrSl Tryz.prog 22 W a len cap (adOf a) ss := by
  obtain ⟨fuel, hf⟩ := h
  rcases open_strings Tryz.underlying22 Tryz.underlying9 Tryz.cellsStr hf with ⟨hcs, _⟩ | ⟨x, l, c, ss, hcs, _, hl, hm, hz, _, hcell, hws⟩
  · simp [Value.cells] at hcs
    obtain ⟨rfl, rfl, rfl⟩ := hcs
    exact ⟨[], rfl, Nat.le_refl _, Nat.zero_le _, fun n k w hk hn => absurd hk (by omega), fun k hk => absurd hk (by omega), fun k hk => absurd hk (by omega), fun k => by simp [maxLen, ByteArray.size_empty], fun _ => rfl⟩
  · simp [Value.cells] at hcs
    obtain ⟨rfl, rfl, rfl⟩ := hcs
    simp only [if_true] at hz
    have hc : ∀ k, k < len → W.cell? (adOf (some x) k) = some (.string ((ss.take len).getD k ByteArray.empty)) := fun k hk => by
      have := hcell k (by omega)
      simp only [adOf]
      rw [this]; simp [List.getD_eq_getElem?_getD, hk]
    refine ⟨ss.take len, by simp; omega, hl, hm, fun n k w hk hn => idx_of Tryz.underlying22 Tryz.sizeStr (by simp) k w hk, hc, fun k hk => World.block_lt_of_cell? W _ (hc k hk), fun k => ?_, by simp⟩
    by_cases hk : k < (ss.take len).length
    · have e : (ss.take len).getD k ByteArray.empty = (ss.take len)[k] := by simp [List.getD_eq_getElem?_getD, List.getElem?_eq_getElem hk]
      rw [e]; exact hws _ (List.mem_of_mem_take (List.getElem_mem hk))
    · rw [List.getD_eq_getElem?_getD, List.getElem?_eq_none (by omega)]; simp [maxLen, ByteArray.size_empty]
end Go.Proofs.YtfipefbaabkdeaaGreatDoor
