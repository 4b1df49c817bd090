/- The arguments of this seat's laws, opened; the library's variable that the contracts of Split ask for. -/
import Derived.Test.YtmmjihalpmahnaaDoorDFrame
import Derived.Test.YtmmjihalpmahnaaDoorWAwake
namespace Go.Proofs.YtmmjihalpmahnaaDoor
open Go.ChangeShapes Go.WideShapes Go.ChangeAt Go.RowKit
open Go.ChangeMaps (open_string shut_string)

theorem Tryd.cellsStr : Tryd.prog.cellsOf 9 = 1 := by kernel_rfl

theorem Tryd.strSl_of {H : Type} {enc : TypeId × Value → H} {W : World} {a : Option Addr} {len cap : Nat} {d : DataW H} {p : List MemPlace}
    (h : DataW.Trod enc Tryd.prog W 0 (fun _ => true) true 22 (.slice a len cap) d p) : ∃ ss, StrSl Tryd.prog 22 W a len cap (adOf a) ss := by
  obtain ⟨fuel, hf⟩ := h
  rcases open_strings Tryd.underlying22 Tryd.underlying9 Tryd.cellsStr hf with ⟨hcs, _⟩ | ⟨x, l, c, ss, hcs, _, hl, hm, hz, _, hcell, hws⟩
  · simp [Value.cells] at hcs
    obtain ⟨rfl, rfl, rfl⟩ := hcs
    exact ⟨[], rfl, Nat.le_refl _, Nat.zero_le _, fun n k w hk hn => absurd hk (by omega), fun k hk => absurd hk (by omega), fun k hk => absurd hk (by omega), fun k => by simp [maxLen, ByteArray.size_empty], fun _ => rfl⟩
  · simp [Value.cells] at hcs
    obtain ⟨rfl, rfl, rfl⟩ := hcs
    simp only [if_true] at hz
    have hc : ∀ k, k < len → W.cell? (adOf (some x) k) = some (.string ((ss.take len).getD k ByteArray.empty)) := fun k hk => by
      have := hcell k (by omega)
      simp only [adOf]
      rw [this]; simp [List.getD_eq_getElem?_getD, hk]
    refine ⟨ss.take len, by simp; omega, hl, hm, fun n k w hk hn => idx_of Tryd.underlying22 Tryd.sizeStr (by simp) k w hk, hc, fun k hk => World.block_lt_of_cell? W _ (hc k hk), fun k => ?_, by simp⟩
    by_cases hk : k < (ss.take len).length
    · have e : (ss.take len).getD k ByteArray.empty = (ss.take len)[k] := by simp [List.getD_eq_getElem?_getD, List.getElem?_eq_getElem hk]
      rw [e]; exact hws _ (List.mem_of_mem_take (List.getElem_mem hk))
    · rw [List.getD_eq_getElem?_getD, List.getElem?_eq_none (by omega)]; simp [maxLen, ByteArray.size_empty]

theorem Tryd.cellsLet : Tryd.prog.cellsOf 23 = 1 := by kernel_rfl
theorem Tryd.letSl_of {H : Type} {enc : TypeId × Value → H} {W : World} {a : Option Addr} {len cap : Nat} {d : DataW H} {p : List MemPlace}
    (h : DataW.Trod enc Tryd.prog W 0 (fun _ => true) true 24 (.slice a len cap) d p) : ∃ zs, IntSl Tryd.prog 24 .u8 W a len cap zs ∧ ∀ z ∈ zs, 0 ≤ z ∧ z < 256 := by
  obtain ⟨fuel, hf⟩ := h
  rcases open_ints Tryd.underlying24 Tryd.underlying23 Tryd.cellsLet hf with ⟨hcs, _⟩ | ⟨x, l, c, zs, hcs, _, hl, hm, hz, _, hcell, hwz⟩
  · simp [Value.cells] at hcs
    obtain ⟨rfl, rfl, rfl⟩ := hcs
    exact ⟨[], intSl_nil, fun z hz => by simp at hz⟩
  · simp [Value.cells] at hcs
    obtain ⟨rfl, rfl, rfl⟩ := hcs
    simp only [if_true] at hz
    have hc : ∀ k, k < len → W.cell? (adOf (some x) k) = some (.int .u8 ((zs.take len).getD k 0)) := fun k hk => by
      have := hcell k (by omega)
      simp only [adOf]
      rw [this]; simp [List.getD_eq_getElem?_getD, hk]
    refine ⟨zs.take len, ⟨by simp; omega, hl, hm, fun n k w hk hn => idx_of Tryd.underlying24 Tryd.sizeLet (by simp) k w hk, hc, fun k hk => World.block_lt_of_cell? W _ (hc k hk), by simp⟩, fun z hz => ?_⟩
    have := bounds_u8 (hwz z (List.mem_of_mem_take hz)); omega
theorem Tryd.maxOk {W : World} (h : W.ShapedOpen Tryd.prog) : MaxOk W := Tryd.laysM146.s1_3 W h
end Go.Proofs.YtmmjihalpmahnaaDoor
