/- Stage 6's rows: names and tokens opened, the listed variables read. -/
import Derived.Test.YtfipefbaabkdeaaGreatDoorPFrame
import Derived.Test.YtfipefbaabkdeaaGreatDoorSFrame
import Derived.Deep.SlicePairs
namespace Go.Proofs.YtfipefbaabkdeaaGreatDoor
open Go.ChangeShapes Go.WideShapes Go.ChangeAt Go.RowKit

theorem Tryz.cellsTok : Tryz.prog.cellsOf 41 = 2 := by kernel_rfl
theorem Tryz.cellsOp : Tryz.prog.cellsOf 39 = 1 := by kernel_rfl
theorem Tryz.cellsU8 : Tryz.prog.cellsOf 5 = 1 := by kernel_rfl
def vNat : Value → Nat
  | .int _ z => z.toNat
  | _ => 0
theorem Tryz.tkSl_of {H : Type} {enc : TypeId × Value → H} {W : World} {a : Option Addr} {len cap : Nat} {d : DataW H} {p : List MemPlace}
    (h : DataW.Trod enc Tryz.prog W 0 (fun _ => true) true 23 (.slice a len cap) d p) : ∃ ts, TkSl W a len cap ts := by
  obtain ⟨fuel, hf⟩ := h
  rcases Go.Deep.open_slice_pairs Tryz.underlying23 Tryz.underlying41 Tryz.cellsTok rfl rfl Tryz.cellsOp Tryz.cellsU8 hf with ⟨hcs, _⟩ | ⟨x, l, c, m, n, V0, V1, D0, D1, P0, P1, hcs, _, hl, hm, hmm, _, hall⟩
  · simp [Value.cells] at hcs
    obtain ⟨rfl, rfl, rfl⟩ := hcs
    exact ⟨[], TkSl.nil⟩
  · simp [Value.cells] at hcs
    obtain ⟨rfl, rfl, rfl⟩ := hcs
    simp only [if_true] at hmm
    subst hmm
    have key : ∀ i, i < len → W.cell? (x.add (2 * i)) = some (.int .u8 ((vNat (V0 i) : Nat) : Int)) ∧ W.cell? (x.add (2 * i + 1)) = some (.int .u8 ((vNat (V1 i) : Nat) : Int)) ∧ vNat (V0 i) < 256 ∧ vNat (V1 i) < 256 := fun i hi => by
      obtain ⟨h0, h1, h2, h3⟩ := hall i (by omega)
      obtain ⟨z0, e0, _, w0⟩ := DataW.trod_int Tryz.underlying39 h2
      obtain ⟨z1, e1, _, w1⟩ := DataW.trod_int Tryz.underlying5 h3
      simp at e0 e1
      have b0 := bounds_u8 w0
      have b1 := bounds_u8 w1
      rw [Nat.mul_comm] at h0 h1
      rw [e0] at h0
      rw [e1] at h1
      have q0 : ((vNat (V0 i) : Nat) : Int) = z0 := by rw [e0]; show ((z0.toNat : Nat) : Int) = z0; omega
      have q1 : ((vNat (V1 i) : Nat) : Int) = z1 := by rw [e1]; show ((z1.toNat : Nat) : Int) = z1; omega
      rw [q0, q1]
      exact ⟨h0, h1, by omega, by omega⟩
    refine ⟨(List.range len).map fun i => (vNat (V0 i), vNat (V1 i)), ⟨by simp, hl, hm, fun hn => (nomatch hn), fun y hy k hk => ?_, fun y hy k hk => ?_, fun t ht => ?_⟩⟩
    · injection hy with hy; subst hy
      simp at hk
      simpa using (key k hk).1
    · injection hy with hy; subst hy
      simp at hk
      simpa using (key k hk).2.1
    · obtain ⟨i, hi, rfl⟩ := List.mem_map.1 ht
      exact (key i (List.mem_range.1 hi)).2.2
theorem opT_laid {W0 W : World} (h : laidMetH Tryz.prog laidList W0) (hh : W0.heap = W.heap) : OpT W := by
  rw [MakeChecks.laidMetH_plain _ _ _ (by kernel_rfl)] at h
  exact opT_of_laid (by simp [laidList]) h hh
end Go.Proofs.YtfipefbaabkdeaaGreatDoor
