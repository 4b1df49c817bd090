/- The arguments of stage 10's laws, opened: lists of sets, lists of ints. -/
import Derived.Test.YtllcjmaecgfijaaRows
import Derived.ProofKit
import Derived.OpenShut
import Derived.ShutString
import Derived.ChangeOld
import Derived.SizedLaws
import Derived.Lib.SmallJoins
import Derived.Test.YtllcjmaecgfijaaWSe1
namespace Go.Proofs.Ytllcjmaecgfijaa
open Go.ChangeShapes Go.WideShapes Go.ChangeAt Go.RowKit Go.Joins
open Go.ChangeMaps (open_string shut_string)

theorem Try.own : ownKnob Try.prog.godebug = none := by kernel_rfl
theorem Try.laidOut : laidOutB Try.prog = true := by kernel_rfl
theorem nats_of {zs : List Int} (h : ∀ z ∈ zs, 0 ≤ z ∧ z < 18446744073709551616) : ∃ l : List Nat, zs = iU l ∧ Sm l := by
  induction zs with
  | nil => exact ⟨[], rfl, fun x hx => by cases hx⟩
  | cons z zs ih =>
    obtain ⟨l, h1, h2⟩ := ih fun y hy => h y (List.mem_cons_of_mem _ hy)
    obtain ⟨b1, b2⟩ := h z (List.mem_cons_self)
    refine ⟨z.toNat :: l, ?_, fun x hx => ?_⟩
    · rw [h1]
      simp only [iU, List.map_cons]
      rw [Int.toNat_of_nonneg b1]
    · rcases List.mem_cons.1 hx with rfl | hx
      · omega
      · exact h2 x hx
theorem Try.cellsU64 : Try.prog.cellsOf 23 = 1 := by kernel_rfl
theorem Try.uSl_of {H : Type} {enc : TypeId × Value → H} {W : World} {a : Option Addr} {len cap : Nat} {d : DataW H} {p : List MemPlace}
    (h : DataW.Trod enc Try.prog W 0 (fun _ => true) true 22 (.slice a len cap) d p) : ∃ l : List Nat, USl W a len cap l ∧ Sm l := by
  obtain ⟨fuel, hf⟩ := h
  rcases open_ints Try.underlying22 Try.underlying23 Try.cellsU64 hf with ⟨hcs, _⟩ | ⟨x, l, c, zs, hcs, _, hl, hm, hz, _, hcell, hwz⟩
  · simp [Value.cells] at hcs
    obtain ⟨rfl, rfl, rfl⟩ := hcs
    exact ⟨[], usl_nil, fun z hz => by simp at hz⟩
  · simp [Value.cells] at hcs
    obtain ⟨rfl, rfl, rfl⟩ := hcs
    simp only [if_true] at hz
    have hc : ∀ k, k < len → W.cell? (adOf (some x) k) = some (.int .u64 ((zs.take len).getD k 0)) := fun k hk => by
      have := hcell k (by omega)
      simp only [adOf]
      rw [this]; simp [List.getD_eq_getElem?_getD, hk]
    obtain ⟨l, e, hs⟩ := nats_of (zs := zs.take len) fun z hz => by
      have := hwz z (List.mem_of_mem_take hz)
      have h2 := bounds_u64 this
      omega
    refine ⟨l, ?_, hs⟩
    show IntSl _ _ _ _ _ _ _ (iU l)
    rw [← e]
    exact ⟨by simp; omega, hl, hm, fun n k w hk hn => idx_of Try.underlying22 Try.sizeU64 (by simp) k w hk, hc, fun k hk => World.block_lt_of_cell? W _ (hc k hk), by simp⟩
theorem Try.cellsInt : Try.prog.cellsOf 3 = 1 := by kernel_rfl
theorem Try.sizeIntF : (Try.prog.info? 3).map (·.size) = some 1 := by kernel_rfl
theorem Try.iSl_of {H : Type} {enc : TypeId × Value → H} {W : World} {a : Option Addr} {len cap : Nat} {d : DataW H} {p : List MemPlace}
    (h : DataW.Trod enc Try.prog W 0 (fun _ => true) true 39 (.slice a len cap) d p) : ∃ zs : List Int, IntSl Try.prog 39 .i64 W a len cap zs := by
  obtain ⟨fuel, hf⟩ := h
  rcases open_ints Try.underlying39 Try.underlying3 Try.cellsInt hf with ⟨hcs, _⟩ | ⟨x, l, c, zs, hcs, _, hl, hm, hz, _, hcell, hwz⟩
  · simp [Value.cells] at hcs
    obtain ⟨rfl, rfl, rfl⟩ := hcs
    exact ⟨[], rfl, Nat.le_refl _, Nat.zero_le _, fun m k w hk hm => absurd hk (by omega), fun k hk => absurd hk (by omega), fun k hk => absurd hk (by omega), fun _ => rfl⟩
  · simp [Value.cells] at hcs
    obtain ⟨rfl, rfl, rfl⟩ := hcs
    simp only [if_true] at hz
    have hc : ∀ k, k < len → W.cell? (adOf (some x) k) = some (.int .i64 ((zs.take len).getD k 0)) := fun k hk => by
      have := hcell k (by omega)
      simp only [adOf]
      rw [this]; simp [List.getD_eq_getElem?_getD, hk]
    exact ⟨zs.take len, by simp; omega, hl, hm, fun n k w hk hn => idx_of Try.underlying39 Try.sizeIntF (by simp) k w hk, hc, fun k hk => World.block_lt_of_cell? W _ (hc k hk), by simp⟩
end Go.Proofs.Ytllcjmaecgfijaa
