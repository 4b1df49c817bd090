/- The arguments of stage 14's laws, opened: lists of numbers, lists of them. -/
import Derived.Test.YtmnkkknkmbldhaaRows
import Derived.ProofKit
import Derived.OpenShut
import Derived.ShutString
import Derived.ChangeOld
import Derived.SizedLaws
import Derived.Lib.SmallJoins
import Derived.Deep.SlicePairs
import Derived.Test.YtmnkkknkmbldhaaWGz
namespace Go.Proofs.Ytmnkkknkmbldhaa
open Go.ChangeShapes Go.WideShapes Go.ChangeAt Go.RowKit Go.Joins
open Go.ChangeMaps (open_string shut_string)

theorem Try.own : ownKnob Try.prog.godebug = none := by kernel_rfl
theorem Try.laidOut : laidOutB Try.prog = true := by kernel_rfl
theorem Try.cellsIntF : Try.prog.cellsOf 3 = 1 := by kernel_rfl
theorem Try.cellsIntsF : Try.prog.cellsOf 30 = 1 := by kernel_rfl
theorem Try.zSl_of {H : Type} {enc : TypeId × Value → H} {W : World} {a : Option Addr} {len cap : Nat} {d : DataW H} {p : List MemPlace}
    (h : DataW.Trod enc Try.prog W 0 (fun _ => true) true 30 (.slice a len cap) d p) : ∃ zs : List Int, ZSl W a len cap zs ∧ ∀ z ∈ zs, I64 z := by
  obtain ⟨fuel, hf⟩ := h
  rcases open_ints Try.underlying30 Try.underlying3 Try.cellsIntF hf with ⟨hcs, _⟩ | ⟨x, l, c, zs, hcs, _, hl, hm, hz, _, hcell, hwz⟩
  · simp [Value.cells] at hcs
    obtain ⟨rfl, rfl, rfl⟩ := hcs
    exact ⟨[], ⟨rfl, Nat.le_refl _, Nat.zero_le _, fun m k w hk hm => absurd hk (by omega), fun k hk => absurd hk (by omega), fun k hk => absurd hk (by omega), fun _ => rfl⟩, fun z hz => by simp at hz⟩
  · simp [Value.cells] at hcs
    obtain ⟨rfl, rfl, rfl⟩ := hcs
    simp only [if_true] at hz
    have hc : ∀ k, k < len → W.cell? (adOf (some x) k) = some (.int .i64 ((zs.take len).getD k 0)) := fun k hk => by
      have := hcell k (by omega)
      simp only [adOf]
      rw [this]; simp [List.getD_eq_getElem?_getD, hk]
    refine ⟨zs.take len, ⟨by simp; omega, hl, hm, fun n k w hk hn => idx_of Try.underlying30 Try.sizeInt (by simp) k w hk, hc, fun k hk => World.block_lt_of_cell? W _ (hc k hk), by simp⟩, fun z hz => ?_⟩
    have := bounds_i64 (hwz z (List.mem_of_mem_take hz))
    exact ⟨by omega, by omega⟩
theorem Try.zzSl_of {H : Type} {enc : TypeId × Value → H} {W : World} {a : Option Addr} {len cap : Nat} {d : DataW H} {p : List MemPlace}
    (h : DataW.Trod enc Try.prog W 0 (fun _ => true) true 22 (.slice a len cap) d p) : ∃ rs, ZzSl W a len cap rs := by
  obtain ⟨fuel, hf⟩ := h
  rcases Go.Deep.open_slice1 Try.underlying22 Try.cellsIntsF hf with ⟨hcs, _⟩ | ⟨x, l, c, m, n, V, D, Pl, hcs, _, hl, hm, hmm, _, hx⟩
  · simp [Value.cells] at hcs
    obtain ⟨rfl, rfl, rfl⟩ := hcs
    exact ⟨[], ⟨rfl, Nat.le_refl _, Nat.zero_le _, fun _ => rfl, fun x hx => (by cases hx), fun r hr => (by simp at hr)⟩⟩
  · simp [Value.cells] at hcs
    obtain ⟨rfl, rfl, rfl⟩ := hcs
    simp only [if_true] at hmm
    have key : ∀ i, i < len → ∃ r : Zc, V i = .slice r.a r.len r.cap ∧ ZSl W r.a r.len r.cap r.zs ∧ ∀ z ∈ r.zs, I64 z := fun i hi => by
      have h2 := (hx i (by omega)).2
      have hsh : ∃ b l c, V i = .slice b l c := by
        rcases open_ints Try.underlying30 Try.underlying3 Try.cellsIntF h2 with ⟨hcs, _⟩ | ⟨x, l, c, _, hcs, _⟩
        · simp at hcs; exact ⟨_, _, _, hcs⟩
        · simp at hcs; exact ⟨_, _, _, hcs⟩
      obtain ⟨b, l, c, hV⟩ := hsh
      rw [hV] at h2
      obtain ⟨ts, hts, hok⟩ := Try.zSl_of (W := W) (a := b) (len := l) (cap := c) ⟨n, h2⟩
      exact ⟨⟨b, l, c, ts⟩, hV, hts, hok⟩
    haveI : Inhabited Zc := ⟨⟨none, 0, 0, []⟩⟩
    obtain ⟨y, hy⟩ := Go.Deep.choose_lt key
    refine ⟨(List.range len).map y, ⟨by simp, hl, hm, fun hn => (by cases hn), fun z hz k hk => ?_, fun r hr => ?_⟩⟩
    · injection hz with hz; subst hz
      simp at hk
      have h1 := (hx k (by omega)).1
      rw [(hy k hk).1] at h1
      simpa using h1
    · obtain ⟨i, hi, rfl⟩ := List.mem_map.1 hr
      exact (hy i (List.mem_range.1 hi)).2
end Go.Proofs.Ytmnkkknkmbldhaa
