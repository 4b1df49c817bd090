/- An argument that is a list of lists of tokens, opened. -/
import Derived.Test.YtbfhbpibpmgblaaTFrame
import Derived.Test.YtbfhbpibpmgblaaWTt1
namespace Go.Proofs.Ytbfhbpibpmgblaa
open Go.ChangeShapes Go.WideShapes Go.ChangeAt Go.RowKit Go.Joins

theorem Try.cellsToks : Try.prog.cellsOf 29 = 1 := by kernel_rfl
theorem Try.rwSl_of {H : Type} {enc : TypeId × Value → H} {W : World} {a : Option Addr} {len cap : Nat} {d : DataW H} {p : List MemPlace}
    (h : DataW.Trod enc Try.prog W 0 (fun _ => true) true 22 (.slice a len cap) d p) : ∃ rs, RwSl W a len cap rs := by
  obtain ⟨fuel, hf⟩ := h
  rcases Go.Deep.open_slice1 Try.underlying22 Try.cellsToks hf with ⟨hcs, _⟩ | ⟨x, l, c, m, n, V, D, Pl, hcs, _, hl, hm, hmm, _, hx⟩
  · simp [Value.cells] at hcs
    obtain ⟨rfl, rfl, rfl⟩ := hcs
    exact ⟨[], ⟨rfl, Nat.le_refl _, Nat.zero_le _, fun _ => rfl, fun x hx => (by cases hx), fun r hr => (by simp at hr)⟩⟩
  · simp [Value.cells] at hcs
    obtain ⟨rfl, rfl, rfl⟩ := hcs
    simp only [if_true] at hmm
    have key : ∀ i, i < len → ∃ r : Pc, V i = .slice r.a r.len r.cap ∧ TkSl W r.a r.len r.cap r.ts := fun i hi => by
      have h2 := (hx i (by omega)).2
      have hsh : ∃ b l c, V i = .slice b l c := by
        rcases Go.Deep.open_slice_pairs Try.underlying29 Try.underlying61 Try.cellsTok rfl rfl Try.cellsOp Try.cellsU8 h2 with ⟨hcs, _⟩ | ⟨x, l, c, _, _, _, _, _, _, _, _, hcs, _⟩
        · simp at hcs; exact ⟨_, _, _, hcs⟩
        · simp at hcs; exact ⟨_, _, _, hcs⟩
      obtain ⟨b, l, c, hV⟩ := hsh
      rw [hV] at h2
      obtain ⟨ts, hts⟩ := Try.tkSl_of (W := W) (a := b) (len := l) (cap := c) ⟨n, h2⟩
      exact ⟨⟨b, l, c, ts⟩, hV, hts⟩
    haveI : Inhabited Pc := ⟨⟨none, 0, 0, []⟩⟩
    obtain ⟨y, hy⟩ := Go.Deep.choose_lt key
    refine ⟨(List.range len).map y, ⟨by simp, hl, hm, fun hn => (nomatch hn), fun z hz k hk => ?_, fun r hr => ?_⟩⟩
    · injection hz with hz; subst hz
      simp at hk
      have h1 := (hx k (by omega)).1
      rw [(hy k hk).1] at h1
      simpa using h1
    · obtain ⟨i, hi, rfl⟩ := List.mem_map.1 hr
      exact (hy i (List.mem_range.1 hi)).2
end Go.Proofs.Ytbfhbpibpmgblaa
