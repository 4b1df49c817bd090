/- The document's guard: fits; the variable that holds an automaton. -/
import Derived.Test.YtmnkkknkmbldhaaWGr2
namespace Go.Proofs.Ytmnkkknkmbldhaa
open Go.RowKit Go.Maps

/-- May a reference stand there? -/
def fitB (m : Nat) (N : List Gd) (a : Nat) (p r : Int) : Bool := if r < 0 then decide (-(m : Int) ≤ r) else decide (r < (a : Int)) && decide (p < (N.getD r.toNat (0, 0, 0)).1)
theorem fitB_iff {m : Nat} {N : List Gd} {a : Nat} {p r : Int} (ha : a ≤ N.length) : fitB m N a p r = true ↔ FitG m N a p r := by
  unfold fitB FitG
  by_cases h : r < 0
  · simp only [h, if_true, decide_eq_true_eq, true_and]
    constructor
    · exact fun h1 => .inl h1
    · rintro (h1 | ⟨i, e, _⟩)
      · exact h1
      · omega
  · simp only [h, if_false, Bool.and_eq_true, decide_eq_true_eq, false_and, false_or]
    constructor
    · rintro ⟨h1, h2⟩
      have hl : r.toNat < N.length := by omega
      refine ⟨r.toNat, by omega, by omega, N[r.toNat], List.getElem?_eq_getElem hl, ?_⟩
      simpa [List.getD_eq_getElem?_getD, List.getElem?_eq_getElem hl] using h2
    · rintro ⟨i, rfl, h1, nd, h2, h3⟩
      refine ⟨by omega, ?_⟩
      simpa [List.getD_eq_getElem?_getD, h2] using h3
/-- The variable that holds an automaton. -/
structure AuB (w : World) (g : Nat) (p : Int) (aA : Option Addr) (nA cA : Nat) (aG : Option Addr) (nG cG : Nat) (aN : Option Addr) (nN cN : Nat) : Prop where
  c0 : w.cell? ⟨g, 0, none⟩ = some (.int .i64 p)
  c1 : w.cell? ⟨g, 1, none⟩ = some (.slice aA nA cA)
  c2 : w.cell? ⟨g, 2, none⟩ = some (.slice aG nG cG)
  c3 : w.cell? ⟨g, 3, none⟩ = some (.slice aN nN cN)
theorem AuB.up {w w' : World} {g : Nat} {p : Int} {aA : Option Addr} {nA cA : Nat} {aG : Option Addr} {nG cG : Nat} {aN : Option Addr} {nN cN : Nat} (h : AuB w g p aA nA cA aG nG cG aN nN cN) (hb : Below w.heap.size w w') : AuB w' g p aA nA cA aG nG cG aN nN cN := ⟨kept_cell h.c0 hb, kept_cell h.c1 hb, kept_cell h.c2 hb, kept_cell h.c3 hb⟩
theorem aub_new (w : World) (p : Int) (aA : Option Addr) (nA cA : Nat) (aG : Option Addr) (nG cG : Nat) (aN : Option Addr) (nN cN : Nat) : AuB (w.alloc (.cells #[.int .i64 p, .slice aA nA cA, .slice aG nG cG, .slice aN nN cN] 48 (0, 0))) w.heap.size p aA nA cA aG nG cG aN nN cN := by
  have h := (MapKept.heap_alloc w (.cells #[.int .i64 p, .slice aA nA cA, .slice aG nG cG, .slice aN nN cN] 48 (0, 0))).1
  exact ⟨cell_row h 0, cell_row h 1, cell_row h 2, cell_row h 3⟩
set_option maxRecDepth 100000 in
set_option maxHeartbeats 4000000 in
theorem Try.rfits_any (p0 : Int) (aA : Option Addr) (nA cA : Nat) (aG : Option Addr) (nG cG : Nat) (aN : Option Addr) (nN cN : Nat) (N : List Gd) (r : Int) (a : Nat) (p : Int) (w : World) (hN : NdSl w aN nN cN N) (ha : a ≤ nN) (hA : nA ≤ 1000000) :
    Calls Try.prog 42 #[.agg #[.int .i64 p0, .slice aA nA cA, .slice aG nG cG, .slice aN nN cN], .int .i64 r, .int .i64 (a : Int), .int .i64 p] w fun e w' => e = .returned (.bool (fitB nA N a p r)) ∧ Below w.heap.size w w' := by
  have HB0 : Hid _ := below_new w (.cells #[.int .i64 p0, .slice aA nA cA, .slice aG nG cG, .slice aN nN cN] 48 (0, 0))
  obtain ⟨c0, c1, c2, c3⟩ := aub_new w p0 aA nA cA aG nG cG aN nN cN
  by_cases hr : r < 0
  · have HX : Hid (fitB nA N a p r = decide (-(nA : Int) ≤ r)) := by show _ = _; simp [fitB, hr]
    generalize fitB nA N a p r = b at *
    go_enter Try.func42, Try.ntmps42
    go_wp2
    go_ret
    exact ⟨by rw [HX.out]; rfl, HB0.out⟩
  · obtain ⟨i, rfl⟩ : ∃ i : Nat, r = (i : Int) := ⟨r.toNat, by omega⟩
    by_cases hi : i < a
    · have hil : i < nN := by omega
      obtain ⟨g, o, s, hix, d0, _, _, _, _, _⟩ := (hN.up HB0.out).at Try.underlying38 Try.sizeNode i hil
      have hidx := fun w' => hix nN w' hil
      have HX : Hid (fitB nA N a p (i : Int) = decide (p < (N.getD i (0, 0, 0)).1)) := by
        have hc : (i : Int) < (a : Int) := by omega
        show _ = _; unfold fitB; rw [if_neg hr, Int.toNat_natCast, decide_eq_true hc, Bool.true_and]
      clear hix hN
      generalize (N.getD i (0, 0, 0)).1 = P at *
      generalize fitB nA N a p (i : Int) = b at *
      clear hr
      go_enter Try.func42, Try.ntmps42
      go_wp2
      go_ret
      exact ⟨by rw [HX.out]; rfl, HB0.out⟩
    · have HX : Hid (fitB nA N a p (i : Int) = false) := by
        have hc : ¬ (i : Int) < (a : Int) := by omega
        show _ = _; unfold fitB; rw [if_neg hr, decide_eq_false hc, Bool.false_and]
      clear hN
      generalize fitB nA N a p (i : Int) = b at *
      clear hr
      go_enter Try.func42, Try.ntmps42
      go_wp2
      go_ret
      exact ⟨by rw [HX.out]; rfl, HB0.out⟩
end Go.Proofs.Ytmnkkknkmbldhaa
