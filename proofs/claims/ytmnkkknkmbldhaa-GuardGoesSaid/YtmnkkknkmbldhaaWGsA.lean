/- Package guard: mayBeSide. -/
import Derived.Test.YtmnkkknkmbldhaaWGs9
import Derived.Lib.QuietBelow
import Derived.BigQuiet
namespace Go.Proofs.Ytmnkkknkmbldhaa
open Go.RowKit Go.Maps Go.Sort

/-- The walk of mayBeSide. -/
theorem fitB_node {m : Nat} {N : List Gd} {a i : Nat} {p : Int} : fitB m N a p (i : Int) = (decide ((i : Int) < (a : Int)) && decide (p < (N.getD i (0, 0, 0)).1)) := by
  have h : ¬ (i : Int) < 0 := by omega
  unfold fitB; rw [if_neg h, Int.toNat_natCast]
theorem fitB_neg {m : Nat} {N : List Gd} {a : Nat} {p r : Int} (h : r < 0) : fitB m N a p r = isB m r := by
  unfold fitB isB; rw [if_pos h, decide_eq_true h, Bool.true_and]
  by_cases h1 : -(m : Int) ≤ r
  · rw [decide_eq_true h1, decide_eq_true (by omega)]
  · rw [decide_eq_false h1, decide_eq_false (by omega)]
theorem isB_node (m i : Nat) : isB m (i : Int) = false := by
  have h : ¬ (i : Int) < 0 := by omega
  unfold isB; rw [decide_eq_false h, Bool.false_and]
set_option maxRecDepth 100000 in
set_option maxHeartbeats 4000000 in
theorem Try.gside2_any (p0 : Int) (aA : Option Addr) (nA cA : Nat) (aG : Option Addr) (nG cG : Nat) (aN : Option Addr) (nN cN : Nat) (N : List Gd) (at_ : Nat) (r : Int) (w : World) (hN : NdSl w aN nN cN N) (ha : at_ < nN) (hr : I64 r) :
    Calls Try.prog 51 #[.agg #[.int .i64 p0, .slice aA nA cA, .slice aG nG cG, .slice aN nN cN], .int .i64 (at_ : Int), .int .i64 r] w fun e w' => e = .returned (.bool (fitB nA N at_ (N.getD at_ (0, 0, 0)).1 r)) ∧ Below w.heap.size w w' := by
  have hcN := Nat.le_trans hN.hcap hN.bd
  unfold maxLen at hcN
  have HB0 : Hid _ := below_new w (.cells #[.int .i64 p0, .slice aA nA cA, .slice aG nG cG, .slice aN nN cN] 48 (0, 0))
  obtain ⟨c0, c1, c2, c3⟩ := aub_new w p0 aA nA cA aG nG cG aN nN cN
  have js := fun w => Try.gisState_any p0 aA nA cA aG nG cG aN nN cN r w hr
  by_cases hn : r < 0
  · rw [fitB_neg hn]
    have d1 : decide (0 ≤ r) = false := by simpa using hn
    generalize isB nA r = b at *
    clear hr hn hN
    cases b with
    | true =>
      have k0 := cell_regrown c0
      have k1 := cell_regrown c1
      have k2 := cell_regrown c2
      have k3 := cell_regrown c3
      have cS : ∀ d os, Calls Try.prog 49 #[.agg #[.int .i64 p0, .slice aA nA cA, .slice aG nG cG, .slice aN nN cN], .int .i64 r] (grow (redrawn (w.alloc (.cells #[.int .i64 p0, .slice aA nA cA, .slice aG nG cG, .slice aN nN cN] 48 (0, 0))) d) os) fun e w'' => e = .returned (.bool true) ∧ ∃ p : Regrown, w'' = grow (redrawn (w.alloc (.cells #[.int .i64 p0, .slice aA nA cA, .slice aG nG cG, .slice aN nN cN] 48 (0, 0))) p.d) p.os := fun d os => Calls.regrown_of (js _)
      have HE : Hid (∀ d os, Below w.heap.size w (grow (redrawn (w.alloc (.cells #[.int .i64 p0, .slice aA nA cA, .slice aG nG cG, .slice aN nN cN] 48 (0, 0))) d) os)) := fun d os => below_step HB0.out (below_regrown _ d os)
      clear js c0 c1 c2 c3
      go_enter Try.func51, Try.ntmps51
      go_wp2_with fail
      refine wp_region_quiet_below (by kernel_rfl) (by kernel_rfl) ?_
      repeat (go_big_quiet_step (exact cS _ _))
      refine wpQuiet_nil ?_
      intro _ hw'
      obtain ⟨⟨dq, osq⟩, hw''⟩ := hw'
      subst hw''
      go_wp2
      go_ret
      exact ⟨rfl, HE.out _ _⟩
    | false =>
      have k0 := cell_regrown c0
      have k1 := cell_regrown c1
      have k2 := cell_regrown c2
      have k3 := cell_regrown c3
      have cS : ∀ d os, Calls Try.prog 49 #[.agg #[.int .i64 p0, .slice aA nA cA, .slice aG nG cG, .slice aN nN cN], .int .i64 r] (grow (redrawn (w.alloc (.cells #[.int .i64 p0, .slice aA nA cA, .slice aG nG cG, .slice aN nN cN] 48 (0, 0))) d) os) fun e w'' => e = .returned (.bool false) ∧ ∃ p : Regrown, w'' = grow (redrawn (w.alloc (.cells #[.int .i64 p0, .slice aA nA cA, .slice aG nG cG, .slice aN nN cN] 48 (0, 0))) p.d) p.os := fun d os => Calls.regrown_of (js _)
      have HE : Hid (∀ d os, Below w.heap.size w (grow (redrawn (w.alloc (.cells #[.int .i64 p0, .slice aA nA cA, .slice aG nG cG, .slice aN nN cN] 48 (0, 0))) d) os)) := fun d os => below_step HB0.out (below_regrown _ d os)
      clear js c0 c1 c2 c3
      go_enter Try.func51, Try.ntmps51
      go_wp2_with fail
      refine wp_region_quiet_below (by kernel_rfl) (by kernel_rfl) ?_
      repeat (go_big_quiet_step (exact cS _ _))
      refine wpQuiet_nil ?_
      intro _ hw'
      obtain ⟨⟨dq, osq⟩, hw''⟩ := hw'
      subst hw''
      go_wp2
      go_ret
      exact ⟨rfl, HE.out _ _⟩
  · obtain ⟨i, rfl⟩ : ∃ i : Nat, r = (i : Int) := ⟨r.toNat, by omega⟩
    rw [isB_node] at js
    have d1 : decide ((0 : Int) ≤ (i : Int)) = true := by simp
    by_cases hi : i < at_
    · have hil : i < nN := by omega
      have hN1 := hN.up HB0.out
      obtain ⟨g1, o1, s1, hix1, x1, _, _, _, _, _⟩ := hN1.at Try.underlying38 Try.sizeNode i hil
      obtain ⟨g2, o2, s2, hix2, x2, _, _, _, _, _⟩ := hN1.at Try.underlying38 Try.sizeNode at_ ha
      have hid1 := fun w' => hix1 nN w' hil
      have hid2 := fun w' => hix2 nN w' ha
      have HX : Hid (fitB nA N at_ (N.getD at_ (0, 0, 0)).1 (i : Int) = decide ((N.getD at_ (0, 0, 0)).1 < (N.getD i (0, 0, 0)).1)) := by show _ = _; rw [fitB_node, decide_eq_true (by omega), Bool.true_and]
      have d2 : decide ((i : Int) < (at_ : Int)) = true := by simpa using hi
      clear hix1 hix2 hN1 hN hr hn
      generalize fitB nA N at_ (N.getD at_ (0, 0, 0)).1 (i : Int) = b at *
      generalize (N.getD at_ (0, 0, 0)).1 = P2 at *
      generalize (N.getD i (0, 0, 0)).1 = P1 at *
      have k0 := cell_regrown c0
      have k1 := cell_regrown c1
      have k2 := cell_regrown c2
      have k3 := cell_regrown c3
      have k4 := cell_regrown x1
      have k5 := cell_regrown x2
      have cS : ∀ d os, Calls Try.prog 49 #[.agg #[.int .i64 p0, .slice aA nA cA, .slice aG nG cG, .slice aN nN cN], .int .i64 (i : Int)] (grow (redrawn (w.alloc (.cells #[.int .i64 p0, .slice aA nA cA, .slice aG nG cG, .slice aN nN cN] 48 (0, 0))) d) os) fun e w'' => e = .returned (.bool false) ∧ ∃ p : Regrown, w'' = grow (redrawn (w.alloc (.cells #[.int .i64 p0, .slice aA nA cA, .slice aG nG cG, .slice aN nN cN] 48 (0, 0))) p.d) p.os := fun d os => Calls.regrown_of (js _)
      have HE : Hid (∀ d os, Below w.heap.size w (grow (redrawn (w.alloc (.cells #[.int .i64 p0, .slice aA nA cA, .slice aG nG cG, .slice aN nN cN] 48 (0, 0))) d) os)) := fun d os => below_step HB0.out (below_regrown _ d os)
      clear js c0 c1 c2 c3 x1 x2
      go_enter Try.func51, Try.ntmps51
      go_wp2_with fail
      refine wp_region_quiet_below (by kernel_rfl) (by kernel_rfl) ?_
      repeat (go_big_quiet_step (exact cS _ _))
      refine wpQuiet_nil ?_
      intro _ hw'
      obtain ⟨⟨dq, osq⟩, hw''⟩ := hw'
      subst hw''
      go_wp2
      go_ret
      exact ⟨by rw [HX.out]; rfl, HE.out _ _⟩
    · have HX : Hid (fitB nA N at_ (N.getD at_ (0, 0, 0)).1 (i : Int) = false) := by show _ = _; rw [fitB_node, decide_eq_false (by omega), Bool.false_and]
      have d2 : decide ((i : Int) < (at_ : Int)) = false := by simpa using hi
      generalize fitB nA N at_ (N.getD at_ (0, 0, 0)).1 (i : Int) = b at *
      clear hN hr hn
      have k0 := cell_regrown c0
      have k1 := cell_regrown c1
      have k2 := cell_regrown c2
      have k3 := cell_regrown c3
      have cS : ∀ d os, Calls Try.prog 49 #[.agg #[.int .i64 p0, .slice aA nA cA, .slice aG nG cG, .slice aN nN cN], .int .i64 (i : Int)] (grow (redrawn (w.alloc (.cells #[.int .i64 p0, .slice aA nA cA, .slice aG nG cG, .slice aN nN cN] 48 (0, 0))) d) os) fun e w'' => e = .returned (.bool false) ∧ ∃ p : Regrown, w'' = grow (redrawn (w.alloc (.cells #[.int .i64 p0, .slice aA nA cA, .slice aG nG cG, .slice aN nN cN] 48 (0, 0))) p.d) p.os := fun d os => Calls.regrown_of (js _)
      have HE : Hid (∀ d os, Below w.heap.size w (grow (redrawn (w.alloc (.cells #[.int .i64 p0, .slice aA nA cA, .slice aG nG cG, .slice aN nN cN] 48 (0, 0))) d) os)) := fun d os => below_step HB0.out (below_regrown _ d os)
      clear js c0 c1 c2 c3
      go_enter Try.func51, Try.ntmps51
      go_wp2_with fail
      refine wp_region_quiet_below (by kernel_rfl) (by kernel_rfl) ?_
      repeat (go_big_quiet_step (exact cS _ _))
      refine wpQuiet_nil ?_
      intro _ hw'
      obtain ⟨⟨dq, osq⟩, hw''⟩ := hw'
      subst hw''
      go_wp2
      go_ret
      exact ⟨by rw [HX.out]; rfl, HE.out _ _⟩
end Go.Proofs.Ytmnkkknkmbldhaa
