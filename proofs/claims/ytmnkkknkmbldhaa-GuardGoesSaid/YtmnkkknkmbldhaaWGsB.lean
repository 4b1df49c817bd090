/- Package guard: mayBeNode, mayBeSized. -/
import Derived.Test.YtmnkkknkmbldhaaWGsA
namespace Go.Proofs.Ytmnkkknkmbldhaa
open Go.RowKit Go.Maps

/-- May a node stand at its place? -/
def ndMB (p0 : Int) (m : Nat) (N : List Gd) (k : Nat) : Bool := decide (0 ≤ (N.getD k (0, 0, 0)).1) && (decide ((N.getD k (0, 0, 0)).1 < p0) && (decide ((N.getD k (0, 0, 0)).2.1 ≠ (N.getD k (0, 0, 0)).2.2) && (fitB m N k (N.getD k (0, 0, 0)).1 (N.getD k (0, 0, 0)).2.1 && fitB m N k (N.getD k (0, 0, 0)).1 (N.getD k (0, 0, 0)).2.2)))
theorem ndMB_iff {p0 : Int} {m : Nat} {N : List Gd} {k : Nat} (hk : k ≤ N.length) : ndMB p0 m N k = true ↔ NdMay p0 m N k := by
  unfold ndMB NdMay
  simp only [Bool.and_eq_true, decide_eq_true_eq, fitB_iff hk]
set_option maxRecDepth 100000 in
set_option maxHeartbeats 4000000 in
theorem Try.gnode_any (p0 : Int) (aA : Option Addr) (nA cA : Nat) (aG : Option Addr) (nG cG : Nat) (aN : Option Addr) (nN cN : Nat) (N : List Gd) (k : Nat) (w : World) (hN : NdSl w aN nN cN N) (hk : k < nN) :
    Calls Try.prog 48 #[.agg #[.int .i64 p0, .slice aA nA cA, .slice aG nG cG, .slice aN nN cN], .int .i64 (k : Int)] w fun e w' => e = .returned (.bool (ndMB p0 nA N k)) ∧ Below w.heap.size w w' := by
  have hb1 := below_new w (.cells #[.int .i64 p0, .slice aA nA cA, .slice aG nG cG, .slice aN nN cN] 48 (0, 0))
  have HA1 := aub_new w p0 aA nA cA aG nG cG aN nN cN
  have hN1 := hN.up hb1
  obtain ⟨g1, o1, s1, hix1, x0, x1, x2, _, _, hok⟩ := hN1.at Try.underlying38 Try.sizeNode k hk
  have hid1 := fun w' => hix1 nN w' hk
  have js := fun (r : Int) (hr : I64 r) (w' : World) (hb : Below w.heap.size w w') => Try.gside2_any p0 aA nA cA aG nG cG aN nN cN N k r w' (hN.up hb) hk hr
  have HX : Hid (ndMB p0 nA N k = (decide (0 ≤ (N.getD k (0, 0, 0)).1) && (decide ((N.getD k (0, 0, 0)).1 < p0) && (decide ((N.getD k (0, 0, 0)).2.1 ≠ (N.getD k (0, 0, 0)).2.2) && (fitB nA N k (N.getD k (0, 0, 0)).1 (N.getD k (0, 0, 0)).2.1 && fitB nA N k (N.getD k (0, 0, 0)).1 (N.getD k (0, 0, 0)).2.2))))) := rfl
  generalize ndMB p0 nA N k = b at *
  clear hix1 hN1 hN
  generalize N.getD k (0, 0, 0) = nd at *
  obtain ⟨P, lo, hi⟩ := nd
  dsimp only at x0 x1 x2 HX js
  have jl := js lo hok.2.1
  have jh := js hi hok.2.2
  have c3 := HA1.c3
  obtain ⟨w1, hw1⟩ : ∃ w1, w1 = w.alloc (.cells #[.int .i64 p0, .slice aA nA cA, .slice aG nG cG, .slice aN nN cN] 48 (0, 0)) := ⟨_, rfl⟩
  have hb2 := below_new w1 (.cells #[.int .i64 P, .int .i64 lo, .int .i64 hi] 44 (0, 0))
  have HBB : Hid (Below w.heap.size w (w1.alloc (.cells #[.int .i64 P, .int .i64 lo, .int .i64 hi] 44 (0, 0)))) := by rw [hw1] at hb2 ⊢; exact below_step hb1 hb2
  have HA2 : AuB (w1.alloc (.cells #[.int .i64 P, .int .i64 lo, .int .i64 hi] 44 (0, 0))) w.heap.size p0 aA nA cA aG nG cG aN nN cN := by rw [hw1] at hb2 ⊢; exact HA1.up hb2
  have HN2 : NdB (w1.alloc (.cells #[.int .i64 P, .int .i64 lo, .int .i64 hi] 44 (0, 0))) w1.heap.size P lo hi := ndb_new w1 P lo hi
  have hs1 : w1.heap.size = w.heap.size + 1 := by rw [hw1]; simp
  rw [hs1] at HN2
  rw [hw1] at HA2 HN2 HBB
  obtain ⟨a0, a1, a2, a3⟩ := HA2
  obtain ⟨n0, n1, n2⟩ := HN2
  have HK : Hid (∀ w3, Below ((w.alloc (.cells #[.int .i64 p0, .slice aA nA cA, .slice aG nG cG, .slice aN nN cN] 48 (0, 0))).alloc (.cells #[.int .i64 P, .int .i64 lo, .int .i64 hi] 44 (0, 0))).heap.size ((w.alloc (.cells #[.int .i64 p0, .slice aA nA cA, .slice aG nG cG, .slice aN nN cN] 48 (0, 0))).alloc (.cells #[.int .i64 P, .int .i64 lo, .int .i64 hi] 44 (0, 0))) w3 → Below w.heap.size w w3 ∧ AuB w3 w.heap.size p0 aA nA cA aG nG cG aN nN cN ∧ NdB w3 (w.heap.size + 1) P lo hi) := fun w3 hb => ⟨below_step HBB.out hb, ⟨kept_cell a0 hb, kept_cell a1 hb, kept_cell a2 hb, kept_cell a3 hb⟩, ⟨kept_cell n0 hb, kept_cell n1 hb, kept_cell n2 hb⟩⟩
  have jl := jl _ HBB.out
  clear hb1 hb2 HA1 hw1 hs1 hok js
  by_cases h0 : 0 ≤ P
  · have d0 : decide (0 ≤ P) = true := by simpa using h0
    rw [d0, Bool.true_and] at HX
    by_cases h1 : P < p0
    · have d1 : decide (P < p0) = true := by simpa using h1
      rw [d1, Bool.true_and] at HX
      by_cases h2 : lo = hi
      · have d2 : (lo != hi) = false := by simpa using h2
        rw [decide_eq_false (by simpa using h2), Bool.false_and] at HX
        clear jl jh HK h0 h1 h2
        go_enter Try.func48, Try.ntmps48
        go_wp2
        go_ret
        exact ⟨by rw [HX.out]; rfl, HBB.out⟩
      · have d2 : (lo != hi) = true := by simpa using h2
        rw [decide_eq_true (by simpa using h2), Bool.true_and] at HX
        generalize fitB nA N k P lo = bl at *
        generalize fitB nA N k P hi = bh at *
        clear h0 h1 h2
        cases bl with
        | false =>
          clear jh
          rw [Bool.false_and] at HX
          go_enter Try.func48, Try.ntmps48
          go_wp2_with (go_at_call 51; (with_reducible refine jl.mono ?_); rintro e w3 ⟨rfl, hb3⟩; have HB3 : Hid _ := (HK.out w3 hb3).1; clear hb3)
          go_ret
          exact ⟨by rw [HX.out]; rfl, HB3.out⟩
        | true =>
          rw [Bool.true_and] at HX
          go_enter Try.func48, Try.ntmps48
          go_wp2_with (first
            | (go_at_call 51; (with_reducible refine jl.mono ?_); rintro e w3 ⟨rfl, hb3⟩; obtain ⟨hb4, ⟨e0, e1, e2, e3⟩, ⟨f0, f1, f2⟩⟩ := HK.out w3 hb3; have j4 := jh w3 hb4; have HB4 : Hid _ := hb4; clear hb3 hb4 jh jl HK a0 a1 a2 a3 n0 n1 n2)
            | (revert j4; intro j4; go_at_call 51; (with_reducible refine j4.mono ?_); rintro e w5 ⟨rfl, hb5⟩; have HB5 : Hid _ := below_step HB4.out hb5; clear hb5)
            | fail)
          go_ret
          exact ⟨by rw [HX.out]; rfl, HB5.out⟩
    · have d1 : decide (P < p0) = false := by simpa using h1
      rw [d1, Bool.false_and] at HX
      clear jl jh HK h0 h1
      go_enter Try.func48, Try.ntmps48
      go_wp2
      go_ret
      exact ⟨by rw [HX.out]; rfl, HBB.out⟩
  · have d0 : decide (0 ≤ P) = false := by simpa using h0
    rw [d0, Bool.false_and] at HX
    clear jl jh HK h0
    go_enter Try.func48, Try.ntmps48
    go_wp2
    go_ret
    exact ⟨by rw [HX.out]; rfl, HBB.out⟩
/-- Are there as many as may be? -/
def szMB (p0 : Int) (nA nG nN : Nat) : Bool := decide (0 ≤ p0 ∧ p0 ≤ 8) && (decide (1 ≤ nA) && (decide (nA ≤ 256) && (decide (nG = nA) && decide (nN ≤ 4096))))
set_option maxRecDepth 100000 in
set_option maxHeartbeats 4000000 in
theorem Try.gsized_any (p0 : Int) (aA : Option Addr) (nA cA : Nat) (aG : Option Addr) (nG cG : Nat) (aN : Option Addr) (nN cN : Nat) (w : World) :
    Calls Try.prog 39 #[.agg #[.int .i64 p0, .slice aA nA cA, .slice aG nG cG, .slice aN nN cN]] w fun e w' => e = .returned (.bool (szMB p0 nA nG nN)) ∧ Below w.heap.size w w' := by
  have HB0 : Hid _ := below_new w (.cells #[.int .i64 p0, .slice aA nA cA, .slice aG nG cG, .slice aN nN cN] 48 (0, 0))
  obtain ⟨c0, c1, c2, c3⟩ := aub_new w p0 aA nA cA aG nG cG aN nN cN
  have jc := fun w => Try.gcount_any p0 w
  have HX : Hid (szMB p0 nA nG nN = (decide (0 ≤ p0 ∧ p0 ≤ 8) && (decide (1 ≤ nA) && (decide (nA ≤ 256) && (decide (nG = nA) && decide (nN ≤ 4096)))))) := rfl
  generalize szMB p0 nA nG nN = b at *
  generalize decide (0 ≤ p0 ∧ p0 ≤ 8) = bc at *
  cases bc with
  | false =>
    rw [Bool.false_and] at HX
    go_enter Try.func39, Try.ntmps39
    go_wp2_with (go_at_call 27; (with_reducible refine (jc _).mono ?_); rintro e w' ⟨rfl, hw1⟩; obtain rfl := hw1.symm)
    go_ret
    exact ⟨by rw [HX.out]; rfl, HB0.out⟩
  | true =>
    rw [Bool.true_and] at HX
    by_cases h1 : 1 ≤ nA
    · rw [decide_eq_true h1, Bool.true_and] at HX
      have d1 : decide ((1 : Int) ≤ (nA : Int)) = true := by simp; omega
      by_cases h2 : nA ≤ 256
      · rw [decide_eq_true h2, Bool.true_and] at HX
        have d2 : decide ((nA : Int) ≤ 256) = true := by simp; omega
        by_cases h3 : nG = nA
        · rw [decide_eq_true h3, Bool.true_and] at HX
          subst h3
          have d3 : ((nG : Int) == (nG : Int)) = true := by simp
          have HY : Hid (decide ((nN : Int) ≤ 4096) = decide (nN ≤ 4096)) := by
            show _ = _
            by_cases h4 : nN ≤ 4096
            · rw [decide_eq_true h4, decide_eq_true (by omega)]
            · rw [decide_eq_false h4, decide_eq_false (by omega)]
          clear h1 h2
          go_enter Try.func39, Try.ntmps39
          go_wp2_with (go_at_call 27; (with_reducible refine (jc _).mono ?_); rintro e w' ⟨rfl, hw1⟩; obtain rfl := hw1.symm)
          go_ret
          exact ⟨by rw [HX.out, ← HY.out]; rfl, HB0.out⟩
        · rw [decide_eq_false h3, Bool.false_and] at HX
          have d3 : ((nG : Int) == (nA : Int)) = false := by simp; omega
          clear h1 h2 h3
          go_enter Try.func39, Try.ntmps39
          go_wp2_with (go_at_call 27; (with_reducible refine (jc _).mono ?_); rintro e w' ⟨rfl, hw1⟩; obtain rfl := hw1.symm)
          go_ret
          exact ⟨by rw [HX.out]; rfl, HB0.out⟩
      · rw [decide_eq_false h2, Bool.false_and] at HX
        have d2 : decide ((nA : Int) ≤ 256) = false := by simp; omega
        clear h1 h2
        go_enter Try.func39, Try.ntmps39
        go_wp2_with (go_at_call 27; (with_reducible refine (jc _).mono ?_); rintro e w' ⟨rfl, hw1⟩; obtain rfl := hw1.symm)
        go_ret
        exact ⟨by rw [HX.out]; rfl, HB0.out⟩
    · rw [decide_eq_false h1, Bool.false_and] at HX
      have d1 : decide ((1 : Int) ≤ (nA : Int)) = false := by simp; omega
      clear h1
      go_enter Try.func39, Try.ntmps39
      go_wp2_with (go_at_call 27; (with_reducible refine (jc _).mono ?_); rintro e w' ⟨rfl, hw1⟩; obtain rfl := hw1.symm)
      go_ret
      exact ⟨by rw [HX.out]; rfl, HB0.out⟩
end Go.Proofs.Ytmnkkknkmbldhaa
