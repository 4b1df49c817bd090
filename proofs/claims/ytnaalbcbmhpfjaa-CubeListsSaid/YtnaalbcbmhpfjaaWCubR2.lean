/- The document's cubes, on: Check, Has, both, Meet, Within. -/
import Derived.Test.YtnaalbcbmhpfjaaWCubR1
namespace Go.Proofs.Ytnaalbcbmhpfjaa
open Go.RowKit Go.Maps

set_option maxHeartbeats 800000 in
theorem Try.rcheck_any (n : Int) (a b : Nat) (w : World) (ha : a < 256) (hb : b < 256) :
    Calls Try.prog 10 #[.int .i64 n, .agg #[.int .u8 (a : Int), .int .u8 (b : Int)]] w fun e w' => e = .returned (.int .i64 (errC n (a, b))) ∧ Below w.heap.size w w' := by
  have hmy := fun w => Try.rmay_any a b w ha hb
  by_cases h0 : 0 ≤ n
  · by_cases h8 : n ≤ 8
    · obtain ⟨N, rfl⟩ := Int.eq_ofNat_of_zero_le h0
      have hN : N ≤ 8 := by omega
      have HE : Hid (errC (N : Int) (a, b) = if ofN N (a, b) then 0 else 120) := by
        show _ = _; unfold errC; rw [if_pos ⟨h0, h8⟩]; rfl
      have HO : Hid _ := ofN_iff (n := N) (a := (a, b))
      go_enter Try.func10, Try.ntmps10
      go_wp2
      go_loop [5] (fun i => ∃ k : Nat, N ≤ k ∧ k ≤ 8 ∧ i = .int .i64 k ∧ Hid (∀ q, N ≤ q → q < k → a.testBit q = false)) (fun i => 8 - (intOf i).toNat)
      case atStart => exact ⟨N, Nat.le_refl _, hN, rfl, fun q h1 h2 => absurd h2 (by omega)⟩
      case round =>
        obtain ⟨k, hNk, hk, rfl, HU⟩ := hrel
        by_cases hlt : k < 8
        · cases hc : a.testBit k with
          | true =>
            have h1 := fun w => Try.rbit_t hc w ha (by omega)
            have HF : Hid (ofN N (a, b) = false) := by
              cases hx : ofN N (a, b) with
              | false => rfl
              | true => have := (HO.out.1 hx).2 k hlt hNk; rw [hc] at this; cases this
            clear hc
            go_wp2_with fail
            refine (h1 _).mono ?_
            rintro e w' ⟨rfl, rfl⟩
            go_wp2
            go_ret
            exact ⟨by rw [HE.out, HF.out]; rfl, below_new _ _⟩
          | false =>
            have h1 := fun w => Try.rbit_f hc w ha (by omega)
            have HN : Hid (∀ q, N ≤ q → q < k + 1 → a.testBit q = false) := fun q hq1 hq2 => by
              by_cases e : q = k
              · subst e; exact hc
              · exact HU.out q hq1 (by omega)
            clear hc
            go_wp2_with fail
            refine (h1 _).mono ?_
            rintro e w' ⟨rfl, rfl⟩
            go_wp2
            go_round
            case rel => exact ⟨k + 1, by omega, by omega, by go_num, HN⟩
            case measure => simp [intOf]; omega
        · obtain rfl : k = 8 := by omega
          go_wp2_with fail
          refine (hmy _).mono ?_
          rintro e w1 ⟨rfl, hw1⟩
          cases hm : mayC (a, b) with
          | false =>
            have HF : Hid (ofN N (a, b) = false) := by
              cases hx : ofN N (a, b) with
              | false => rfl
              | true => have := (HO.out.1 hx).1; rw [hm] at this; cases this
            go_wp2
            go_ret
            exact ⟨by rw [HE.out, HF.out]; rfl, below_step (below_new _ _) hw1⟩
          | true =>
            have HT : Hid (ofN N (a, b) = true) := HO.out.2 ⟨hm, fun p hp hn => HU.out p hn hp⟩
            go_wp2
            go_ret
            exact ⟨by rw [HE.out, HT.out]; rfl, below_step (below_new _ _) hw1⟩
    · have HE : Hid (errC n (a, b) = 2) := by show _ = _; unfold errC; rw [if_neg (by omega)]
      go_enter Try.func10, Try.ntmps10
      go_wp2
      go_ret
      exact ⟨by rw [HE.out]; rfl, below_new _ _⟩
  · have HE : Hid (errC n (a, b) = 2) := by show _ = _; unfold errC; rw [if_neg (by omega)]
    go_enter Try.func10, Try.ntmps10
    go_wp2
    go_ret
    exact ⟨by rw [HE.out]; rfl, below_new _ _⟩

theorem Try.said_f {a b p : Nat} (h : a.testBit p = false) (w : World) (ha : a < 256) (hb : b < 256) (hp : p ≤ 8) :
    Calls Try.prog 40 #[.agg #[.int .u8 (a : Int), .int .u8 (b : Int)], .int .i64 (p : Int)] w fun e w' => e = .returned (.int .i64 (-1)) ∧ Below w.heap.size w w' := by
  have := Try.said_any a b p w ha hb hp
  rw [show saidI (a, b) p = -1 by unfold saidI; rw [if_neg (by rw [h]; simp)]] at this; exact this
theorem Try.said_t {a b p : Nat} (h : a.testBit p = true) (y : Bool) (hy : b.testBit p = y) (w : World) (ha : a < 256) (hb : b < 256) (hp : p ≤ 8) :
    Calls Try.prog 40 #[.agg #[.int .u8 (a : Int), .int .u8 (b : Int)], .int .i64 (p : Int)] w fun e w' => e = .returned (.int .i64 (if y then 1 else 0)) ∧ Below w.heap.size w w' := by
  have := Try.said_any a b p w ha hb hp
  rw [show saidI (a, b) p = if y then 1 else 0 by unfold saidI; rw [if_pos h]; subst hy; cases b.testBit p <;> rfl] at this; exact this

set_option maxHeartbeats 1000000 in
theorem Try.rhas_any (a b l : Nat) (w : World) (ha : a < 256) (hb : b < 256) (hl : l < 256) :
    Calls Try.prog 12 #[.agg #[.int .u8 (a : Int), .int .u8 (b : Int)], .int .u8 (l : Int)] w fun e w' => e = .returned (.bool (hasC (a, b) l)) ∧ Below w.heap.size w w' := by
  have hmy := fun w => Try.rmay_any a b w ha hb
  have HH : Hid _ := hasC_iff (a := (a, b)) (l := l)
  cases hm : mayC (a, b) with
  | false =>
    rw [hm] at hmy
    have HF : Hid (hasC (a, b) l = false) := by show _ = _; unfold hasC; rw [hm]; rfl
    clear hm
    go_enter Try.func12, Try.ntmps12
    go_wp2_with fail
    refine (hmy _).mono ?_
    rintro e w1 ⟨rfl, hw1⟩
    go_wp2
    go_ret
    exact ⟨by rw [HF.out]; rfl, below_step (below_new _ _) hw1⟩
  | true =>
    rw [hm] at hmy
    have HMM : Hid _ := hm
    clear hm
    go_enter Try.func12, Try.ntmps12
    go_wp2_with fail
    refine (hmy _).mono ?_
    rintro e w1 ⟨rfl, hw1⟩
    have hB1 := (Blk.new w 24 a b).up hw1
    have hbw1 := below_step (below_new _ _) hw1
    clear hw1
    go_wp2
    go_loopw [5] (fun i wr => ∃ k : Nat, k ≤ 8 ∧ i = .int .i64 k ∧ Hid (∀ q, q < k → a.testBit q = true → b.testBit q = l.testBit q) ∧ Blk wr w.heap.size 24 a b ∧ Below w.heap.size w wr) (fun i _ => 8 - (intOf i).toNat)
    case atStart => exact ⟨0, Nat.zero_le _, rfl, fun q h1 => absurd h1 (by omega), hB1, hbw1⟩
    case round =>
      obtain ⟨k, hk, rfl, HU, hB, hbw⟩ := hrel
      have hc0 := hB.c0
      have hc1 := hB.c1
      by_cases hlt : k < 8
      · cases hc : a.testBit k with
        | false =>
          have h1 := fun w => Try.said_f hc w ha hb (by omega)
          have HN : Hid (∀ q, q < k + 1 → a.testBit q = true → b.testBit q = l.testBit q) := fun q hq hx => by
            by_cases e : q = k
            · subst e; rw [hc] at hx; cases hx
            · exact HU.out q (by omega) hx
          clear hc
          go_wp2_with fail
          refine (h1 _).mono ?_
          rintro e w2 ⟨rfl, hw2⟩
          have hB2 := hB.up hw2
          have hbw2 := below_step hbw hw2
          clear hw2
          go_wp2
          go_roundw
          case rel => exact ⟨k + 1, by omega, by go_num, HN, hB2, hbw2⟩
          case measure => simp [intOf]; omega
        | true =>
          have h2 := fun w => Try.rbit_any l k w hl (by omega)
          have h1 := fun w => Try.said_t hc (b.testBit k) rfl w ha hb (by omega)
          have HN : Hid (b.testBit k = l.testBit k → ∀ q, q < k + 1 → a.testBit q = true → b.testBit q = l.testBit q) := fun he q hq hx => by
            by_cases e : q = k
            · subst e; exact he
            · exact HU.out q (by omega) hx
          have HF : Hid (b.testBit k ≠ l.testBit k → hasC (a, b) l = false) := fun he => by
            cases hx : hasC (a, b) l with
            | false => rfl
            | true => exact absurd ((HH.out.1 hx).2 k hlt hc) he
          clear hc
          generalize b.testBit k = x at *
          generalize l.testBit k = y at *
          go_wp2_with fail
          refine (h1 _).mono ?_
          rintro e w2 ⟨rfl, hw2⟩
          have hB2 := hB.up hw2
          have hbw2 := below_step hbw hw2
          clear hw2 h1
          cases x <;> cases y <;> simp only [Bool.false_eq_true, if_false, if_true, Bool.toNat_false, Bool.toNat_true, Int.natCast_zero, Int.natCast_one] at h2 ⊢
          · go_wp2_with (go_at_call 38; refine (h2 _).mono ?_; rintro e w' ⟨rfl, rfl⟩)
            go_roundw
            case rel => exact ⟨k + 1, by omega, by go_num, HN.out (by first | rfl | trivial), hB2, hbw2⟩
            case measure => simp [intOf]; omega
          · go_wp2_with (go_at_call 38; refine (h2 _).mono ?_; rintro e w' ⟨rfl, rfl⟩)
            go_ret
            exact ⟨by rw [HF.out (by decide)]; rfl, hbw2⟩
          · go_wp2_with (go_at_call 38; refine (h2 _).mono ?_; rintro e w' ⟨rfl, rfl⟩)
            go_ret
            exact ⟨by rw [HF.out (by decide)]; rfl, hbw2⟩
          · go_wp2_with (go_at_call 38; refine (h2 _).mono ?_; rintro e w' ⟨rfl, rfl⟩)
            go_roundw
            case rel => exact ⟨k + 1, by omega, by go_num, HN.out (by first | rfl | trivial), hB2, hbw2⟩
            case measure => simp [intOf]; omega
      · obtain rfl : k = 8 := by omega
        have HT : Hid (hasC (a, b) l = true) := HH.out.2 ⟨HMM.out, HU.out⟩
        go_wp2
        go_ret
        exact ⟨by rw [HT.out]; rfl, hbw⟩
end Go.Proofs.Ytnaalbcbmhpfjaa
