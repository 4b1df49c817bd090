/- The document's cubes: Bit, said, may, Check, Has, both, Meet, Within. -/
import Derived.Test.YtnaalbcbmhpfjaaWCubM
namespace Go.Proofs.Ytnaalbcbmhpfjaa
open Go.RowKit Go.Maps

theorem bit_div (l p : Nat) : (l / 2 ^ p % 2 : Nat) = (l.testBit p).toNat := by
  rw [Nat.testBit_eq_decide_div_mod_eq]
  have : l / 2 ^ p % 2 = 0 ∨ l / 2 ^ p % 2 = 1 := by omega
  rcases this with h | h <;> rw [h] <;> rfl
set_option maxHeartbeats 400000 in
theorem Try.rbit_any (l p : Nat) (w : World) (hl : l < 256) (hp : p ≤ 8) :
    Calls Try.prog 38 #[.int .u8 (l : Int), .int .i64 (p : Int)] w fun e w' => e = .returned (.int .i64 ((l.testBit p).toNat : Int)) ∧ w' = w := by
  have HB : Hid _ := bit_div l p
  go_enter Try.func38, Try.ntmps38
  go_wp2
  go_loop [5, 6] (fun v i => ∃ k : Nat, k ≤ p ∧ i = .int .i64 k ∧ ∃ x : Nat, x < 256 ∧ v = .int .i64 (x : Int) ∧ Hid (x = l / 2 ^ k)) (fun _ i => p - (intOf i).toNat)
  case atStart => exact ⟨0, Nat.zero_le _, rfl, l, hl, rfl, by show _ = _; simp⟩
  case round =>
    obtain ⟨k, hk, rfl, x, hx, rfl, HU⟩ := hrel
    by_cases hlt : k < p
    · have HN : Hid (x / 2 = l / 2 ^ (k + 1)) := by
        show _ = _; rw [HU.out, Nat.pow_succ, Nat.div_div_eq_div_mul]
      go_wp2
      go_round
      case rel => exact ⟨k + 1, by omega, by go_num, x / 2, by omega, rfl, HN⟩
      case measure => simp [intOf]; omega
    · obtain rfl : k = p := by omega
      have HX : Hid ((x : Int) % 2 = ((l.testBit k).toNat : Int)) := by
        show _ = _; rw [← HB.out, HU.out]; rfl
      go_wp2
      go_ret
      exact ⟨by rw [← HX.out]; rfl, rfl⟩
theorem Try.rbit_t {l p : Nat} (h : l.testBit p = true) (w : World) (hl : l < 256) (hp : p ≤ 8) :
    Calls Try.prog 38 #[.int .u8 (l : Int), .int .i64 (p : Int)] w fun e w' => e = .returned (.int .i64 1) ∧ w' = w := by
  have := Try.rbit_any l p w hl hp; rw [h] at this; exact this
theorem Try.rbit_f {l p : Nat} (h : l.testBit p = false) (w : World) (hl : l < 256) (hp : p ≤ 8) :
    Calls Try.prog 38 #[.int .u8 (l : Int), .int .i64 (p : Int)] w fun e w' => e = .returned (.int .i64 0) ∧ w' = w := by
  have := Try.rbit_any l p w hl hp; rw [h] at this; exact this

set_option maxHeartbeats 800000 in
theorem Try.rmay_any (a b : Nat) (w : World) (ha : a < 256) (hb : b < 256) :
    Calls Try.prog 39 #[.agg #[.int .u8 (a : Int), .int .u8 (b : Int)]] w fun e w' => e = .returned (.bool (mayC (a, b))) ∧ Below w.heap.size w w' := by
  have HM : Hid _ := mayC_iff (a := (a, b))
  go_enter Try.func39, Try.ntmps39
  go_wp2
  go_loop [3] (fun i => ∃ k : Nat, k ≤ 8 ∧ i = .int .i64 k ∧ Hid (∀ q, q < k → b.testBit q = true → a.testBit q = true)) (fun i => 8 - (intOf i).toNat)
  case atStart => exact ⟨0, Nat.zero_le _, rfl, fun q hq => absurd hq (by omega)⟩
  case round =>
    obtain ⟨k, hk, rfl, HU⟩ := hrel
    by_cases hlt : k < 8
    · cases hv : b.testBit k with
      | false =>
        have h1 := fun w => Try.rbit_f hv w hb (by omega)
        have HN : Hid (∀ q, q < k + 1 → b.testBit q = true → a.testBit q = true) := fun q hq hbq => by
          by_cases e : q = k
          · subst e; rw [hv] at hbq; cases hbq
          · exact HU.out q (by omega) hbq
        clear hv
        go_wp2_with (go_at_call 38; refine (h1 _).mono ?_; rintro e w' ⟨rfl, rfl⟩)
        go_round
        case rel => exact ⟨k + 1, by omega, by go_num, HN⟩
        case measure => simp [intOf]; omega
      | true =>
        have h1 := fun w => Try.rbit_t hv w hb (by omega)
        cases hc : a.testBit k with
        | false =>
          have h2 := fun w => Try.rbit_f hc w ha (by omega)
          have HF : Hid (mayC (a, b) = false) := by
            cases hx : mayC (a, b) with
            | false => rfl
            | true => have := HM.out.1 hx k hlt hv; rw [hc] at this; cases this
          clear hv hc
          go_wp2_with fail
          refine (h1 _).mono ?_
          rintro e w' ⟨rfl, rfl⟩
          go_wp2_with fail
          refine (h2 _).mono ?_
          rintro e w' ⟨rfl, rfl⟩
          go_wp2
          go_ret
          exact ⟨by rw [HF.out]; rfl, below_new _ _⟩
        | true =>
          have h2 := fun w => Try.rbit_t hc w ha (by omega)
          have HN : Hid (∀ q, q < k + 1 → b.testBit q = true → a.testBit q = true) := fun q hq hbq => by
            by_cases e : q = k
            · subst e; exact hc
            · exact HU.out q (by omega) hbq
          clear hv hc
          go_wp2_with fail
          refine (h1 _).mono ?_
          rintro e w' ⟨rfl, rfl⟩
          go_wp2_with fail
          refine (h2 _).mono ?_
          rintro e w' ⟨rfl, rfl⟩
          go_wp2
          go_round
          case rel => exact ⟨k + 1, by omega, by go_num, HN⟩
          case measure => simp [intOf]; omega
    · obtain rfl : k = 8 := by omega
      have HT : Hid (mayC (a, b) = true) := HM.out.2 HU.out
      go_wp2
      go_ret
      exact ⟨by rw [HT.out]; rfl, below_new _ _⟩

def saidI (c : Cu) (p : Nat) : Int := if c.1.testBit p then ((c.2.testBit p).toNat : Int) else -1
set_option maxHeartbeats 400000 in
theorem Try.said_any (a b p : Nat) (w : World) (ha : a < 256) (hb : b < 256) (hp : p ≤ 8) :
    Calls Try.prog 40 #[.agg #[.int .u8 (a : Int), .int .u8 (b : Int)], .int .i64 (p : Int)] w fun e w' => e = .returned (.int .i64 (saidI (a, b) p)) ∧ Below w.heap.size w w' := by
  cases hc : a.testBit p with
  | false =>
    have h1 := fun w => Try.rbit_f hc w ha hp
    have HX : Hid (saidI (a, b) p = -1) := by show _ = _; unfold saidI; rw [if_neg (by rw [hc]; simp)]
    clear hc
    go_enter Try.func40, Try.ntmps40
    go_wp2_with (go_at_call 38; refine (h1 _).mono ?_; rintro e w' ⟨rfl, rfl⟩)
    go_ret
    exact ⟨by rw [HX.out]; rfl, below_new _ _⟩
  | true =>
    have h1 := fun w => Try.rbit_t hc w ha hp
    have h2 := fun w => Try.rbit_any b p w hb hp
    have HX : Hid (saidI (a, b) p = ((b.testBit p).toNat : Int)) := by show _ = _; unfold saidI; rw [if_pos hc]
    clear hc
    generalize (b.testBit p).toNat = y at *
    go_enter Try.func40, Try.ntmps40
    go_wp2_with fail
    refine (h1 _).mono ?_
    rintro e w' ⟨rfl, rfl⟩
    go_wp2_with fail
    refine (h2 _).mono ?_
    rintro e w' ⟨rfl, rfl⟩
    go_wp2
    go_ret
    exact ⟨by rw [HX.out]; rfl, below_new _ _⟩
end Go.Proofs.Ytnaalbcbmhpfjaa
