/- The document's guard: bit, Go. -/
import Derived.Test.YtmnkkknkmbldhaaWGn1
namespace Go.Proofs.Ytmnkkknkmbldhaa
open Go.RowKit Go.Maps

theorem gbit_div (l p : Nat) : (((l / 2 ^ p % 2 : Nat) : Int) == 1) = l.testBit p := by
  rw [Nat.testBit_eq_decide_div_mod_eq]
  have : l / 2 ^ p % 2 = 0 ∨ l / 2 ^ p % 2 = 1 := by omega
  rcases this with h | h <;> rw [h] <;> rfl
set_option maxHeartbeats 400000 in
theorem Try.gbit_any (l p : Nat) (w : World) (hl : l < 256) (hp : p ≤ 8) :
    Calls Try.prog 37 #[.int .u8 (l : Int), .int .i64 (p : Int)] w fun e w' => e = .returned (.bool (l.testBit p)) ∧ w' = w := by
  have HB : Hid _ := gbit_div l p
  go_enter Try.func37, Try.ntmps37
  go_wp2
  go_loop [5, 6] (fun v i => ∃ k : Nat, k ≤ p ∧ i = .int .i64 k ∧ ∃ x : Nat, x < 256 ∧ v = .int .i64 (x : Int) ∧ Hid (x = l / 2 ^ k)) (fun _ i => p - (intOf i).toNat)
  case atStart => exact ⟨0, Nat.zero_le _, rfl, l, hl, rfl, by show _ = _; simp⟩
  case round =>
    obtain ⟨k, hk, rfl, x, hx, rfl, HU⟩ := hrel
    by_cases hlt : k < p
    · have HN : Hid (x / 2 = l / 2 ^ (k + 1)) := by
        show _ = _; rw [HU.out, Nat.pow_succ, Nat.div_div_eq_div_mul]
      go_wp2
      go_round
      case rel => exact ⟨k + 1, by omega, by go_num, x / 2, by omega, rfl, HN⟩
      case measure => simp [intOf]; omega
    · obtain rfl : k = p := by omega
      have HX : Hid (((x : Int) % 2 == 1) = l.testBit k) := by
        show _ = _; rw [← HB.out, HU.out]; rfl
      go_wp2
      go_ret
      exact ⟨by rw [← HX.out]; rfl, rfl⟩
/-- What Go answers. -/
def goV : Option Int → Value
  | some q => .tuple #[.int .i64 q, .bool true]
  | none => .tuple #[.int .i64 0, .bool false]
theorem goG_out {N : List Gd} {x k : Nat} {r : Int} (h : 0 ≤ r) (hl : (N.length : Int) ≤ r) : goG N x k r = none := by
  have h0 : ¬ r < 0 := by omega
  cases k with
  | zero => simp [goG, h0]
  | succ k =>
    have : N[r.toNat]? = none := List.getElem?_eq_none (by omega)
    simp [goG, h0, this]
theorem goG_last {N : List Gd} {x : Nat} {r : Int} (h : 0 ≤ r) : goG N x 0 r = none := by
  have h0 : ¬ r < 0 := by omega
  simp [goG, h0]
theorem goG_bad {N : List Gd} {x k i : Nat} (h : ¬ (0 ≤ (N.getD i (0, 0, 0)).1 ∧ (N.getD i (0, 0, 0)).1 ≤ 7)) : goG N x k (i : Int) = none := by
  cases k with
  | zero => exact goG_last (by omega)
  | succ k =>
    have h0 : ¬ (i : Int) < 0 := by omega
    rcases e : N[i]? with _ | ⟨P, lo, hi⟩
    · simp [goG, h0, e]
    · simp only [List.getD_eq_getElem?_getD, e, Option.getD_some] at h
      simp only [goG, h0, if_false, Int.toNat_natCast, e, if_neg h]
theorem goG_step {N : List Gd} {x k i : Nat} {P lo hi : Int} (hl : i < N.length) (e : N.getD i (0, 0, 0) = (P, lo, hi)) (h0 : 0 ≤ P) (h7 : P ≤ 7) : goG N x (k + 1) (i : Int) = goG N x k (if x.testBit P.toNat then hi else lo) := by
  refine goG_node (P := P) (lo := lo) (hi := hi) ?_ h0 h7
  rw [← e]
  simp [List.getD_eq_getElem?_getD, List.getElem?_eq_getElem hl]
set_option maxRecDepth 100000 in
set_option maxHeartbeats 1600000 in
theorem Try.rgo_any (a : Option Addr) (len cap : Nat) (N : List Gd) (r : Int) (x : Nat) (w : World) (hN : NdSl w a len cap N) (hr : I64 r) (hx : x < 256) :
    Calls Try.prog 19 #[.slice a len cap, .int .i64 r, .int .u8 (x : Int)] w fun e w' => e = .returned (goV (goG N x 8 r)) ∧ w' = w := by
  have hb0 := hN.bd
  have hb1 := hN.hcap
  unfold maxLen at hb0
  have HL : Hid (N.length = len) := hN.hlen
  obtain ⟨G, eG⟩ : ∃ G, G = goG N x 8 r := ⟨_, rfl⟩
  rw [← eG]
  have HG : Hid (goG N x 8 r = G) := eG.symm
  clear eG
  go_enter Try.func19, Try.ntmps19
  go_wp2
  go_loopw [1, 8] (fun v i wr => ∃ (k : Nat) (z : Int), wr = w ∧ k ≤ 8 ∧ i = .int .i64 k ∧ v = .int .i64 z ∧ I64 z ∧ Hid (goG N x (8 - k) z = G)) (fun _ i _ => 9 - (intOf i).toNat)
  case atStart => exact ⟨0, r, rfl, by omega, rfl, rfl, hr, HG⟩
  case round =>
    obtain ⟨k, z, rfl, hk, rfl, rfl, hz, HU⟩ := hrel
    have hz0 := hz.1
    have hz1 := hz.2
    by_cases hneg : z < 0
    · have HX : Hid (G = some (-1 - z)) := by show _ = _; rw [← HU.out, goG_neg hneg]
      go_wp2
      go_ret2
      exact ⟨by rw [HX.out]; rfl, rfl⟩
    · by_cases hge : (len : Int) ≤ z
      · have HX : Hid (G = none) := by show _ = _; rw [← HU.out, goG_out (by omega) (by rw [HL.out]; exact hge)]
        go_wp2
        go_ret2
        exact ⟨by rw [HX.out]; rfl, rfl⟩
      · obtain ⟨i, rfl⟩ : ∃ i : Nat, z = (i : Int) := ⟨z.toNat, by omega⟩
        have hil : i < len := by omega
        obtain ⟨g, o, s, hix, c0, c1, c2, _, _, hok⟩ := hN.at Try.underlying38 Try.sizeNode i hil
        have hidx := fun w' => hix len w' hil
        have HB : Hid (∀ j : Nat, ¬ (0 ≤ (N.getD i (0, 0, 0)).1 ∧ (N.getD i (0, 0, 0)).1 ≤ 7) → goG N x j (i : Int) = none) := fun j h => goG_bad h
        have HS : Hid (∀ (j : Nat) (P lo hi : Int), N.getD i (0, 0, 0) = (P, lo, hi) → 0 ≤ P → P ≤ 7 → goG N x (j + 1) (i : Int) = goG N x j (if x.testBit P.toNat then hi else lo)) := fun j P lo hi e h0 h7 => goG_step (by rw [HL.out]; exact hil) e h0 h7
        clear hix
        generalize N.getD i (0, 0, 0) = nd at *
        obtain ⟨P, lo, hi⟩ := nd
        dsimp only at c0 c1 c2
        by_cases hP : 0 ≤ P ∧ P ≤ 7
        · obtain ⟨p, rfl⟩ : ∃ p : Nat, P = (p : Int) := ⟨P.toNat, by omega⟩
          have hp7 : p ≤ 7 := by omega
          by_cases hk8 : k = 8
          · subst hk8
            have HX : Hid (G = none) := by show _ = _; rw [← HU.out]; exact goG_last (by omega)
            go_wp2
            go_ret2
            exact ⟨by rw [HX.out]; rfl, rfl⟩
          · have HX : Hid (goG N x (8 - (k + 1)) (if x.testBit p then hi else lo) = G) := by
              show _ = _
              have := HS.out (8 - (k + 1)) p lo hi rfl (by omega) (by omega)
              rw [show 8 - (k + 1) + 1 = 8 - k by omega, HU.out] at this
              exact this.symm
            have hlo : I64 lo := hok.2.1
            have hhi : I64 hi := hok.2.2
            have jb := fun w => Try.gbit_any x p w hx (by omega)
            generalize x.testBit p = b at *
            have d1 : decide (len ≤ i) = false := by simpa using hil
            have d2 : decide ((p : Int) < 0) = false := by simp
            have d3 : decide (7 < (p : Int)) = false := by simp; omega
            have d4 : ((k : Int) == 8) = false := by simp; omega
            clear HB HS HU hok hP hz hz0 hz1 hge hneg
            cases b with
            | true =>
              have HY : Hid (goG N x (8 - (k + 1)) hi = G) := HX.out
              clear HX
              go_wp2_with (go_at_call 37; refine (jb _).mono ?_; rintro e w' ⟨rfl, hw1⟩; obtain rfl := hw1.symm)
              go_roundw
              case rel => exact ⟨k + 1, hi, trivial, by omega, by go_num, rfl, hhi, HY⟩
              case measure => simp [intOf]; omega
            | false =>
              have HY : Hid (goG N x (8 - (k + 1)) lo = G) := HX.out
              clear HX
              go_wp2_with (go_at_call 37; refine (jb _).mono ?_; rintro e w' ⟨rfl, hw1⟩; obtain rfl := hw1.symm)
              go_roundw
              case rel => exact ⟨k + 1, lo, trivial, by omega, by go_num, rfl, hlo, HY⟩
              case measure => simp [intOf]; omega
        · have HX : Hid (G = none) := by show _ = _; rw [← HU.out, HB.out _ hP]
          by_cases hP0 : P < 0
          · clear HB HS HU hok hP hz hz0 hz1 c1 c2 hge hneg
            go_wp2
            go_ret2
            exact ⟨by rw [HX.out]; rfl, rfl⟩
          · have hP7 : 7 < P := by omega
            clear HB HS HU hok hP hz hz0 hz1 c1 c2 hge hneg
            go_wp2
            go_ret2
            exact ⟨by rw [HX.out]; rfl, rfl⟩
end Go.Proofs.Ytmnkkknkmbldhaa
