/- Package guard: side, Go. -/
import Derived.Test.YtmnkkknkmbldhaaWGs1
namespace Go.Proofs.Ytmnkkknkmbldhaa
open Go.RowKit Go.Maps

theorem u8_bitG (x : Int) (k : Nat) (h0 : 0 ≤ x) (h1 : x < 256) : (bits .and .u8 (x / 2 ^ k) 1 == 1) = x.toNat.testBit k := by
  obtain ⟨n, rfl⟩ : ∃ n : Nat, x = (n : Int) := ⟨x.toNat, by omega⟩
  have e : ((n : Int) / 2 ^ k) = ((n / 2 ^ k : Nat) : Int) := by simp
  have hd : n / 2 ^ k ≤ n := Nat.div_le_self _ _
  rw [e]
  have := u8_and_nat (n / 2 ^ k) 1 (by omega) (by decide)
  rw [show ((1 : Nat) : Int) = 1 from rfl] at this
  rw [this, Nat.and_one_is_mod, Int.toNat_natCast, Nat.testBit_eq_decide_div_mod_eq]
  by_cases h : n / 2 ^ k % 2 = 1 <;> simp [h] <;> omega
set_option maxHeartbeats 800000 in
theorem Try.gside_any (P lo hi : Int) (p x : Nat) (w : World) (hP : P = (p : Int)) (hp : p ≤ 7) (hx : x < 256) :
    Calls Try.prog 35 #[.agg #[.int .i64 P, .int .i64 lo, .int .i64 hi], .int .u8 (x : Int)] w fun e w' => e = .returned (.int .i64 (if x.testBit p then hi else lo)) ∧ Below w.heap.size w w' := by
  subst hP
  have HB0 : Hid _ := below_new w (.cells #[.int .i64 (p : Int), .int .i64 lo, .int .i64 hi] 44 (0, 0))
  have h := (MapKept.heap_alloc w (.cells #[.int .i64 (p : Int), .int .i64 lo, .int .i64 hi] 44 (0, 0))).1
  have c0 := cell_row h 0
  have c1 := cell_row h 1
  have c2 := cell_row h 2
  simp only [List.getElem?_toArray, List.getElem?_cons_zero, List.getElem?_cons_succ] at c0 c1 c2
  have hbs : (bits BinOp.and IntKind.u8 ((x : Int) / 2 ^ p) 1 == 1) = x.testBit p := by simpa using u8_bitG (x : Int) p (by omega) (by omega)
  have hmin : min p 64 = p := by omega
  generalize x.testBit p = b at *
  clear h
  cases b with
  | true =>
    go_enter Try.func35, Try.ntmps35
    go_wp2
    go_ret
    exact ⟨rfl, HB0.out⟩
  | false =>
    go_enter Try.func35, Try.ntmps35
    go_wp2
    go_ret
    exact ⟨rfl, HB0.out⟩
set_option maxRecDepth 100000 in
set_option maxHeartbeats 1600000 in
theorem Try.ggo_any (a : Option Addr) (len cap : Nat) (N : List Gd) (r : Int) (x : Nat) (w : World) (hN : NdSl w a len cap N) (hr : I64 r) (hx : x < 256) :
    Calls Try.prog 18 #[.slice a len cap, .int .i64 r, .int .u8 (x : Int)] w fun e w' => e = .returned (goV (goG N x 8 r)) ∧ Below w.heap.size w w' := by
  have hb0 := hN.bd
  have hb1 := hN.hcap
  unfold maxLen at hb0
  have HL : Hid (N.length = len) := hN.hlen
  have HN : Hid _ := hN
  obtain ⟨G, eG⟩ : ∃ G, G = goG N x 8 r := ⟨_, rfl⟩
  rw [← eG]
  have HG : Hid (goG N x 8 r = G) := eG.symm
  clear eG hN
  go_enter Try.func18, Try.ntmps18
  go_wp2
  go_loopw [1, 8] (fun v i wr => ∃ (k : Nat) (z : Int), k ≤ 8 ∧ i = .int .i64 k ∧ v = .int .i64 z ∧ I64 z ∧ Hid (goG N x (8 - k) z = G) ∧ Hid (Below w.heap.size w wr)) (fun _ i _ => 9 - (intOf i).toNat)
  case atStart => exact ⟨0, r, by omega, rfl, rfl, hr, HG, Below.refl _ _⟩
  case round =>
    obtain ⟨k, z, hk, rfl, rfl, hz, HU, HB⟩ := hrel
    have hz0 := hz.1
    have hz1 := hz.2
    by_cases hneg : z < 0
    · have HX : Hid (G = some (-1 - z)) := by show _ = _; rw [← HU.out, goG_neg hneg]
      have jo := fun w => Try.gopp_any z w hz
      have d0 : decide (0 ≤ z) = false := by simp; omega
      clear HU hz
      go_wp2_with (go_at_call 36; refine (jo _).mono ?_; rintro e w' ⟨rfl, hw1⟩; obtain rfl := hw1.symm)
      go_ret2
      exact ⟨by rw [HX.out]; rfl, HB.out⟩
    · have d0 : decide (0 ≤ z) = true := by simp; omega
      by_cases hk8 : k = 8
      · subst hk8
        have HX : Hid (G = none) := by show _ = _; rw [← HU.out]; exact goG_last (by omega)
        clear HU hz
        go_wp2
        go_ret2
        exact ⟨by rw [HX.out]; rfl, HB.out⟩
      · have d4 : ((k : Int) == 8) = false := by simp; omega
        by_cases hge : (len : Int) ≤ z
        · have HX : Hid (G = none) := by show _ = _; rw [← HU.out, goG_out (by omega) (by rw [HL.out]; exact hge)]
          clear HU hz
          go_wp2
          go_ret2
          exact ⟨by rw [HX.out]; rfl, HB.out⟩
        · obtain ⟨i, rfl⟩ : ∃ i : Nat, z = (i : Int) := ⟨z.toNat, by omega⟩
          have hil : i < len := by omega
          obtain ⟨g, o, s, hix, c0, c1, c2, _, _, hok⟩ := (HN.out.up HB.out).at Try.underlying38 Try.sizeNode i hil
          have hidx := fun w' => hix len w' hil
          have HBd : Hid (∀ j : Nat, ¬ (0 ≤ (N.getD i (0, 0, 0)).1 ∧ (N.getD i (0, 0, 0)).1 ≤ 7) → goG N x j (i : Int) = none) := fun j h => goG_bad h
          have HS : Hid (∀ (j : Nat) (P lo hi : Int), N.getD i (0, 0, 0) = (P, lo, hi) → 0 ≤ P → P ≤ 7 → goG N x (j + 1) (i : Int) = goG N x j (if x.testBit P.toNat then hi else lo)) := fun j P lo hi e h0 h7 => goG_step (by rw [HL.out]; exact hil) e h0 h7
          clear hix
          generalize N.getD i (0, 0, 0) = nd at *
          obtain ⟨P, lo, hi⟩ := nd
          dsimp only at c0 c1 c2
          have jp := fun w => Try.gprop_any P w
          have d1 : decide (len ≤ i) = false := by simpa using hil
          by_cases hP : 0 ≤ P ∧ P ≤ 7
          · obtain ⟨p, rfl⟩ : ∃ p : Nat, P = (p : Int) := ⟨P.toNat, by omega⟩
            have hp7 : p ≤ 7 := by omega
            rw [decide_eq_true hP] at jp
            have HX : Hid (goG N x (8 - (k + 1)) (if x.testBit p then hi else lo) = G) := by
              show _ = _
              have := HS.out (8 - (k + 1)) p lo hi rfl (by omega) (by omega)
              rw [show 8 - (k + 1) + 1 = 8 - k by omega, HU.out] at this
              exact this.symm
            have hlo : I64 (if x.testBit p then hi else lo) := by split; exact hok.2.2; exact hok.2.1
            have js := Try.gside_any (p : Int) lo hi p x wr rfl hp7 hx
            generalize (if x.testBit p then hi else lo) = z2 at *
            clear HBd HS HU hok hP hz hz0 hz1 hge hneg
            go_wp2_with (first
              | (go_at_call 34; refine (jp _).mono ?_; rintro e w' ⟨rfl, hw1⟩; obtain rfl := hw1.symm)
              | (go_at_call 35; (with_reducible refine js.mono ?_); rintro e w6 ⟨rfl, hb6⟩; have HB6 : Hid _ := below_step HB.out hb6; clear hb6))
            go_roundw
            case rel => exact ⟨k + 1, z2, by omega, by go_num, rfl, hlo, HX, HB6⟩
            case measure => simp [intOf]; omega
          · have HX : Hid (G = none) := by show _ = _; rw [← HU.out, HBd.out _ hP]
            rw [decide_eq_false hP] at jp
            clear HBd HS HU hok hP hz hz0 hz1 c1 c2 hge hneg
            go_wp2_with (go_at_call 34; refine (jp _).mono ?_; rintro e w' ⟨rfl, hw1⟩; obtain rfl := hw1.symm)
            go_ret2
            exact ⟨by rw [HX.out]; rfl, HB.out⟩
end Go.Proofs.Ytmnkkknkmbldhaa
