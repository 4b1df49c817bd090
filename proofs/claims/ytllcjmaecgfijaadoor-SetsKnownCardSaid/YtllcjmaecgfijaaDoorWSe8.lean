/- Package sets over the model: Equal, a set within another one. -/
import Derived.Test.YtllcjmaecgfijaaDoorWSe1
import Derived.Laws.BitsAllLaws
namespace Go.Proofs.YtllcjmaecgfijaaDoor
open Go.RowKit Go.Maps

theorem sNot_zero (x y : Nat) (hx : x < 18446744073709551616) (hy : y < 18446744073709551616) : (x &&& (18446744073709551615 - y) = 0) ↔ y ||| x = y := by
  have hb : ∀ i, (18446744073709551615 - y).testBit i = (decide (i < 64) && !y.testBit i) := fun i => by
    have := Nat.testBit_two_pow_sub_succ (n := 64) (x := y) (by exact hy) i
    rw [show 2 ^ 64 - (y + 1) = 18446744073709551615 - y by omega] at this
    exact this
  constructor
  · intro h
    refine Nat.eq_of_testBit_eq fun i => ?_
    have := congrArg (fun z => z.testBit i) h
    simp only [Nat.testBit_and, hb, Nat.zero_testBit] at this
    rw [Nat.testBit_or]
    by_cases hi : i < 64
    · simp [hi] at this
      cases h1 : y.testBit i <;> cases h2 : x.testBit i <;> simp_all
    · have : x.testBit i = false := Nat.testBit_lt_two_pow (Nat.lt_of_lt_of_le hx (by rw [show (18446744073709551616 : Nat) = 2 ^ 64 from rfl]; exact Nat.pow_le_pow_right (by decide) (by omega)))
      rw [this]; simp
  · intro h
    refine Nat.eq_of_testBit_eq fun i => ?_
    have := congrArg (fun z => z.testBit i) h
    simp only [Nat.testBit_or] at this
    rw [Nat.testBit_and, hb, Nat.zero_testBit]
    cases h1 : y.testBit i <;> cases h2 : x.testBit i <;> simp_all
theorem or_wi {x y : Nat} : y ||| x = y ↔ Wi x y := by
  rw [wi_iff]
  constructor
  · intro h i hi
    rw [← h, Nat.testBit_or, hi, Bool.or_true]
  · intro h
    apply Nat.eq_of_testBit_eq
    intro i
    rw [Nat.testBit_or]
    cases hx : x.testBit i with
    | false => rw [Bool.or_false]
    | true => rw [h i hx]; rfl
theorem not_wi (x y : Nat) (hx : x < 2 ^ 64) (hy : y < 2 ^ 64) : bits .andNot .u64 (x : Int) (y : Int) = 0 ↔ Wi x y := by
  rw [u64_andNot_nat x y hx hy, ← or_wi, ← sNot_zero x y hx hy]
  omega
set_option maxHeartbeats 2000000 in
/-- slices.Equal tells whether two lists are one. -/
theorem Tryd.equalU_any (a : Option Addr) (len cap : Nat) (xs : List Int) (a' : Option Addr) (len' cap' : Nat) (ys : List Int) (w : World)
    (hS : IntSl Tryd.prog 25 .u64 w a len cap xs) (hO : IntSl Tryd.prog 25 .u64 w a' len' cap' ys) :
    Calls Tryd.prog 30 #[.slice a len cap, .slice a' len' cap'] w fun e w' => e = .returned (.bool (decide (xs = ys))) ∧ ∃ n, w' = w.drewN n := by
  have hb0 := hS.bd
  have hb1 := hS.hcap
  have hb2 := hO.bd
  have hb3 := hO.hcap
  unfold maxLen at hb0 hb2
  by_cases hll : len = len'
  · subst hll
    have hidx := fun (k : Nat) (w : World) (h : k < len) => hS.idx len k w h (Nat.le_refl _)
    have hidx' := fun (k : Nat) (w : World) (h : k < len) => hO.idx len k w h (Nat.le_refl _)
    go_enter Tryd.func30, Tryd.ntmps30
    go_wp2
    go_loopw [13] (fun i wr => ∃ k : Nat, k ≤ len ∧ i = .int .i64 k ∧ Hid (xs.take k = ys.take k) ∧ Hid (∃ n, wr = w.drewN n)) (fun i _ => len - (intOf i).toNat)
    case atStart => exact ⟨0, Nat.zero_le _, rfl, by show _ = _; simp, 0, rfl⟩
    case round =>
      obtain ⟨k, hk, rfl, HU, hwr⟩ := hrel
      by_cases hlt : k < len
      · have hS' : IntSl Tryd.prog 25 .u64 wr a len cap xs := by obtain ⟨n, hn⟩ := hwr.out; rw [hn]; exact hS.drewN n
        have hO' : IntSl Tryd.prog 25 .u64 wr a' len cap' ys := by obtain ⟨n, hn⟩ := hwr.out; rw [hn]; exact hO.drewN n
        have hck := hS'.cell k hlt
        have hck' := hO'.cell k hlt
        have HN : Hid (xs.getD k 0 = ys.getD k 0 → xs.take (k + 1) = ys.take (k + 1)) := fun h => take_eq_next (by rw [hS.hlen]; exact hlt) (by rw [hO.hlen]; exact hlt) HU.out h
        have HM : Hid (xs.getD k 0 ≠ ys.getD k 0 → decide (xs = ys) = false) := fun h => decide_eq_false (fun e => h (by rw [e]))
        clear hS' hO'
        generalize xs.getD k 0 = x at *
        generalize ys.getD k 0 = y at *
        go_wp2
        go_quiet (fail)
        rcases Bool.eq_false_or_eq_true (x != y) with ht | ht
        · go_wp2
          go_ret
          obtain ⟨n, hn⟩ := hwr.out
          exact ⟨by rw [HM.out (by simpa using ht)]; rfl, n + nq, by rw [hn, World.drewN_drewN]⟩
        · have HN2 : Hid _ := HN.out (by simpa using ht)
          go_wp2
          go_roundw
          case rel =>
            obtain ⟨n, hn⟩ := hwr.out
            exact ⟨k + 1, by omega, by go_num, HN2, n + nq, by rw [hn, World.drewN_drewN]⟩
          case measure => simp [intOf]; omega
      · have hx : Hid (decide (xs = ys) = true) := by
          have := HU.out
          rw [List.take_of_length_le (by rw [hS.hlen]; omega), List.take_of_length_le (by rw [hO.hlen]; omega)] at this
          exact decide_eq_true this
        go_wp2
        go_ret
        exact ⟨by rw [hx.out]; rfl, hwr.out⟩
  · have hx : Hid (decide (xs = ys) = false) := decide_eq_false (fun e => hll (by rw [← hS.hlen, ← hO.hlen, e]))
    have hll' : ((len : Int) != (len' : Int)) = true := by simp; omega
    clear hll
    go_enter Tryd.func30, Tryd.ntmps30
    go_wp2
    go_ret
    exact ⟨by rw [hx.out]; rfl, 0, rfl⟩
theorem Tryd.within_any (x y : Nat) (hx : x < 2 ^ 64) (hy : y < 2 ^ 64) (w : World) : Calls Tryd.prog 26 #[.int .u64 (x : Int), .int .u64 (y : Int)] w fun e w' => e = .returned (.bool (decide (Wi x y))) ∧ w' = w := by
  have h := not_wi x y hx hy
  generalize hz : bits .andNot .u64 (x : Int) (y : Int) = z at *
  have HD : Hid ((z == 0) = decide (Wi x y)) := by
    show _ = _
    rw [Bool.eq_iff_iff, beq_iff_eq, decide_eq_true_iff]
    exact h
  clear h
  go_enter Tryd.func26, Tryd.ntmps26
  go_wp2
  go_ret
  exact ⟨by rw [← HD.out]; rfl, rfl⟩
set_option maxHeartbeats 2000000 in
theorem Tryd.holds_any (a : Option Addr) (n c : Nat) (l : List Nat) (h : Nat) (w : World) (hS : USl w a n c l) (sL : Sm l) (hh : h < 2 ^ 64) :
    Calls Tryd.prog 16 #[.slice a n c, .int .u64 (h : Int)] w (BR (hoB l h) w) := by
  have hb0 := hS.bd
  have hb1 := hS.hcap
  unfold maxLen at hb0
  have hln := hS.len
  have HL : Hid (n = l.length) := hln
  have hidx := fun (k : Nat) (w : World) (h : k < n) => hS.idx n k w h (Nat.le_refl _)
  have hcell : ∀ k, k < n → w.cell? (adOf a k) = some (.int .u64 ((l.getD k 0 : Nat) : Int)) := fun k hk => by
    rw [hS.cell k hk]
    congr 2
    simp only [List.getD_eq_getElem?_getD, iU, List.getElem?_map]
    cases l[k]? <;> rfl
  have HW : Hid (∀ k, k < n → ∀ w', Calls Tryd.prog 26 #[.int .u64 ((l.getD k 0 : Nat) : Int), .int .u64 (h : Int)] w' fun e w'' => e = .returned (.bool (decide (Wi (l.getD k 0) h))) ∧ w'' = w') := fun k hk w' => Tryd.within_any _ h (by
    have hk' : k < l.length := by omega
    rw [List.getD_eq_getElem?_getD, List.getElem?_eq_getElem hk']
    exact sL _ (List.getElem_mem hk')) hh w'
  clear hS sL hln
  go_enter Tryd.func16, Tryd.ntmps16
  go_wp2
  go_loopw [9] (fun i wr => ∃ k : Nat, k ≤ n ∧ i = .int .i64 (k : Int) ∧ Hid (∀ j, j < k → ¬ Wi (l.getD j 0) h) ∧ wr = w) (fun i _ => n - (intOf i).toNat)
  case atStart => exact ⟨0, Nat.zero_le _, rfl, fun j hj => absurd hj (by omega), rfl⟩
  case round =>
    obtain ⟨k, hk, rfl, HU, rfl⟩ := hrel
    by_cases hlt : k < n
    · have hc := hcell k hlt
      have hx := fun w' => hidx k w' hlt
      have hw := HW.out k hlt
      have HY : Hid (¬ Wi (l.getD k 0) h → ∀ j, j < k + 1 → ¬ Wi (l.getD j 0) h) := fun hn j hj => by
        by_cases e : j = k
        · subst e; exact hn
        · exact HU.out j (by omega)
      have HN : Hid (Wi (l.getD k 0) h → hoB l h = true) := fun hn => by
        have hk' : k < l.length := by rw [← HL.out]; exact hlt
        refine decide_eq_true ⟨l.getD k 0, ?_, hn⟩
        rw [List.getD_eq_getElem?_getD, List.getElem?_eq_getElem hk']
        exact List.getElem_mem hk'
      generalize l.getD k 0 = x at *
      clear hcell hidx
      by_cases hwi : Wi x h
      · rw [decide_eq_true hwi] at hw
        have HZ : Hid (hoB l h = true) := HN.out hwi
        clear hwi HN HY
        go_wp2_with fail
        refine (hw _).mono ?_
        rintro e w1 ⟨rfl, rfl⟩
        go_wp2_with fail
        go_ret
        exact ⟨by rw [HZ.out]; rfl, Below.refl _ _⟩
      · rw [decide_eq_false hwi] at hw
        have HZ : Hid (∀ j, j < k + 1 → ¬ Wi (l.getD j 0) h) := HY.out hwi
        clear hwi HN HY
        go_wp2_with fail
        refine (hw _).mono ?_
        rintro e w1 ⟨rfl, rfl⟩
        go_wp2_with fail
        go_roundw
        case rel => exact ⟨k + 1, by omega, by go_num, HZ, by first | trivial | rfl⟩
        case measure => simp [intOf]; omega
    · have HZ : Hid (hoB l h = false) := by
        refine decide_eq_false ?_
        rintro ⟨s, hs, hw⟩
        obtain ⟨j, hj, rfl⟩ := List.getElem_of_mem hs
        have := HU.out j (by have := HL.out; omega)
        rw [List.getD_eq_getElem?_getD, List.getElem?_eq_getElem hj] at this
        exact this hw
      go_wp2
      go_ret
      exact ⟨by rw [HZ.out]; rfl, Below.refl _ _⟩
end Go.Proofs.YtllcjmaecgfijaaDoor
