/- What Fits answers, of package letter and of the document: whether a letter has no bit from n on. -/
import Derived.Test.YtmmjihalpmahnaaDoorWCheck
import Derived.Laws.BitsAllLaws
namespace Go.Proofs.YtmmjihalpmahnaaDoor
open Go.RowKit Go.Maps

def bitB (l i : Int) : Bool := decide (0 ≤ i ∧ i < 8) && decide (l / 2 ^ i.toNat % 2 = 1)
def fitsB (n l : Int) : Bool := decide (0 ≤ n ∧ n ≤ 8) && (l / 2 ^ n.toNat == 0)

theorem and_one_u8 (x : Int) (h0 : 0 ≤ x) (h1 : x < 256) : bits BinOp.and IntKind.u8 x 1 = x % 2 := by
  rw [u8_and x 1 h0 h1 (by decide) (by decide)]
  have e : (1 : Int).toNat = 1 := rfl
  rw [e, Nat.and_one_is_mod]; omega
theorem div_bd {l : Int} (n : Nat) (h0 : 0 ≤ l) (h1 : l < 256) : 0 ≤ l / 2 ^ n ∧ l / 2 ^ n < 256 := by
  have hp : (0 : Int) < 2 ^ n := Int.pow_pos (by decide)
  exact ⟨Int.ediv_nonneg h0 (Int.le_of_lt hp), Int.lt_of_le_of_lt (Int.ediv_le_self _ h0) h1⟩
theorem fitsB_f {n l : Int} (h : n < 0 ∨ 8 < n) : fitsB n l = false := by
  unfold fitsB; rw [decide_eq_false (by omega)]; rfl
theorem fitsB_t {n l : Int} (h0 : 0 ≤ n) (h8 : n ≤ 8) : fitsB n l = (l / 2 ^ n.toNat == 0) := by
  unfold fitsB; rw [decide_eq_true ⟨h0, h8⟩]; rfl

theorem Tryd.fits_any (n l : Int) (w : World) :
    Calls Tryd.prog 26 #[.int .i64 n, .int .u8 l] w fun e w' => e = .returned (.bool (fitsB n l)) ∧ w' = w := by
  by_cases h0 : 0 ≤ n
  · by_cases h8 : n ≤ 8
    · have HX : Hid _ := fitsB_t (l := l) h0 h8
      go_enter Tryd.func26, Tryd.ntmps26
      go_wp2
      go_ret
      exact ⟨by rw [HX.out]; rfl, rfl⟩
    · have HX : Hid _ := fitsB_f (n := n) (l := l) (by omega)
      go_enter Tryd.func26, Tryd.ntmps26
      go_wp2
      go_ret
      exact ⟨by rw [HX.out]; rfl, rfl⟩
  · have HX : Hid _ := fitsB_f (n := n) (l := l) (by omega)
    go_enter Tryd.func26, Tryd.ntmps26
    go_wp2
    go_ret
    exact ⟨by rw [HX.out]; rfl, rfl⟩

theorem Tryd.Bit_any (l i : Int) (w : World) (hl0 : 0 ≤ l) (hl1 : l < 256) :
    Calls Tryd.prog 57 #[.int .u8 l, .int .i64 i] w fun e w' => e = .returned (.bool (bitB l i)) ∧ w' = w := by
  have hd := div_bd i.toNat hl0 hl1
  have HD : Hid _ := and_one_u8 _ hd.1 hd.2
  clear hd
  by_cases h0 : 0 ≤ i
  · by_cases h8 : i < 8
    · have HX : Hid (bitB l i = (l / 2 ^ i.toNat % 2 == 1)) := by
        show _ = _; unfold bitB; rw [decide_eq_true ⟨h0, h8⟩, Bool.true_and]
        by_cases e : l / 2 ^ i.toNat % 2 = 1 <;> simp [e]
      go_enter Tryd.func57, Tryd.ntmps57
      go_wp2
      go_ret
      exact ⟨by rw [HX.out, ← HD.out]; rfl, rfl⟩
    · have HX : Hid (bitB l i = false) := by show _ = _; unfold bitB; rw [decide_eq_false (by omega)]; rfl
      go_enter Tryd.func57, Tryd.ntmps57
      go_wp2
      go_ret
      exact ⟨by rw [HX.out]; rfl, rfl⟩
  · have HX : Hid (bitB l i = false) := by show _ = _; unfold bitB; rw [decide_eq_false (by omega)]; rfl
    go_enter Tryd.func57, Tryd.ntmps57
    go_wp2
    go_ret
    exact ⟨by rw [HX.out]; rfl, rfl⟩

theorem div_succ (l : Int) (k : Nat) : l / 2 ^ k = 2 * (l / 2 ^ (k + 1)) + l / 2 ^ k % 2 := by
  have e : l / 2 ^ (k + 1) = l / 2 ^ k / 2 := by
    rw [Int.pow_succ, Int.ediv_ediv_of_nonneg (Int.le_of_lt (Int.pow_pos (by decide)))]
  rw [e]; omega

set_option maxHeartbeats 400000 in
theorem Tryd.rfits_any (n l : Int) (w : World) (hl0 : 0 ≤ l) (hl1 : l < 256) :
    Calls Tryd.prog 34 #[.int .i64 n, .int .u8 l] w fun e w' => e = .returned (.bool (fitsB n l)) ∧ w' = w := by
  by_cases h0 : 0 ≤ n
  · by_cases h8 : n ≤ 8
    · have HX : Hid _ := fitsB_t (l := l) h0 h8
      obtain ⟨N, rfl⟩ := Int.eq_ofNat_of_zero_le h0
      go_enter Tryd.func34, Tryd.ntmps34
      go_wp2
      go_loop [5] (fun i => ∃ k : Nat, k ≤ 8 ∧ i = .int .i64 k ∧ Hid (l / 2 ^ N = 0 ↔ l / 2 ^ k = 0)) (fun i => 8 - (intOf i).toNat)
      case atStart => exact ⟨N, by omega, rfl, Iff.rfl⟩
      case round =>
        obtain ⟨k, hk, rfl, HU⟩ := hrel
        have HS : Hid _ := div_succ l k
        have HB := Tryd.Bit_any l k w hl0 hl1
        by_cases hlt : k < 8
        · by_cases hb : l / 2 ^ k % 2 = 1
          · have HBB : bitB l k = true := by
              unfold bitB; rw [decide_eq_true (by omega), Bool.true_and]; exact decide_eq_true hb
            have HF : Hid (fitsB N l = false) := by
              show _ = _; rw [HX.out]
              have : ¬ l / 2 ^ N = 0 := by rw [HU.out]; intro h; rw [h] at hb; exact absurd hb (by decide)
              simpa using this
            rw [HBB] at HB
            clear hb HBB
            go_wp2_with (go_at_call 57; refine HB.mono ?_; rintro e w' ⟨rfl, rfl⟩)
            go_ret
            exact ⟨by rw [HF.out]; rfl, rfl⟩
          · have HBB : bitB l k = false := by
              unfold bitB; rw [decide_eq_false (p := l / 2 ^ (k : Int).toNat % 2 = 1) hb, Bool.and_false]
            have HU2 : Hid (l / 2 ^ N = 0 ↔ l / 2 ^ (k + 1) = 0) := by
              have h1 := HU.out; have h2 := HS.out
              show _ ↔ _
              rw [h1]; constructor <;> intro h <;> omega
            rw [HBB] at HB
            clear hb HBB
            go_wp2_with (go_at_call 57; refine HB.mono ?_; rintro e w' ⟨rfl, rfl⟩)
            go_round
            case rel => exact ⟨k + 1, by omega, by go_num, HU2⟩
            case measure => simp [intOf]; omega
        · obtain rfl : k = 8 := by omega
          have HF : Hid (fitsB N l = true) := by
            show _ = _; rw [HX.out]
            have : l / 2 ^ N = 0 := by rw [HU.out]; omega
            simpa using this
          clear HB
          go_wp2
          go_ret
          exact ⟨by rw [HF.out]; rfl, rfl⟩
    · have HX : Hid _ := fitsB_f (n := n) (l := l) (by omega)
      go_enter Tryd.func34, Tryd.ntmps34
      go_wp2
      go_ret
      exact ⟨by rw [HX.out]; rfl, rfl⟩
  · have HX : Hid _ := fitsB_f (n := n) (l := l) (by omega)
    go_enter Tryd.func34, Tryd.ntmps34
    go_wp2
    go_ret
    exact ⟨by rw [HX.out]; rfl, rfl⟩
end Go.Proofs.YtmmjihalpmahnaaDoor
