/- What Fits answers, of package letter and of the document: whether a letter has no bit from n on. -/
import Derived.Test.YtnaalbcbmhpfjaaKBase
import Derived.Laws.BitsAllLaws
namespace Go.Proofs.Ytnaalbcbmhpfjaa
open Go.RowKit Go.Maps

def bitB (l i : Int) : Bool := decide (0 ≤ i ∧ i < 8) && decide (l / 2 ^ i.toNat % 2 = 1)
def fitsB (n l : Int) : Bool := decide (0 ≤ n ∧ n ≤ 8) && (l / 2 ^ n.toNat == 0)

theorem and_one_u8 (x : Int) (h0 : 0 ≤ x) (h1 : x < 256) : bits BinOp.and IntKind.u8 x 1 = x % 2 := by
  rw [u8_and x 1 h0 h1 (by decide) (by decide)]
  have e : (1 : Int).toNat = 1 := rfl
  rw [e, Nat.and_one_is_mod]; omega
theorem div_bd {l : Int} (n : Nat) (h0 : 0 ≤ l) (h1 : l < 256) : 0 ≤ l / 2 ^ n ∧ l / 2 ^ n < 256 := by
  have hp : (0 : Int) < 2 ^ n := Int.pow_pos (by decide)
  exact ⟨Int.ediv_nonneg h0 (Int.le_of_lt hp), Int.lt_of_le_of_lt (Int.ediv_le_self _ h0) h1⟩
theorem fitsB_f {n l : Int} (h : n < 0 ∨ 8 < n) : fitsB n l = false := by
  unfold fitsB; rw [decide_eq_false (by omega)]; rfl
theorem fitsB_t {n l : Int} (h0 : 0 ≤ n) (h8 : n ≤ 8) : fitsB n l = (l / 2 ^ n.toNat == 0) := by
  unfold fitsB; rw [decide_eq_true ⟨h0, h8⟩]; rfl

theorem Try.fits_any (n l : Int) (w : World) :
    Calls Try.prog 37 #[.int .i64 n, .int .u8 l] w fun e w' => e = .returned (.bool (fitsB n l)) ∧ w' = w := by
  by_cases h0 : 0 ≤ n
  · by_cases h8 : n ≤ 8
    · have HX : Hid _ := fitsB_t (l := l) h0 h8
      go_enter Try.func37, Try.ntmps37
      go_wp2
      go_ret
      exact ⟨by rw [HX.out]; rfl, rfl⟩
    · have HX : Hid _ := fitsB_f (n := n) (l := l) (by omega)
      go_enter Try.func37, Try.ntmps37
      go_wp2
      go_ret
      exact ⟨by rw [HX.out]; rfl, rfl⟩
  · have HX : Hid _ := fitsB_f (n := n) (l := l) (by omega)
    go_enter Try.func37, Try.ntmps37
    go_wp2
    go_ret
    exact ⟨by rw [HX.out]; rfl, rfl⟩

theorem div_succ (l : Int) (k : Nat) : l / 2 ^ k = 2 * (l / 2 ^ (k + 1)) + l / 2 ^ k % 2 := by
  have e : l / 2 ^ (k + 1) = l / 2 ^ k / 2 := by
    rw [Int.pow_succ, Int.ediv_ediv_of_nonneg (Int.le_of_lt (Int.pow_pos (by decide)))]
  rw [e]; omega

end Go.Proofs.Ytnaalbcbmhpfjaa
