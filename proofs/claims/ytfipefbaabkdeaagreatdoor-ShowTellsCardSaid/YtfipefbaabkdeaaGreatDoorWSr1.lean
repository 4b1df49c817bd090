/- The document's layer 6: how strong, brackets, words. -/
import Derived.Test.YtfipefbaabkdeaaGreatDoorWSh2
namespace Go.Proofs.YtfipefbaabkdeaaGreatDoor
open Go.RowKit Go.Maps

theorem Tryz.rstr_any (op : Nat) (h : op ≤ 23) (w : World) : Calls Tryz.prog 34 #[.int .u8 (op : Int)] w fun e w' => e = .returned (.int .i64 (strN op : Int)) ∧ w' = w := by
  match op, h with
  | 0, _ =>
    go_enter Tryz.func34, Tryz.ntmps34
    go_wp2
    go_ret
    exact ⟨rfl, rfl⟩
  | 1, _ =>
    go_enter Tryz.func34, Tryz.ntmps34
    go_wp2
    go_ret
    exact ⟨rfl, rfl⟩
  | 2, _ =>
    go_enter Tryz.func34, Tryz.ntmps34
    go_wp2
    go_ret
    exact ⟨rfl, rfl⟩
  | 3, _ =>
    go_enter Tryz.func34, Tryz.ntmps34
    go_wp2
    go_ret
    exact ⟨rfl, rfl⟩
  | 4, _ =>
    go_enter Tryz.func34, Tryz.ntmps34
    go_wp2
    go_ret
    exact ⟨rfl, rfl⟩
  | 5, _ =>
    go_enter Tryz.func34, Tryz.ntmps34
    go_wp2
    go_ret
    exact ⟨rfl, rfl⟩
  | 6, _ =>
    go_enter Tryz.func34, Tryz.ntmps34
    go_wp2
    go_ret
    exact ⟨rfl, rfl⟩
  | 7, _ =>
    go_enter Tryz.func34, Tryz.ntmps34
    go_wp2
    go_ret
    exact ⟨rfl, rfl⟩
  | 8, _ =>
    go_enter Tryz.func34, Tryz.ntmps34
    go_wp2
    go_ret
    exact ⟨rfl, rfl⟩
  | 9, _ =>
    go_enter Tryz.func34, Tryz.ntmps34
    go_wp2
    go_ret
    exact ⟨rfl, rfl⟩
  | 10, _ =>
    go_enter Tryz.func34, Tryz.ntmps34
    go_wp2
    go_ret
    exact ⟨rfl, rfl⟩
  | 11, _ =>
    go_enter Tryz.func34, Tryz.ntmps34
    go_wp2
    go_ret
    exact ⟨rfl, rfl⟩
  | 12, _ =>
    go_enter Tryz.func34, Tryz.ntmps34
    go_wp2
    go_ret
    exact ⟨rfl, rfl⟩
  | 13, _ =>
    go_enter Tryz.func34, Tryz.ntmps34
    go_wp2
    go_ret
    exact ⟨rfl, rfl⟩
  | 14, _ =>
    go_enter Tryz.func34, Tryz.ntmps34
    go_wp2
    go_ret
    exact ⟨rfl, rfl⟩
  | 15, _ =>
    go_enter Tryz.func34, Tryz.ntmps34
    go_wp2
    go_ret
    exact ⟨rfl, rfl⟩
  | 16, _ =>
    go_enter Tryz.func34, Tryz.ntmps34
    go_wp2
    go_ret
    exact ⟨rfl, rfl⟩
  | 17, _ =>
    go_enter Tryz.func34, Tryz.ntmps34
    go_wp2
    go_ret
    exact ⟨rfl, rfl⟩
  | 18, _ =>
    go_enter Tryz.func34, Tryz.ntmps34
    go_wp2
    go_ret
    exact ⟨rfl, rfl⟩
  | 19, _ =>
    go_enter Tryz.func34, Tryz.ntmps34
    go_wp2
    go_ret
    exact ⟨rfl, rfl⟩
  | 20, _ =>
    go_enter Tryz.func34, Tryz.ntmps34
    go_wp2
    go_ret
    exact ⟨rfl, rfl⟩
  | 21, _ =>
    go_enter Tryz.func34, Tryz.ntmps34
    go_wp2
    go_ret
    exact ⟨rfl, rfl⟩
  | 22, _ =>
    go_enter Tryz.func34, Tryz.ntmps34
    go_wp2
    go_ret
    exact ⟨rfl, rfl⟩
  | 23, _ =>
    go_enter Tryz.func34, Tryz.ntmps34
    go_wp2
    go_ret
    exact ⟨rfl, rfl⟩
  | n + 24, h => exact absurd h (by omega)
theorem Tryz.rahead_any (op : Nat) (h : op = 6 ∨ op = 7 ∨ op = 8 ∨ op = 9 ∨ op = 10 ∨ op = 20) (w : World) : Calls Tryz.prog 44 #[.int .u8 (op : Int)] w fun e w' => e = .returned (.string (mkB (unW op ++ gapB op))) ∧ w' = w := by
  rcases h with rfl | rfl | rfl | rfl | rfl | rfl
  all_goals
    go_enter Tryz.func44, Tryz.ntmps44
    go_wp2
    go_ret
    exact ⟨rfl, rfl⟩
theorem Tryz.rword_any (op : Nat) (h : op = 11 ∨ op = 12 ∨ op = 13 ∨ op = 14 ∨ op = 15 ∨ op = 16 ∨ op = 21 ∨ op = 22) (w : World) : Calls Tryz.prog 46 #[.int .u8 (op : Int)] w fun e w' => e = .returned (.string (mkB (32 :: (binW op ++ [32])))) ∧ w' = w := by
  rcases h with rfl | rfl | rfl | rfl | rfl | rfl | rfl | rfl
  all_goals
    go_enter Tryz.func46, Tryz.ntmps46
    go_wp2
    go_ret
    exact ⟨rfl, rfl⟩
theorem Tryz.rwithin_any (x : Tx) (l : Nat) (L : Int) (hL : L = (l : Int)) (w : World) (hx : x.1.length ≤ 10000000) : Calls Tryz.prog 45 #[.agg #[.string (mkB x.1), .int .i64 (x.2 : Int)], .int .i64 L] w fun e w' => e = .returned (.string (mkB (wiX x l))) ∧ Below w.heap.size w w' := by
  subst hL
  have hxl := mkB_size x.1
  have s1 : ¬ 9223372036854775807 < 1 + (mkB x.1).size := by omega
  have s2 : ¬ 9223372036854775807 < 1 + (mkB x.1).size + 1 := by omega
  by_cases hw : x.2 < l
  · have hw' : (x.2 : Int) < (l : Int) := by omega
    have hres : ({ data := #[40] } : ByteArray) ++ mkB x.1 ++ ({ data := #[41] } : ByteArray) = mkB (wiX x l) := by
      have e1 : ({ data := #[40] } : ByteArray) = mkB [40] := rfl
      have e2 : ({ data := #[41] } : ByteArray) = mkB [41] := rfl
      rw [e1, e2, mkB_app, mkB_app]; simp [wiX, wiT, hw]
    rw [← hres]
    clear hres
    go_enter Tryz.func45, Tryz.ntmps45
    go_wp2
    go_ret
    exact ⟨rfl, below_new _ _⟩
  · have hw' : ¬ (x.2 : Int) < (l : Int) := by omega
    have hres : wiX x l = x.1 := by simp [wiX, wiT, hw]
    rw [hres]
    clear hres
    go_enter Tryz.func45, Tryz.ntmps45
    go_wp2
    go_ret
    exact ⟨rfl, below_new _ _⟩
end Go.Proofs.YtfipefbaabkdeaaGreatDoor
