/- What lexis' and the document's small functions answer: letters and digits, keys, lists of texts. -/
import Derived.Test.YtfipefbaabkdeaaGreatDoorWName
import Derived.Test.YtfipefbaabkdeaaGreatDoorLexP
import Derived.Test.YtfipefbaabkdeaaGreatDoorKGen
import Derived.Laws.RangeAny
namespace Go.Proofs.YtfipefbaabkdeaaGreatDoor
open Go.RowKit Go.Maps

theorem plnN_eq (c : Nat) : plnN c = (decide (97 ≤ c ∧ c ≤ 122) || decide (65 ≤ c ∧ c ≤ 90) || decide (48 ≤ c ∧ c ≤ 57)) := rfl
theorem Tryz.lod_any (c : Nat) (w : World) :
    Calls Tryz.prog 97 #[.int .i32 (c : Int)] w fun e w' => e = .returned (.bool (plnN c)) ∧ w' = w := by
  go_enter Tryz.func97, Tryz.ntmps97
  go_wp2
  all_goals
    go_ret
    refine ⟨congrArg (fun b => Ending.returned (Value.bool b)) ?_, rfl⟩
    rw [Bool.eq_iff_iff]; simp [plnN]
    omega
theorem Tryz.rplain_any (b : UInt8) (w : World) :
    Calls Tryz.prog 90 #[.int .u8 (b.toNat : Int)] w fun e w' => e = .returned (.bool (plnB b)) ∧ w' = w := by
  go_enter Tryz.func90, Tryz.ntmps90
  go_wp2
  all_goals
    go_ret
    refine ⟨congrArg (fun b => Ending.returned (Value.bool b)) ?_, rfl⟩
    rw [Bool.eq_iff_iff]; simp [plnB, plnN]
    omega

theorem plnB_lt {b : UInt8} (h : plnB b = true) : b.toNat < 128 := by simp [plnB, plnN] at h; omega
theorem plnN_high {c : Nat} (h : 128 ≤ c) : plnN c = false := by simp [plnN]; omega
theorem below_iter (w : World) (s : ByteArray) (k : Nat) : Below w.heap.size w (w.iter s k) := below_new w _
theorem tl_at {s : ByteArray} {k : Nat} (h : k < s.size) : s.toList[k]? = some s[k] := tl_get s k h
/-- How many letters and digits stand at the front. -/
theorem Tryz.run_any (s : ByteArray) (w : World) :
    Calls Tryz.prog 85 #[.string s] w fun e w' => e = .returned (.int .i64 (runN s.toList : Int)) ∧ Below w.heap.size w w' := by
  go_enter Tryz.func85, Tryz.ntmps85
  go_wp2
  go_loopw [] (fun wr => ∃ k : Nat, k ≤ s.size ∧ wr = w.iter s k ∧ Hid (upP s.toList k)) (fun wr => s.size - wr.iterPos w.heap.size)
  case atStart => exact ⟨0, Nat.zero_le _, rfl, upP_zero _⟩
  case round =>
    obtain ⟨k, hk, rfl, HU⟩ := hrel
    by_cases hlt : k < s.size
    · rcases Bool.eq_false_or_eq_true (plnB s[k]) with hp | hp
      · have ha : s[k].toNat < 128 := plnB_lt hp
        have hnx : ∀ ty, (Instr.next (.pointer (some ⟨w.heap.size, 0, none⟩)) true ty).run Tryz.prog (w.iter s k) = _ := fun ty => run_next_ascii w s k ty hlt ha
        have HP : Hid (upP s.toList (k + 1)) := upP_succ HU.out (tl_at hlt) hp
        have hp' : plnN s[k].toNat = true := hp
        clear hp
        go_wp2_with (go_at_call 97; refine (Tryz.lod_any _ _).mono ?_; rintro e w' ⟨rfl, rfl⟩)
        go_roundw
        case rel => exact ⟨k + 1, by omega, rfl, HP⟩
        case measure => simp; omega
      · have hd : plnN (Utf8.decode s k).1 = false := by
          by_cases ha : (s[k]'hlt).toNat < 128
          · rw [decode_ascii s k hlt ha]; exact hp
          · exact plnN_high (decode_high s k hlt (by omega)).1
        have hnx : ∀ ty, (Instr.next (.pointer (some ⟨w.heap.size, 0, none⟩)) true ty).run Tryz.prog (w.iter s k) = _ := fun ty => run_next_any w s k ty hlt
        have HR : Hid (runN s.toList = k) := upP_stop HU.out (tl_at hlt) hp
        clear hp
        generalize (Utf8.decode s k).1 = r at *
        generalize (Utf8.decode s k).2 = q at *
        go_wp2_with (go_at_call 97; refine (Tryz.lod_any _ _).mono ?_; rintro e w' ⟨rfl, rfl⟩)
        go_ret
        exact ⟨by rw [HR.out]; rfl, below_iter w s _⟩
    · have hnx : ∀ ty, (Instr.next (.pointer (some ⟨w.heap.size, 0, none⟩)) true ty).run Tryz.prog (w.iter s k) = _ := fun ty => run_next_end w s k ty hlt
      have HR : Hid (runN s.toList = s.size) := by
        obtain rfl : k = s.size := by omega
        have := HU.out
        rw [← tl_len] at this ⊢
        exact upP_end this
      go_wp2
      go_ret
      exact ⟨by rw [HR.out]; rfl, below_iter w s _⟩
end Go.Proofs.YtfipefbaabkdeaaGreatDoor
