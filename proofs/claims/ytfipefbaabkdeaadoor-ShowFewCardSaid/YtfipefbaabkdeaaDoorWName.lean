/- What the calls on single bytes and names answer: letter.Name and the document's Name are one function of the text. -/
import Derived.Test.YtfipefbaabkdeaaDoorKBase
import Derived.Test.YtfipefbaabkdeaaDoorPlain
import Derived.WalkLawsBesides
namespace Go.Proofs.YtfipefbaabkdeaaDoor
open Go.RowKit

theorem Tryd.small_any (c : Int) (w : World) :
    Calls Tryd.prog 56 #[.int .u8 c] w fun e w' => e = .returned (.bool (smallB c)) ∧ w' = w := by
  go_enter Tryd.func56, Tryd.ntmps56
  go_wp2
  · go_ret
    exact ⟨by simp [smallB, *], rfl⟩
  · go_ret
    exact ⟨by rw [smallB_f (by omega)]; rfl, rfl⟩
theorem Tryd.digit_any (c : Int) (w : World) :
    Calls Tryd.prog 57 #[.int .u8 c] w fun e w' => e = .returned (.bool (digitB c)) ∧ w' = w := by
  go_enter Tryd.func57, Tryd.ntmps57
  go_wp2
  · go_ret
    exact ⟨by simp [digitB, *], rfl⟩
  · go_ret
    exact ⟨by rw [digitB_f (by omega)]; rfl, rfl⟩
theorem Tryd.res_any (s : ByteArray) (w : World) :
    Calls Tryd.prog 58 #[.string s] w fun e w' => e = .returned (.bool (resL s.toList)) ∧ w' = w := by
  unfold resL
  rcases Bool.eq_false_or_eq_true (s.toList == [116, 114, 117, 101]) with h1 | h1
  · go_enter Tryd.func58, Tryd.ntmps58
    go_wp2
    go_ret
    exact ⟨by simp [*], rfl⟩
  rcases Bool.eq_false_or_eq_true (s.toList == [102, 97, 108, 115, 101]) with h2 | h2
  · go_enter Tryd.func58, Tryd.ntmps58
    go_wp2
    go_ret
    exact ⟨by simp [*], rfl⟩
  rcases Bool.eq_false_or_eq_true (s.toList == [108, 97, 115, 116]) with h3 | h3
  all_goals
    go_enter Tryd.func58, Tryd.ntmps58
    go_wp2
    go_ret
    exact ⟨by simp [*], rfl⟩

/-- What Name answers. -/
theorem nameL_short {s : ByteArray} (h : s.size < 1 ∨ 20 < s.size) : nameL s.toList = false := by
  unfold nameL; rw [tl_len]; rcases h with h | h
  · simp [show ¬ 1 ≤ s.size by omega]
  · simp [show ¬ s.size ≤ 20 by omega]
theorem nameL_head {s : ByteArray} (h : 0 < s.size) (hb : smallB (s[0].toNat : Int) = false) : nameL s.toList = false := by
  unfold nameL; rw [tl_head s h, hb]; simp
theorem nameL_byte {s : ByteArray} {k : Nat} (hk : k < s.size) (hb : byteB s[k] = false) : nameL s.toList = false := by
  unfold nameL; rw [all_not hk hb]; simp
theorem nameL_end {s : ByteArray} (h0 : 0 < s.size) (h1 : s.size ≤ 20) (hb : smallB (s[0].toNat : Int) = true) (hu : upB s s.size) : nameL s.toList = !resL s.toList := by
  unfold nameL; rw [tl_len, tl_head s h0, hb, upB_end hu]; simp [h1]; omega

set_option maxHeartbeats 400000 in
theorem Tryd.name_any (s : ByteArray) (w : World) (hs : s.size ≤ maxLen) :
    Calls Tryd.prog 44 #[.string s] w fun e w' => e = .returned (.bool (nameL s.toList)) ∧ w' = w := by
  unfold maxLen at hs
  by_cases hsh : s.size < 1 ∨ 20 < s.size
  · have hn := nameL_short hsh
    rw [hn]; clear hn
    rcases hsh with h | h
    · go_enter Tryd.func44, Tryd.ntmps44
      go_wp2
      go_ret
      exact ⟨rfl, rfl⟩
    · have h' : ¬ s.size < 1 := by omega
      go_enter Tryd.func44, Tryd.ntmps44
      go_wp2
      go_ret
      exact ⟨rfl, rfl⟩
  have h0 : 0 < s.size := by omega
  have h20 : s.size ≤ 20 := by omega
  clear hsh
  rcases Bool.eq_false_or_eq_true (smallB (s[0].toNat : Int)) with hb | hb
  · have HB : Hid (smallB (s[0].toNat : Int) = true) := hb
    go_enter Tryd.func44, Tryd.ntmps44
    go_wp2_with (go_at_call 56; refine (Tryd.small_any _ _).mono ?_; rintro e w' ⟨rfl, rfl⟩)
    clear hb
    go_loop [20] (fun i => ∃ k : Nat, k ≤ s.size ∧ i = .int .i64 k ∧ upB s k) (fun i => s.size - (intOf i).toNat)
    case atStart => exact ⟨0, Nat.zero_le _, rfl, upB_zero s⟩
    case round =>
      obtain ⟨k, hk, rfl, hu⟩ := hrel
      by_cases hlt : k < s.size
      · rcases Bool.eq_false_or_eq_true (smallB (s[k].toNat : Int)) with c1 | c1
        · have hB : byteB s[k] = true := by simp [byteB, c1]
          go_wp2_with (first | (go_at_call 56; refine (Tryd.small_any _ _).mono ?_; rintro e w' ⟨rfl, rfl⟩) | (go_at_call 57; refine (Tryd.digit_any _ _).mono ?_; rintro e w' ⟨rfl, rfl⟩))
          go_round
          case rel => exact ⟨k + 1, by omega, by go_num, upB_succ hu hlt hB⟩
          case measure => simp [intOf]; omega
        · rcases Bool.eq_false_or_eq_true (digitB (s[k].toNat : Int)) with c2 | c2
          · have hB : byteB s[k] = true := by simp [byteB, c2]
            go_wp2_with (first | (go_at_call 56; refine (Tryd.small_any _ _).mono ?_; rintro e w' ⟨rfl, rfl⟩) | (go_at_call 57; refine (Tryd.digit_any _ _).mono ?_; rintro e w' ⟨rfl, rfl⟩))
            go_round
            case rel => exact ⟨k + 1, by omega, by go_num, upB_succ hu hlt hB⟩
            case measure => simp [intOf]; omega
          · have HN : Hid (nameL s.toList = false) := nameL_byte hlt (by simp [byteB, c1, c2])
            go_wp2_with (first | (go_at_call 56; refine (Tryd.small_any _ _).mono ?_; rintro e w' ⟨rfl, rfl⟩) | (go_at_call 57; refine (Tryd.digit_any _ _).mono ?_; rintro e w' ⟨rfl, rfl⟩))
            go_ret
            exact ⟨by rw [HN.out]; rfl, rfl⟩
      · obtain rfl : k = s.size := by omega
        have HN : Hid (nameL s.toList = !resL s.toList) := nameL_end h0 h20 HB.out hu
        go_wp2_with (go_at_call 58; refine (Tryd.res_any _ _).mono ?_; rintro e w' ⟨rfl, rfl⟩)
        go_ret
        exact ⟨by rw [HN.out]; rfl, rfl⟩
  · rw [nameL_head h0 hb]
    go_enter Tryd.func44, Tryd.ntmps44
    go_wp2_with (go_at_call 56; refine (Tryd.small_any _ _).mono ?_; rintro e w' ⟨rfl, rfl⟩)
    go_ret
    exact ⟨rfl, rfl⟩
theorem nameL_res {s : ByteArray} (h : resL s.toList = true) : nameL s.toList = false := by unfold nameL; rw [h]; simp
theorem resL_split {s : List UInt8} (h : resL s = false) : (s == [116, 114, 117, 101]) = false ∧ (s == [102, 97, 108, 115, 101]) = false ∧ (s == [108, 97, 115, 116]) = false := by
  unfold resL at h; simp only [Bool.or_eq_false_iff] at h; exact ⟨h.1.1, h.1.2, h.2⟩

end Go.Proofs.YtfipefbaabkdeaaDoor
