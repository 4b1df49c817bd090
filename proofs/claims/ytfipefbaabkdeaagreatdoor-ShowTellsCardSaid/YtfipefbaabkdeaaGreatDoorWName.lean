/- What the calls on single bytes and names answer: letter.Name and the document's Name are one function of the text. -/
import Derived.Test.YtfipefbaabkdeaaGreatDoorKBase
import Derived.Test.YtfipefbaabkdeaaGreatDoorPlain
import Derived.WalkLawsBesides
namespace Go.Proofs.YtfipefbaabkdeaaGreatDoor
open Go.RowKit

theorem Tryz.small_any (c : Int) (w : World) :
    Calls Tryz.prog 75 #[.int .u8 c] w fun e w' => e = .returned (.bool (smallB c)) ∧ w' = w := by
  go_enter Tryz.func75, Tryz.ntmps75
  go_wp2
  · go_ret
    exact ⟨by simp [smallB, *], rfl⟩
  · go_ret
    exact ⟨by rw [smallB_f (by omega)]; rfl, rfl⟩
theorem Tryz.digit_any (c : Int) (w : World) :
    Calls Tryz.prog 76 #[.int .u8 c] w fun e w' => e = .returned (.bool (digitB c)) ∧ w' = w := by
  go_enter Tryz.func76, Tryz.ntmps76
  go_wp2
  · go_ret
    exact ⟨by simp [digitB, *], rfl⟩
  · go_ret
    exact ⟨by rw [digitB_f (by omega)]; rfl, rfl⟩
theorem Tryz.rsmall_any (c : Int) (w : World) :
    Calls Tryz.prog 42 #[.int .u8 c] w fun e w' => e = .returned (.bool (smallB c)) ∧ w' = w := by
  go_enter Tryz.func42, Tryz.ntmps42
  go_wp2
  · go_ret
    exact ⟨by simp [smallB, *], rfl⟩
  · go_ret
    exact ⟨by rw [smallB_f (by omega)]; rfl, rfl⟩
theorem Tryz.res_any (s : ByteArray) (w : World) :
    Calls Tryz.prog 77 #[.string s] w fun e w' => e = .returned (.bool (resL s.toList)) ∧ w' = w := by
  unfold resL
  rcases Bool.eq_false_or_eq_true (s.toList == [116, 114, 117, 101]) with h1 | h1
  · go_enter Tryz.func77, Tryz.ntmps77
    go_wp2
    go_ret
    exact ⟨by simp [*], rfl⟩
  rcases Bool.eq_false_or_eq_true (s.toList == [102, 97, 108, 115, 101]) with h2 | h2
  · go_enter Tryz.func77, Tryz.ntmps77
    go_wp2
    go_ret
    exact ⟨by simp [*], rfl⟩
  rcases Bool.eq_false_or_eq_true (s.toList == [108, 97, 115, 116]) with h3 | h3
  all_goals
    go_enter Tryz.func77, Tryz.ntmps77
    go_wp2
    go_ret
    exact ⟨by simp [*], rfl⟩

/-- What Name answers. -/
theorem nameL_short {s : ByteArray} (h : s.size < 1 ∨ 20 < s.size) : nameL s.toList = false := by
  unfold nameL; rw [tl_len]; rcases h with h | h
  · simp [show ¬ 1 ≤ s.size by omega]
  · simp [show ¬ s.size ≤ 20 by omega]
theorem nameL_head {s : ByteArray} (h : 0 < s.size) (hb : smallB (s[0].toNat : Int) = false) : nameL s.toList = false := by
  unfold nameL; rw [tl_head s h, hb]; simp
theorem nameL_byte {s : ByteArray} {k : Nat} (hk : k < s.size) (hb : byteB s[k] = false) : nameL s.toList = false := by
  unfold nameL; rw [all_not hk hb]; simp
theorem nameL_end {s : ByteArray} (h0 : 0 < s.size) (h1 : s.size ≤ 20) (hb : smallB (s[0].toNat : Int) = true) (hu : upB s s.size) : nameL s.toList = !resL s.toList := by
  unfold nameL; rw [tl_len, tl_head s h0, hb, upB_end hu]; simp [h1]; omega

set_option maxHeartbeats 400000 in
theorem Tryz.name_any (s : ByteArray) (w : World) (hs : s.size ≤ maxLen) :
    Calls Tryz.prog 56 #[.string s] w fun e w' => e = .returned (.bool (nameL s.toList)) ∧ w' = w := by
  unfold maxLen at hs
  by_cases hsh : s.size < 1 ∨ 20 < s.size
  · have hn := nameL_short hsh
    rw [hn]; clear hn
    rcases hsh with h | h
    · go_enter Tryz.func56, Tryz.ntmps56
      go_wp2
      go_ret
      exact ⟨rfl, rfl⟩
    · have h' : ¬ s.size < 1 := by omega
      go_enter Tryz.func56, Tryz.ntmps56
      go_wp2
      go_ret
      exact ⟨rfl, rfl⟩
  have h0 : 0 < s.size := by omega
  have h20 : s.size ≤ 20 := by omega
  clear hsh
  rcases Bool.eq_false_or_eq_true (smallB (s[0].toNat : Int)) with hb | hb
  · have HB : Hid (smallB (s[0].toNat : Int) = true) := hb
    go_enter Tryz.func56, Tryz.ntmps56
    go_wp2_with (go_at_call 75; refine (Tryz.small_any _ _).mono ?_; rintro e w' ⟨rfl, rfl⟩)
    clear hb
    go_loop [20] (fun i => ∃ k : Nat, k ≤ s.size ∧ i = .int .i64 k ∧ upB s k) (fun i => s.size - (intOf i).toNat)
    case atStart => exact ⟨0, Nat.zero_le _, rfl, upB_zero s⟩
    case round =>
      obtain ⟨k, hk, rfl, hu⟩ := hrel
      by_cases hlt : k < s.size
      · rcases Bool.eq_false_or_eq_true (smallB (s[k].toNat : Int)) with c1 | c1
        · have hB : byteB s[k] = true := by simp [byteB, c1]
          go_wp2_with (first | (go_at_call 75; refine (Tryz.small_any _ _).mono ?_; rintro e w' ⟨rfl, rfl⟩) | (go_at_call 76; refine (Tryz.digit_any _ _).mono ?_; rintro e w' ⟨rfl, rfl⟩))
          go_round
          case rel => exact ⟨k + 1, by omega, by go_num, upB_succ hu hlt hB⟩
          case measure => simp [intOf]; omega
        · rcases Bool.eq_false_or_eq_true (digitB (s[k].toNat : Int)) with c2 | c2
          · have hB : byteB s[k] = true := by simp [byteB, c2]
            go_wp2_with (first | (go_at_call 75; refine (Tryz.small_any _ _).mono ?_; rintro e w' ⟨rfl, rfl⟩) | (go_at_call 76; refine (Tryz.digit_any _ _).mono ?_; rintro e w' ⟨rfl, rfl⟩))
            go_round
            case rel => exact ⟨k + 1, by omega, by go_num, upB_succ hu hlt hB⟩
            case measure => simp [intOf]; omega
          · have HN : Hid (nameL s.toList = false) := nameL_byte hlt (by simp [byteB, c1, c2])
            go_wp2_with (first | (go_at_call 75; refine (Tryz.small_any _ _).mono ?_; rintro e w' ⟨rfl, rfl⟩) | (go_at_call 76; refine (Tryz.digit_any _ _).mono ?_; rintro e w' ⟨rfl, rfl⟩))
            go_ret
            exact ⟨by rw [HN.out]; rfl, rfl⟩
      · obtain rfl : k = s.size := by omega
        have HN : Hid (nameL s.toList = !resL s.toList) := nameL_end h0 h20 HB.out hu
        go_wp2_with (go_at_call 77; refine (Tryz.res_any _ _).mono ?_; rintro e w' ⟨rfl, rfl⟩)
        go_ret
        exact ⟨by rw [HN.out]; rfl, rfl⟩
  · rw [nameL_head h0 hb]
    go_enter Tryz.func56, Tryz.ntmps56
    go_wp2_with (go_at_call 75; refine (Tryz.small_any _ _).mono ?_; rintro e w' ⟨rfl, rfl⟩)
    go_ret
    exact ⟨rfl, rfl⟩
theorem nameL_res {s : ByteArray} (h : resL s.toList = true) : nameL s.toList = false := by unfold nameL; rw [h]; simp
theorem resL_split {s : List UInt8} (h : resL s = false) : (s == [116, 114, 117, 101]) = false ∧ (s == [102, 97, 108, 115, 101]) = false ∧ (s == [108, 97, 115, 116]) = false := by
  unfold resL at h; simp only [Bool.or_eq_false_iff] at h; exact ⟨h.1.1, h.1.2, h.2⟩

set_option maxHeartbeats 800000 in
theorem Tryz.rname_any (s : ByteArray) (w : World) (hs : s.size ≤ maxLen) :
    Calls Tryz.prog 29 #[.string s] w fun e w' => e = .returned (.bool (nameL s.toList)) ∧ w' = w := by
  unfold maxLen at hs
  by_cases hsh : s.size < 1 ∨ 20 < s.size
  · have hn := nameL_short hsh
    rw [hn]; clear hn
    rcases hsh with h | h
    · go_enter Tryz.func29, Tryz.ntmps29
      go_wp2
      go_ret
      exact ⟨rfl, rfl⟩
    · have h' : ¬ s.size < 1 := by omega
      go_enter Tryz.func29, Tryz.ntmps29
      go_wp2
      go_ret
      exact ⟨rfl, rfl⟩
  have h0 : 0 < s.size := by omega
  have h20 : s.size ≤ 20 := by omega
  clear hsh
  rcases Bool.eq_false_or_eq_true (smallB (s[0].toNat : Int)) with hb | hb
  · have HB : Hid (smallB (s[0].toNat : Int) = true) := hb
    rcases Bool.eq_false_or_eq_true (resL s.toList) with hr | hr
    · rw [nameL_res hr]
      unfold resL at hr
      rcases Bool.eq_false_or_eq_true (s.toList == [116, 114, 117, 101]) with h1 | h1
      · clear hr
        go_enter Tryz.func29, Tryz.ntmps29
        go_wp2_with (go_at_call 42; refine (Tryz.rsmall_any _ _).mono ?_; rintro e w' ⟨rfl, rfl⟩)
        go_ret
        exact ⟨rfl, rfl⟩
      rcases Bool.eq_false_or_eq_true (s.toList == [102, 97, 108, 115, 101]) with h2 | h2
      · clear hr
        go_enter Tryz.func29, Tryz.ntmps29
        go_wp2_with (go_at_call 42; refine (Tryz.rsmall_any _ _).mono ?_; rintro e w' ⟨rfl, rfl⟩)
        go_ret
        exact ⟨rfl, rfl⟩
      have h3 : (s.toList == [108, 97, 115, 116]) = true := by rw [h1, h2] at hr; simpa using hr
      clear hr
      go_enter Tryz.func29, Tryz.ntmps29
      go_wp2_with (go_at_call 42; refine (Tryz.rsmall_any _ _).mono ?_; rintro e w' ⟨rfl, rfl⟩)
      go_ret
      exact ⟨rfl, rfl⟩
    · obtain ⟨h1, h2, h3⟩ := resL_split hr
      have HR : Hid (resL s.toList = false) := hr
      clear hr
      go_enter Tryz.func29, Tryz.ntmps29
      go_wp2_with (go_at_call 42; refine (Tryz.rsmall_any _ _).mono ?_; rintro e w' ⟨rfl, rfl⟩)
      clear hb h1 h2 h3
      go_loop [3] (fun i => ∃ k : Nat, k ≤ s.size ∧ i = .int .i64 k ∧ upB s k) (fun i => s.size - (intOf i).toNat)
      case atStart => exact ⟨0, Nat.zero_le _, rfl, upB_zero s⟩
      case round =>
        obtain ⟨k, hk, rfl, hu⟩ := hrel
        by_cases hlt : k < s.size
        · rcases Bool.eq_false_or_eq_true (smallB (s[k].toNat : Int)) with c1 | c1
          · have hB : byteB s[k] = true := by simp [byteB, c1]
            go_wp2_with (go_at_call 42; refine (Tryz.rsmall_any _ _).mono ?_; rintro e w' ⟨rfl, rfl⟩)
            go_round
            case rel => exact ⟨k + 1, by omega, by go_num, upB_succ hu hlt hB⟩
            case measure => simp [intOf]; omega
          · by_cases d1 : (s[k].toNat : Int) < 48
            · have HN : Hid (nameL s.toList = false) := nameL_byte hlt (by simp [byteB, c1, digitB_f (Or.inl d1)])
              go_wp2_with (go_at_call 42; refine (Tryz.rsmall_any _ _).mono ?_; rintro e w' ⟨rfl, rfl⟩)
              go_ret
              exact ⟨by rw [HN.out]; rfl, rfl⟩
            by_cases d2 : 57 < (s[k].toNat : Int)
            · have HN : Hid (nameL s.toList = false) := nameL_byte hlt (by simp [byteB, c1, digitB_f (Or.inr d2)])
              go_wp2_with (go_at_call 42; refine (Tryz.rsmall_any _ _).mono ?_; rintro e w' ⟨rfl, rfl⟩)
              go_ret
              exact ⟨by rw [HN.out]; rfl, rfl⟩
            · have hB : byteB s[k] = true := by simp [byteB, digitB_t (Int.not_lt.1 d1) (Int.not_lt.1 d2)]
              go_wp2_with (go_at_call 42; refine (Tryz.rsmall_any _ _).mono ?_; rintro e w' ⟨rfl, rfl⟩)
              go_round
              case rel => exact ⟨k + 1, by omega, by go_num, upB_succ hu hlt hB⟩
              case measure => simp [intOf]; omega
        · obtain rfl : k = s.size := by omega
          have HN : Hid (nameL s.toList = true) := by have := nameL_end h0 h20 HB.out hu; rw [HR.out] at this; exact this
          go_wp2
          go_ret
          exact ⟨by rw [HN.out]; rfl, rfl⟩
  · rw [nameL_head h0 hb]
    go_enter Tryz.func29, Tryz.ntmps29
    go_wp2_with (go_at_call 42; refine (Tryz.rsmall_any _ _).mono ?_; rintro e w' ⟨rfl, rfl⟩)
    go_ret
    exact ⟨rfl, rfl⟩
end Go.Proofs.YtfipefbaabkdeaaGreatDoor
