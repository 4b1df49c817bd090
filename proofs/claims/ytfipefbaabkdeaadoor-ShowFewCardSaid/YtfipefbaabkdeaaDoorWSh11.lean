/- Stage 6's law ShowFew: where the bracket is that belongs to one. -/
import Derived.Test.YtfipefbaabkdeaaDoorWSh7
namespace Go.Proofs.YtfipefbaabkdeaaDoor
open Go.RowKit Go.Maps

theorem byte_no {a b : UInt8} (h : ¬ a = b) : ((a.toNat : Int) == (b.toNat : Int)) = false := by
  simp
  intro e
  exact h (UInt8.toNat.inj (by omega))
set_option maxRecDepth 100000 in
set_option maxHeartbeats 1000000 in
theorem Tryd.closing_any (s : ByteArray) (i : Nat) (w : World) (hi : i < s.size) (h40 : s[i] = 40) (hl : ∀ h : s.size - 1 < s.size, s[s.size - 1] ≠ 40) (hs : s.size ≤ 10000000) :
    Calls Tryd.prog 13 #[.string s, .int .i64 (i : Int)] w fun e w' => (∃ k : Nat, e = .returned (.int .i64 (k : Int)) ∧ i < k ∧ k < s.size) ∧ Below w.heap.size w w' := by
  go_enter Tryd.func13, Tryd.ntmps13
  go_wp2
  go_loopw [6, 5] (fun j dv wr => ∃ (k : Nat) (d : Nat), i ≤ k ∧ k ≤ s.size ∧ j = .int .i64 k ∧ dv = .int .i64 (d : Int) ∧ (k = i → d = 0) ∧ (i < k → 1 ≤ d) ∧ d ≤ k ∧ Hid (Below w.heap.size w wr)) (fun j _ _ => s.size - (intOf j).toNat)
  case atStart => exact ⟨i, 0, Nat.le_refl _, by omega, rfl, rfl, fun _ => rfl, fun h => by omega, by omega, Below.refl _ _⟩
  case round =>
    obtain ⟨k, d, hk1, hk2, rfl, rfl, hd1, hd2, hd3, HB⟩ := hrel
    by_cases hlt : k < s.size
    · by_cases hki : k = i
      · subst hki
        obtain rfl := hd1 rfl
        go_wp2
        go_roundw
        case rel => exact ⟨k + 1, 1, by omega, by omega, by go_num, rfl, fun h => by omega, fun _ => by omega, by omega, HB⟩
        case measure => simp [intOf]; omega
      · have hd := hd2 (by omega)
        by_cases ho : s[k] = 40
        · go_wp2
          go_roundw
          case rel => exact ⟨k + 1, d + 1, by omega, by omega, by go_num, by go_num, fun h => by omega, fun _ => by omega, by omega, HB⟩
          case measure => simp [intOf]; omega
        · have o1 : ((s[k].toNat : Int) == 40) = false := byte_no ho
          by_cases hc : s[k] = 41
          · by_cases h1 : d = 1
            · subst h1
              go_wp2
              go_ret
              exact ⟨⟨k, rfl, by omega, hlt⟩, HB.out⟩
            · have hz : ((d : Int) - 1 == 0) = false := by simp; omega
              have hz2 : ¬ ((d : Int) - 1 = 0) := by omega
              go_wp2
              go_roundw
              case rel => exact ⟨k + 1, d - 1, by omega, by omega, by go_num, by go_num, fun h => by omega, fun _ => by omega, by omega, HB⟩
              case measure => simp [intOf]; omega
          · have o2 : ((s[k].toNat : Int) == 41) = false := byte_no hc
            go_wp2
            go_roundw
            case rel => exact ⟨k + 1, d, by omega, by omega, by go_num, rfl, fun h => by omega, fun _ => by omega, by omega, HB⟩
            case measure => simp [intOf]; omega
    · have hne : i < s.size - 1 := by
        rcases Nat.lt_or_ge i (s.size - 1) with h | h
        · exact h
        · exfalso
          have e : i = s.size - 1 := by omega
          subst e
          exact hl hi h40
      go_wp2
      go_ret
      exact ⟨⟨s.size - 1, by show Ending.returned (Value.int IntKind.i64 ((s.size : Int) - 1)) = _; rw [show ((s.size : Int) - 1) = ((s.size - 1 : Nat) : Int) by omega], hne, by omega⟩, HB.out⟩
end Go.Proofs.YtfipefbaabkdeaaDoor
