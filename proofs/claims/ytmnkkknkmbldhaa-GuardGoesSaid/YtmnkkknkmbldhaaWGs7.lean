/- Package letter: All; package guard: Table. -/
import Derived.Test.YtmnkkknkmbldhaaWGs2
import Derived.Test.YtmnkkknkmbldhaaWGn3
namespace Go.Proofs.Ytmnkkknkmbldhaa
open Go.RowKit Go.Maps

/-- Block g is a row of just these letters. -/
def LtRow (w : World) (g : Nat) (zs : List Int) : Prop := w.heap[g]? = some (.cells (zs.map (Value.int .u8)).toArray 49 (0, 0))
/-- All letters below k, the rest zeros. -/
def allTo (k M : Nat) : List Int := (List.range M).map fun i => if i < k then (i : Int) else 0
theorem allTo_len (k M : Nat) : (allTo k M).length = M := by simp [allTo]
theorem allTo_get {k M i : Nat} (h : i < M) : (allTo k M)[i]? = some (if i < k then (i : Int) else 0) := by simp [allTo, h]
theorem allTo_set {k M : Nat} (h : k < M) : (allTo k M).set k (k : Int) = allTo (k + 1) M := by
  apply List.ext_getElem?
  intro i
  rw [List.getElem?_set]
  by_cases hi : i < M
  · rw [allTo_get hi, allTo_get hi]
    by_cases e : k = i
    · subst e; simp [allTo_len, h]
    · rw [if_neg e]
      by_cases hk : i < k
      · rw [if_pos hk, if_pos (by omega)]
      · rw [if_neg hk, if_neg (by omega)]
  · have h1 : (allTo k M)[i]? = none := List.getElem?_eq_none (by rw [allTo_len]; omega)
    have h2 : (allTo (k + 1) M)[i]? = none := List.getElem?_eq_none (by rw [allTo_len]; omega)
    rw [h1, h2, allTo_len]
    split <;> simp; omega
theorem madeL (n : Nat) : madeCells #[.int .u8 0] n = ((allTo 0 n).map (Value.int .u8)).toArray := by
  apply Array.ext_getElem?
  intro i
  by_cases h : i < n
  · simp [madeCells, allTo, h, Nat.mod_one]
  · simp [madeCells, allTo, h]
theorem Try.sizeLt : (Try.prog.info? 49).map (·.size) = some 1 := by kernel_rfl
theorem Try.infoLt : (Try.prog.info? 49).map (fun i => (i.zero, i.size, i.bytes)) = some (some (.int .u8 0), 1, 1) := by kernel_rfl
theorem Try.makeLt (c : Nat) (hb : c ≤ 1000000) (w : World) :
    (Instr.makeSlice 76 (.int .i64 (c : Int)) (.int .i64 (c : Int))).run Try.prog w = .ok (.slice (some ⟨w.heap.size, 0, none⟩) c c) (w.alloc (.cells ((allTo 0 c).map (Value.int .u8)).toArray 49)) := by
  obtain ⟨i, hi, hz0, hz1, hz2⟩ := info_parts Try.infoLt
  have := run_make (P := Try.prog) w 76 49 i (.int .u8 0) Try.underlying76 hi hz0 .i64 .i64 c c (by omega) (by omega) (by rw [hz2]; omega) (by omega)
  rw [this, hz1, ← madeL]
  simp only [Int.toNat_natCast, Nat.mul_one]
  rfl
theorem Try.idxLt (g c k : Nat) (hk : k < c) (w : World) : (Instr.indexAt 76 (.slice (some ⟨g, 0, none⟩) c c) (.int .i64 (k : Int))).run Try.prog w = .ok (.pointer (some ⟨g, k, none⟩)) w := by
  have := idx_of (P := Try.prog) (T := 76) (e := 49) Try.underlying76 Try.sizeLt (a := some ⟨g, 0, none⟩) (cap := c) (n := c) (by simp) k w hk
  simpa [adOf, add_plain] using this
set_option maxHeartbeats 800000 in
theorem Try.lcount_any (n : Int) (w : World) (h0 : 0 ≤ n) (h8 : n ≤ 8) : Calls Try.prog 47 #[.int .i64 n] w fun e w' => e = .returned (.bool true) ∧ w' = w := by
  have d0 : decide (0 ≤ n) = true := by simpa using h0
  have d8 : decide (n ≤ 8) = true := by simpa using h8
  go_enter Try.func47, Try.ntmps47
  go_wp2
  go_ret
  exact ⟨rfl, rfl⟩
set_option maxRecDepth 100000 in
set_option maxHeartbeats 1600000 in
theorem Try.lall_any (m : Nat) (hm : m ≤ 8) (w : World) : Calls Try.prog 38 #[.int .i64 (m : Int)] w fun e w' => ∃ g, e = .returned (.slice (some ⟨g, 0, none⟩) (2 ^ m) (2 ^ m)) ∧ LtRow w' g (allTo (2 ^ m) (2 ^ m)) ∧ Below w.heap.size w w' := by
  have hmin : min m 64 = m := by omega
  have hsh := shl_one m hm
  have hM : 2 ^ m ≤ 256 := Nat.pow_le_pow_right (by decide) hm
  have jc := fun w => Try.lcount_any (m : Int) w (by omega) (by omega)
  generalize hMM : 2 ^ m = M at *
  clear hMM
  have hmk := fun w => Try.makeLt M (by omega) w
  have HR0 : Hid (LtRow (w.alloc (.cells ((allTo 0 M).map (Value.int .u8)).toArray 49)) w.heap.size (allTo 0 M)) := (MapKept.heap_alloc w _).1
  have HB0 : Hid _ := below_new w (.cells ((allTo 0 M).map (Value.int .u8)).toArray 49)
  go_enter Try.func38, Try.ntmps38
  go_wp2_with (go_at_call 47; refine (jc _).mono ?_; rintro e w' ⟨rfl, hw1⟩; obtain rfl := hw1.symm)
  clear jc hmk
  go_loopw [13] (fun i wr => ∃ k : Nat, k ≤ M ∧ i = .int .i64 (k : Int) ∧ Hid (LtRow wr w.heap.size (allTo k M)) ∧ Hid (Below w.heap.size w wr)) (fun i _ => M - (intOf i).toNat)
  case atStart => exact ⟨0, Nat.zero_le _, rfl, HR0, HB0⟩
  case round =>
    clear HR0 HB0
    obtain ⟨k, hk, rfl, HR, HB⟩ := hrel
    by_cases hlt : k < M
    · have hix := fun w' => Try.idxLt w.heap.size M k hlt w'
      have hkw : IntKind.u8.wrap (k : Int) = (k : Int) := by rw [IntKind.wrap_u8]; omega
      obtain ⟨b, cb⟩ : ∃ b, wr.cell? ⟨w.heap.size, k, none⟩ = some (.int .u8 b) := ⟨_, (cell_row HR.out k).trans (by simp [allTo_get hlt]; rfl)⟩
      have zb : wr.frozen? ⟨w.heap.size, k, none⟩ = false := frozen_of_row _ _ k _ _ HR.out
      have HRN : Hid (LtRow (wr.setCell ⟨w.heap.size, k, none⟩ (.int .u8 (k : Int))) w.heap.size (allTo (k + 1) M)) := by
        unfold LtRow
        show _ = _
        rw [heap_setCell_same wr _ k _ _ (.int .u8 (k : Int)) HR.out, ← allTo_set hlt]
        simp [List.map_set]
      have HBN : Hid (Below w.heap.size w (wr.setCell ⟨w.heap.size, k, none⟩ (.int .u8 (k : Int)))) := HB.out.setCell (Nat.le_refl _) _
      clear HR HB
      go_wp2
      go_roundw
      case rel => exact ⟨k + 1, by omega, by go_num, HRN, HBN⟩
      case measure => simp [intOf] <;> omega
    · obtain rfl : k = M := by omega
      go_wp2
      go_ret
      exact ⟨w.heap.size, rfl, HR.out, HB.out⟩
/-- An empty row of numbers with room. -/
theorem Try.makeRoom (c : Nat) (hb : c ≤ 1000000) (w : World) :
    (Instr.makeSlice 30 (.int .i64 0) (.int .i64 (c : Int))).run Try.prog w = .ok (.slice (some ⟨w.heap.size, 0, none⟩) 0 c) (w.alloc (.cells ((List.replicate c (0 : Int)).map (Value.int .i64)).toArray 3)) := by
  obtain ⟨i, hi, hz0, hz1, hz2⟩ := info_parts Try.infoInt
  have := run_make (P := Try.prog) w 30 3 i (.int .i64 0) Try.underlying30 hi hz0 .i64 .i64 0 c (by omega) (by omega) (by rw [hz2]; omega) (by omega)
  rw [this, hz1, ← madeI]
  simp only [Int.toNat_natCast, Nat.mul_one]
  rfl
theorem own_room (w : World) (c : Nat) (hc : c ≤ 1000000) : (w.alloc (.cells ((List.replicate c (0 : Int)).map (Value.int .i64)).toArray 3)).ownsRow w.heap.size 3 1 (.slice (some ⟨w.heap.size, 0, none⟩) 0 c) 0 [] :=
  ⟨rfl, Or.inr ⟨w.heap.size, c, _, rfl, Nat.le_refl _, (MapKept.heap_alloc w _).1, Nat.zero_le _, by unfold maxLen; omega, by simp, by simp⟩⟩
end Go.Proofs.Ytmnkkknkmbldhaa
