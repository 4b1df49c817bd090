/- Equality of faults and of words; what the law's awake tells. -/
import Derived.Test.YtngajjffkbbaiaaDoorWLx10
namespace Go.Proofs.YtngajjffkbbaiaaDoor
open Go.RowKit Go.Maps

theorem Tryd.fieldsFlt : ∃ f0 f1, (Tryd.prog.fieldsOf 25).toList = [f0, f1] ∧ (f0.name = "Err" ∧ f0.type = 23 ∧ f0.offset = 0) ∧ (f1.name = "At" ∧ f1.type = 3 ∧ f1.offset = 1) := by
  have hfl : (Tryd.prog.fieldsOf 25).toList.map (fun f => (f.name, f.type, f.offset)) = [("Err", 23, 0), ("At", 3, 1)] := by kernel_rfl
  cases hl : (Tryd.prog.fieldsOf 25).toList with
  | nil => rw [hl] at hfl; simp at hfl
  | cons f0 r =>
    cases r with
    | nil => rw [hl] at hfl; simp at hfl
    | cons f1 r =>
      rw [hl] at hfl
      simp at hfl
      obtain ⟨h0, h1, rfl⟩ := hfl
      exact ⟨f0, f1, rfl, h0, h1⟩
theorem Tryd.eqlFlt (x0 x1 y0 y1 : Int) (w : World) : (binOp .eql 25 (.agg #[.int .i64 x0, .int .i64 x1]) (.agg #[.int .i64 y0, .int .i64 y1])).run Tryd.prog w = .ok (.bool (decide ((x0, x1) = (y0, y1)))) w := by
  have ht : Tryd.prog.underlying 25 = some (.struct (Tryd.prog.fieldsOf 25)) := by kernel_rfl
  have hp : Tryd.prog.stoodInHeld 25 = false := by kernel_rfl
  rw [run_eql_struct, run_equalIn_agg _ 9999 _ _ _ ht hp]
  obtain ⟨f0, f1, hl, ⟨a1, a2, a3⟩, ⟨b1, b2, b3⟩⟩ := Tryd.fieldsFlt
  rw [hl]
  by_cases h0 : x0 = y0
  · by_cases h1 : x1 = y1
    · simp [Op.eqFields, a1, a2, a3, b1, b2, b3, go_sem, h0, h1, run_equalIn_int _ 9998 _ _ _ _ _ Tryd.underlying23, run_equalIn_int _ 9998 _ _ _ _ _ Tryd.underlying3]
    · simp [Op.eqFields, a1, a2, a3, b1, b2, b3, go_sem, h0, h1, run_equalIn_int _ 9998 _ _ _ _ _ Tryd.underlying23, run_equalIn_int _ 9998 _ _ _ _ _ Tryd.underlying3]
  · simp [Op.eqFields, a1, a2, a3, go_sem, h0, run_equalIn_int _ 9998 _ _ _ _ _ Tryd.underlying23]
theorem Tryd.neqFlt (x0 x1 y0 y1 : Int) (w : World) : (binOp .neq 25 (.agg #[.int .i64 x0, .int .i64 x1]) (.agg #[.int .i64 y0, .int .i64 y1])).run Tryd.prog w = .ok (.bool (!decide ((x0, x1) = (y0, y1)))) w := by
  have h := Tryd.eqlFlt x0 x1 y0 y1 w
  rw [run_eql_struct] at h
  rw [run_neq_struct]
  cases hr : (Op.equalIn 10000 25 (.agg #[.int .i64 x0, .int .i64 x1]) (.agg #[.int .i64 y0, .int .i64 y1])).run Tryd.prog w with
  | ok b w1 =>
    rw [hr] at h
    simp [Result.andThen] at h ⊢
    obtain ⟨rfl, rfl⟩ := h
    exact ⟨rfl, rfl⟩
  | halt x w1 => rw [hr] at h; simp [Result.andThen] at h
theorem Tryd.fieldsWd : ∃ f0 f1 f2, (Tryd.prog.fieldsOf 33).toList = [f0, f1, f2] ∧ (f0.name = "Sort" ∧ f0.type = 31 ∧ f0.offset = 0) ∧ (f1.name = "Text" ∧ f1.type = 9 ∧ f1.offset = 1) ∧ (f2.name = "At" ∧ f2.type = 3 ∧ f2.offset = 2) := by
  have hfl : (Tryd.prog.fieldsOf 33).toList.map (fun f => (f.name, f.type, f.offset)) = [("Sort", 31, 0), ("Text", 9, 1), ("At", 3, 2)] := by kernel_rfl
  cases hl : (Tryd.prog.fieldsOf 33).toList with
  | nil => rw [hl] at hfl; simp at hfl
  | cons f0 r =>
    cases r with
    | nil => rw [hl] at hfl; simp at hfl
    | cons f1 r =>
      cases r with
      | nil => rw [hl] at hfl; simp at hfl
      | cons f2 r =>
        rw [hl] at hfl
        simp at hfl
        obtain ⟨h0, h1, h2, rfl⟩ := hfl
        exact ⟨f0, f1, f2, rfl, h0, h1, h2⟩
def eqW (a : Nat) (s : ByteArray) (p : Int) (b : Nat) (t : ByteArray) (q : Int) : Bool := decide (a = b ∧ s.toList = t.toList ∧ p = q)
theorem Tryd.eqlWd (a : Nat) (s : ByteArray) (p : Int) (b : Nat) (t : ByteArray) (q : Int) (w : World) : (binOp .eql 33 (.agg #[.int .u8 (a : Int), .string s, .int .i64 p]) (.agg #[.int .u8 (b : Int), .string t, .int .i64 q])).run Tryd.prog w = .ok (.bool (eqW a s p b t q)) w := by
  have ht : Tryd.prog.underlying 33 = some (.struct (Tryd.prog.fieldsOf 33)) := by kernel_rfl
  have hp : Tryd.prog.stoodInHeld 33 = false := by kernel_rfl
  rw [run_eql_struct, run_equalIn_agg _ 9999 _ _ _ ht hp]
  obtain ⟨f0, f1, f2, hl, ⟨a1, a2, a3⟩, ⟨b1, b2, b3⟩, ⟨c1, c2, c3⟩⟩ := Tryd.fieldsWd
  rw [hl]
  unfold eqW
  by_cases h0 : a = b
  · by_cases h1 : s.toList = t.toList
    · by_cases h2 : p = q
      · simp [Op.eqFields, a1, a2, a3, b1, b2, b3, c1, c2, c3, go_sem, h0, h1, h2, run_equalIn_int _ 9998 _ _ _ _ _ Tryd.underlying31, run_equalIn_int _ 9998 _ _ _ _ _ Tryd.underlying3, run_equalIn_string _ 9998 _ _ _ Tryd.underlying9]
      · simp [Op.eqFields, a1, a2, a3, b1, b2, b3, c1, c2, c3, go_sem, h0, h1, h2, run_equalIn_int _ 9998 _ _ _ _ _ Tryd.underlying31, run_equalIn_int _ 9998 _ _ _ _ _ Tryd.underlying3, run_equalIn_string _ 9998 _ _ _ Tryd.underlying9]
    · simp [Op.eqFields, a1, a2, a3, b1, b2, b3, go_sem, h0, h1, run_equalIn_int _ 9998 _ _ _ _ _ Tryd.underlying31, run_equalIn_string _ 9998 _ _ _ Tryd.underlying9]
  · have h0' : ¬ (a : Int) = (b : Int) := by omega
    simp [Op.eqFields, a1, a2, a3, go_sem, h0, h0', run_equalIn_int _ 9998 _ _ _ _ _ Tryd.underlying31]
theorem Tryd.neqWd (a : Nat) (s : ByteArray) (p : Int) (b : Nat) (t : ByteArray) (q : Int) (w : World) : (binOp .neq 33 (.agg #[.int .u8 (a : Int), .string s, .int .i64 p]) (.agg #[.int .u8 (b : Int), .string t, .int .i64 q])).run Tryd.prog w = .ok (.bool (!eqW a s p b t q)) w := by
  have h := Tryd.eqlWd a s p b t q w
  rw [run_eql_struct] at h
  rw [run_neq_struct]
  cases hr : (Op.equalIn 10000 33 (.agg #[.int .u8 (a : Int), .string s, .int .i64 p]) (.agg #[.int .u8 (b : Int), .string t, .int .i64 q])).run Tryd.prog w with
  | ok b w1 =>
    rw [hr] at h
    simp [Result.andThen] at h ⊢
    obtain ⟨rfl, rfl⟩ := h
    exact ⟨rfl, rfl⟩
  | halt x w1 => rw [hr] at h; simp [Result.andThen] at h

/-! ### the law's awake -/
theorem ex1 : wordsL [88, 40, 112, 49, 38, 33, 113, 41] = ([⟨1, mkB [88], 0⟩, ⟨0, mkB [40], 1⟩, ⟨2, mkB [112, 49], 2⟩, ⟨0, mkB [38], 4⟩, ⟨0, mkB [33], 5⟩, ⟨2, mkB [113], 6⟩, ⟨0, mkB [41], 7⟩], 0, 0) := rfl
theorem ex2 : wordsL [112, 60, 45, 113] = ([], 140, 2) := rfl
end Go.Proofs.YtngajjffkbbaiaaDoor
