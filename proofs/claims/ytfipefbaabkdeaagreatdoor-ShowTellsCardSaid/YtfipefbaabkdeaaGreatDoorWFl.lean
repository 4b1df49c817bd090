/- Equality of faults. -/
import Derived.Test.YtfipefbaabkdeaaGreatDoorWLx7
namespace Go.Proofs.YtfipefbaabkdeaaGreatDoor
open Go.RowKit Go.Maps

theorem Tryz.fieldsFlt : ∃ f0 f1, (Tryz.prog.fieldsOf 31).toList = [f0, f1] ∧ (f0.name = "Err" ∧ f0.type = 25 ∧ f0.offset = 0) ∧ (f1.name = "At" ∧ f1.type = 3 ∧ f1.offset = 1) := by
  have hfl : (Tryz.prog.fieldsOf 31).toList.map (fun f => (f.name, f.type, f.offset)) = [("Err", 25, 0), ("At", 3, 1)] := by kernel_rfl
  cases hl : (Tryz.prog.fieldsOf 31).toList with
  | nil => rw [hl] at hfl; simp at hfl
  | cons f0 r =>
    cases r with
    | nil => rw [hl] at hfl; simp at hfl
    | cons f1 r =>
      rw [hl] at hfl
      simp at hfl
      obtain ⟨h0, h1, rfl⟩ := hfl
      exact ⟨f0, f1, rfl, h0, h1⟩
theorem Tryz.eqlFlt (x0 x1 y0 y1 : Int) (w : World) : (binOp .eql 31 (.agg #[.int .i64 x0, .int .i64 x1]) (.agg #[.int .i64 y0, .int .i64 y1])).run Tryz.prog w = .ok (.bool (decide ((x0, x1) = (y0, y1)))) w := by
  have ht : Tryz.prog.underlying 31 = some (.struct (Tryz.prog.fieldsOf 31)) := by kernel_rfl
  have hp : Tryz.prog.stoodInHeld 31 = false := by kernel_rfl
  rw [run_eql_struct, run_equalIn_agg _ 9999 _ _ _ ht hp]
  obtain ⟨f0, f1, hl, ⟨a1, a2, a3⟩, ⟨b1, b2, b3⟩⟩ := Tryz.fieldsFlt
  rw [hl]
  by_cases h0 : x0 = y0
  · by_cases h1 : x1 = y1
    · simp [Op.eqFields, a1, a2, a3, b1, b2, b3, go_sem, h0, h1, run_equalIn_int _ 9998 _ _ _ _ _ Tryz.underlying25, run_equalIn_int _ 9998 _ _ _ _ _ Tryz.underlying3]
    · simp [Op.eqFields, a1, a2, a3, b1, b2, b3, go_sem, h0, h1, run_equalIn_int _ 9998 _ _ _ _ _ Tryz.underlying25, run_equalIn_int _ 9998 _ _ _ _ _ Tryz.underlying3]
  · simp [Op.eqFields, a1, a2, a3, go_sem, h0, run_equalIn_int _ 9998 _ _ _ _ _ Tryz.underlying25]
theorem Tryz.neqFlt (x0 x1 y0 y1 : Int) (w : World) : (binOp .neq 31 (.agg #[.int .i64 x0, .int .i64 x1]) (.agg #[.int .i64 y0, .int .i64 y1])).run Tryz.prog w = .ok (.bool (!decide ((x0, x1) = (y0, y1)))) w := by
  have h := Tryz.eqlFlt x0 x1 y0 y1 w
  rw [run_eql_struct] at h
  rw [run_neq_struct]
  cases hr : (Op.equalIn 10000 31 (.agg #[.int .i64 x0, .int .i64 x1]) (.agg #[.int .i64 y0, .int .i64 y1])).run Tryz.prog w with
  | ok b w1 =>
    rw [hr] at h
    simp [Result.andThen] at h ⊢
    obtain ⟨rfl, rfl⟩ := h
    exact ⟨rfl, rfl⟩
  | halt x w1 => rw [hr] at h; simp [Result.andThen] at h
end Go.Proofs.YtfipefbaabkdeaaGreatDoor
