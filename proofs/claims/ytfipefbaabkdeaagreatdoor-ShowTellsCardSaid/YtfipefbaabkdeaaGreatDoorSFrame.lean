/- The frame of stage 6's rows: the table of operators is read off what is laid. -/
import Derived.Test.YtfipefbaabkdeaaGreatDoorTie
import Derived.Test.YtfipefbaabkdeaaGreatDoorCards
import Derived.Test.YtfipefbaabkdeaaGreatDoorWSh2
import Derived.ProofKit
import Derived.OpenShut
import Derived.LaidMore
import Derived.Lay
import Derived.SevenTiedAt
import Derived.Stop.Joined
import Derived.HandedShaped
import Derived.ShutString
import Derived.ChangeOld
import Derived.Lib.LaidU8
namespace Go.Proofs.YtfipefbaabkdeaaGreatDoor
open Go.ChangeShapes Go.WideShapes Go.ChangeAt Go.RowKit

theorem rows_flat {α : Type} (f : α → List Value) (m : Nat) (hm : ∀ a, (f a).length = m) : ∀ (L : List α) (cs : List Value), cs.length = L.length * m → (∀ i (h : i < L.length), (cs.drop (i * m)).take m = f L[i]) → cs = L.flatMap f
  | [], cs, hl, _ => by simp at hl; simp [hl]
  | a :: L, cs, hl, h => by
    have h0 := h 0 (by simp)
    simp only [Nat.zero_mul, List.drop_zero, List.getElem_cons_zero] at h0
    have hl' : cs.length = L.length * m + m := by rw [hl, List.length_cons, Nat.add_one_mul]
    have ih := rows_flat f m hm L (cs.drop m) (by rw [List.length_drop, hl']; omega) fun i hi => by
      have := h (i + 1) (by simp; omega)
      rw [List.drop_drop, Nat.add_comm m, ← Nat.add_one_mul]
      simpa using this
    rw [List.flatMap_cons, ← h0, ← ih, List.take_append_drop]
section
variable {H : Type} {enc : TypeId × Value → H} {P : Program} {w : World} {base : Nat} {sp : Nat → Bool} {held : Bool}
theorem rows_of_array {fuel : Nat} {t e : TypeId} {n m : Nat} {cs : List Value} {ds : List (DataW H)} {p : List MemPlace} (ht : P.underlying t = some (.array n e)) (hce : P.cellsOf e = m) (hct : P.cellsOf t = n * m)
    (h : DataW.trod enc P w base sp held fuel t cs = some (.agg ds, p)) : cs.length = n * m ∧ ds.length = n ∧ ∀ i (hi : i < ds.length), ∃ fuel' q, DataW.trod enc P w base sp held fuel' e ((cs.drop (i * m)).take m) = some (ds[i], q) := by
  cases fuel with
  | zero => simp [DataW.trod] at h
  | succ fuel =>
    simp only [DataW.trod, ht, hce, hct] at h
    split at h
    · rename_i hl
      obtain ⟨xs, hx, hx2⟩ := Option.map_eq_some_iff.1 h
      injection hx2 with hx3 _
      injection hx3 with hx3
      have hxl : xs.length = n := by simpa using Lib.mapM_length hx
      subst hx3
      refine ⟨hl, by simp [hxl], fun i hi => ?_⟩
      simp only [List.length_map] at hi
      have hin : i < n := by omega
      obtain ⟨b, hb, hf⟩ := Lib.mapM_at hx i i (by simp [hin])
      refine ⟨fuel, b.2, ?_⟩
      have : xs[i] = b := by rw [List.getElem?_eq_getElem hi] at hb; exact Option.some.inj hb
      rw [hf, List.getElem_map, this]
    · cases h
theorem row_of_struct {fuel : Nat} {t : TypeId} {fs : Array Field} {f0 f1 f2 f3 f4 : Field} {cs : List Value} {a b : List UInt8} {x y z : Int} {p : List MemPlace} (ht : P.underlying t = some (.struct fs)) (hc : P.cellsOf t = 5)
    (hfs : fs.toList = [f0, f1, f2, f3, f4]) (h0 : P.underlying f0.type = some .string ∧ f0.offset = 0 ∧ P.cellsOf f0.type = 1) (h1 : P.underlying f1.type = some .string ∧ f1.offset = 1 ∧ P.cellsOf f1.type = 1)
    (h2 : P.underlying f2.type = some (.int .u8) ∧ f2.offset = 2 ∧ P.cellsOf f2.type = 1) (h3 : P.underlying f3.type = some (.int .u8) ∧ f3.offset = 3 ∧ P.cellsOf f3.type = 1) (h4 : P.underlying f4.type = some (.int .u8) ∧ f4.offset = 4 ∧ P.cellsOf f4.type = 1)
    (h : DataW.trod enc P w base sp held fuel t cs = some (.agg [.lit (.string a), .lit (.string b), .lit (.int .u8 x), .lit (.int .u8 y), .lit (.int .u8 z)], p)) : cs = [.string (mkB a), .string (mkB b), .int .u8 x, .int .u8 y, .int .u8 z] := by
  cases fuel with
  | zero => simp [DataW.trod] at h
  | succ fuel =>
    simp only [DataW.trod, ht, hc] at h
    split at h
    · rename_i hl
      obtain ⟨xs, hx, hx2⟩ := Option.map_eq_some_iff.1 h
      injection hx2 with hx3 _
      injection hx3 with hx3
      rw [hfs] at hx
      match cs, hl with
      | [c0, c1, c2, c3, c4], _ =>
        obtain ⟨b0, g0, e0⟩ := Lib.mapM_at hx 0 f0 rfl
        obtain ⟨b1, g1, e1⟩ := Lib.mapM_at hx 1 f1 rfl
        obtain ⟨b2, g2, e2⟩ := Lib.mapM_at hx 2 f2 rfl
        obtain ⟨b3, g3, e3⟩ := Lib.mapM_at hx 3 f3 rfl
        obtain ⟨b4, g4, e4⟩ := Lib.mapM_at hx 4 f4 rfl
        have k0 : b0.1 = .lit (.string a) := by have := congrArg (·[0]?) hx3; simpa [g0] using this
        have k1 : b1.1 = .lit (.string b) := by have := congrArg (·[1]?) hx3; simpa [g1] using this
        have k2 : b2.1 = .lit (.int .u8 x) := by have := congrArg (·[2]?) hx3; simpa [g2] using this
        have k3 : b3.1 = .lit (.int .u8 y) := by have := congrArg (·[3]?) hx3; simpa [g3] using this
        have k4 : b4.1 = .lit (.int .u8 z) := by have := congrArg (·[4]?) hx3; simpa [g4] using this
        rw [h0.2.1, h0.2.2] at e0
        rw [h1.2.1, h1.2.2] at e1
        rw [h2.2.1, h2.2.2] at e2
        rw [h3.2.1, h3.2.2] at e3
        rw [h4.2.1, h4.2.2] at e4
        obtain ⟨s0, r0, rfl, _⟩ := DataW.trod_string h0.1 e0
        obtain ⟨s1, r1, rfl, _⟩ := DataW.trod_string h1.1 e1
        obtain ⟨s2, r2, rfl, _⟩ := DataW.trod_int h2.1 e2
        obtain ⟨s3, r3, rfl, _⟩ := DataW.trod_int h3.1 e3
        obtain ⟨s4, r4, rfl, _⟩ := DataW.trod_int h4.1 e4
        simp at r0 r1 r2 r3 r4 k0 k1 k2 k3 k4
        subst r0 r1 r2 r3 r4 k0 k1 k2 k3 k4
        have m0 : mkB s0.data.toList = s0 := rfl
        have m1 : mkB s1.data.toList = s1 := rfl
        rw [m0, m1]
    · cases h
end
def rowD (r : Bytes × Bytes × Nat × Nat × Nat) : DataW Unit := .agg [.lit (.string r.1), .lit (.string r.2.1), .lit (.int .u8 (r.2.2.1 : Int)), .lit (.int .u8 (r.2.2.2.1 : Int)), .lit (.int .u8 (r.2.2.2.2 : Int))]
theorem laid_ops : (Rows.laid_rejoinder_show_operators : DataW Unit) = .agg (orows.map rowD) := by kernel_rfl
theorem Tryz.fieldsOp : ∃ f0 f1 f2 f3 f4, (Tryz.prog.fieldsOf 55).toList = [f0, f1, f2, f3, f4] ∧ (f0.type = 9 ∧ f0.offset = 0) ∧ (f1.type = 9 ∧ f1.offset = 1) ∧ (f2.type = 53 ∧ f2.offset = 2) ∧ (f3.type = 53 ∧ f3.offset = 3) ∧ (f4.type = 53 ∧ f4.offset = 4) := by
  have hfl : (Tryz.prog.fieldsOf 55).toList.map (fun f => (f.type, f.offset)) = [(9, 0), (9, 1), (53, 2), (53, 3), (53, 4)] := by kernel_rfl
  match hl : (Tryz.prog.fieldsOf 55).toList with
  | [f0, f1, f2, f3, f4] =>
    rw [hl] at hfl
    simp at hfl
    obtain ⟨h0, h1, h2, h3, h4⟩ := hfl
    exact ⟨f0, f1, f2, f3, f4, rfl, h0, h1, h2, h3, h4⟩
  | [] => rw [hl] at hfl; simp at hfl
  | [_] => rw [hl] at hfl; simp at hfl
  | [_, _] => rw [hl] at hfl; simp at hfl
  | [_, _, _] => rw [hl] at hfl; simp at hfl
  | [_, _, _, _] => rw [hl] at hfl; simp at hfl
  | _ :: _ :: _ :: _ :: _ :: _ :: _ => rw [hl] at hfl; simp at hfl
theorem opT_of_laid {l : List (String × DataW Unit)} (hin : ("rejoinder/show.operators", (Rows.laid_rejoinder_show_operators : DataW Unit)) ∈ l) {W0 W : World} (h : laidMet Tryz.prog l W0) (hh : W0.heap = W.heap) : OpT W := by
  obtain ⟨g, t, cs, fuel, p, h1, h2, h3, h4⟩ := Lib.laidMet.reads h hin
  rw [laid_ops] at h4
  have hg : Tryz.prog.globalNamed "rejoinder/show.operators" = some 0 := by kernel_rfl
  have ht : (Tryz.prog.globals[0]?).map (·.type) = some 56 := by kernel_rfl
  rw [hg] at h1
  injection h1 with h1
  subst h1
  rw [ht] at h2
  injection h2 with h2
  subst h2
  obtain ⟨k1, k2, k3⟩ := rows_of_array Tryz.underlying56 (m := 5) (by kernel_rfl) (by kernel_rfl) h4
  obtain ⟨f0, f1, f2, f3, f4, hf, ⟨a0, b0⟩, ⟨a1, b1⟩, ⟨a2, b2⟩, ⟨a3, b3⟩, ⟨a4, b4⟩⟩ := Tryz.fieldsOp
  have hu : Tryz.prog.underlying 55 = some (.struct (Tryz.prog.fieldsOf 55)) := by kernel_rfl
  have us : Tryz.prog.underlying 9 = some .string := by kernel_rfl
  have uu : Tryz.prog.underlying 53 = some (.int .u8) := by kernel_rfl
  have cu : Tryz.prog.cellsOf 9 = 1 := by kernel_rfl
  have ci : Tryz.prog.cellsOf 53 = 1 := by kernel_rfl
  have hc5 : Tryz.prog.cellsOf 55 = 5 := by kernel_rfl
  have key : cs.toList = opsC := by
    refine rows_flat _ 5 (fun _ => rfl) orows _ k1 fun i hi => ?_
    obtain ⟨fu, q, hq⟩ := k3 i (by simpa using hi)
    rw [List.getElem_map] at hq
    exact row_of_struct hu hc5 hf ⟨by rw [a0]; exact us, b0, by rw [a0]; exact cu⟩ ⟨by rw [a1]; exact us, b1, by rw [a1]; exact cu⟩ ⟨by rw [a2]; exact uu, b2, by rw [a2]; exact ci⟩ ⟨by rw [a3]; exact uu, b3, by rw [a3]; exact ci⟩ ⟨by rw [a4]; exact uu, b4, by rw [a4]; exact ci⟩ hq
  unfold OpT
  have e : W.var? Tryz.prog "rejoinder/show.operators" = W0.var? Tryz.prog "rejoinder/show.operators" := by simp only [World.var?, hh]
  rw [e, h3, ← key]
end Go.Proofs.YtfipefbaabkdeaaGreatDoor
