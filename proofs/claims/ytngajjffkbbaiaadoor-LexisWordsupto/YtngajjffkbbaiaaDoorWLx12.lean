/- The law's awake: the chapter's examples. -/
import Derived.Test.YtngajjffkbbaiaaDoorWLx11
namespace Go.Proofs.YtngajjffkbbaiaaDoor
open Go.RowKit Go.Maps

def exL : List Wd := [⟨1, mkB [88], 0⟩, ⟨0, mkB [40], 1⟩, ⟨2, mkB [112, 49], 2⟩, ⟨0, mkB [38], 4⟩, ⟨0, mkB [33], 5⟩, ⟨2, mkB [113], 6⟩, ⟨0, mkB [41], 7⟩]
theorem exL_ok : ∀ t ∈ exL, t.Ok := by
  intro t ht
  simp only [exL, List.mem_cons, List.not_mem_nil, or_false] at ht
  rcases ht with h | h | h | h | h | h | h <;> subst h <;> exact ⟨by decide, by rw [mkB_size]; unfold maxLen; simp, by decide⟩
theorem Tryd.words_at (s : ByteArray) (l : Bytes) (hs : s.toList = l) (W : List Wd × Int × Int) (hW : wordsL l = W) (w : World) (hT : Tab w) :
    Calls Tryd.prog 6 #[.string s] w fun e w' => ∃ v, e = .returned (.tuple #[v, .agg #[.int .i64 W.2.1, .int .i64 W.2.2]]) ∧ w'.ownsRow w.heap.size 33 3 v W.1.length (encW W.1) ∧ Below w.heap.size w w' := by
  have := Tryd.words_any s w hT
  rw [hs, hW] at this; exact this
set_option maxHeartbeats 1000000 in
theorem Tryd.awake_any (w : World) (hT : Tab w) : Calls Tryd.prog 15 #[] w fun e w' => e = .returned (.bool true) ∧ Below w.heap.size w w' := by
  have h1 := Tryd.words_at { data := #[88, 40, 112, 49, 38, 33, 113, 41] } _ (by rw [ByteArray.toList_eq]) _ ex1 w hT
  go_enter Tryd.func15, Tryd.ntmps15
  go_wp2_with fail
  refine h1.mono ?_
  rintro e w1 ⟨v1, rfl, hown1, hb1⟩
  obtain ⟨a1, c1, rfl, hS1, _⟩ := own_wd (ts := exL) hown1 exL_ok
  have HS1 : Hid (WdSl w1 a1 7 c1 exL) := hS1
  have HB1 : Hid (Below w.heap.size w w1) := hb1
  have hT1 := hT.up hb1
  have hF1 := Flt.new w1 0 0
  have hT2 : Tab (w1.alloc (.cells #[.int .i64 0, .int .i64 0] 25)) := hT1.up (below_new _ _)
  have h2 := Tryd.words_at { data := #[112, 60, 45, 113] } _ (by rw [ByteArray.toList_eq]) _ ex2 _ hT2
  have HF1 : Hid (Flt (w1.alloc (.cells #[.int .i64 0, .int .i64 0] 25)) w1.heap.size 0 0) := hF1
  clear hown1 hS1 hb1 h1 hT hT1 hT2 hF1
  go_wp2_with fail
  refine h2.mono ?_
  rintro e w2 ⟨v2, rfl, hown2, hb2⟩
  have HB2 : Hid (Below w.heap.size w w2) := HB1.out.trans ((below_step (below_new _ _) hb2).mono HB1.out.size)
  have HB12 : Hid (Below w1.heap.size w1 w2) := below_step (below_new _ _) hb2
  have HB3 : Hid (Below w.heap.size w (w2.alloc (.cells #[.int .i64 140, .int .i64 2] 25))) := HB2.out.alloc HB2.out.size _
  have hF := (HF1.out.up hb2).up (below_new w2 (.cells #[.int .i64 140, .int .i64 2] 25))
  have hS2 := (HS1.out.up HB12.out).up (below_new w2 (.cells #[.int .i64 140, .int .i64 2] 25))
  have hbw := hS2.bd
  unfold maxLen at hbw
  have hcw := hS2.hcap
  obtain ⟨g, o, sh, hidx, x0, x1, x2, _, _⟩ := hS2.at Tryd.underlying22 Tryd.sizeWd 0 (by omega)
  obtain ⟨g', o', sh', hidx', y0, y1, y2, _, _⟩ := hS2.at Tryd.underlying22 Tryd.sizeWd 2 (by omega)
  have i0 : ∀ w, (Instr.indexAt 22 (.slice a1 7 c1) (.int .i64 0)).run Tryd.prog w = .ok (.pointer (some ⟨g, o, sh⟩)) w := fun w => hidx 7 w (by omega)
  have i2 : ∀ w, (Instr.indexAt 22 (.slice a1 7 c1) (.int .i64 2)).run Tryd.prog w = .ok (.pointer (some ⟨g', o', sh'⟩)) w := fun w => hidx' 7 w (by omega)
  have p0 : (w2.alloc (.cells #[.int .i64 140, .int .i64 2] 25)).cell? ⟨g, o, sh⟩ = some (.int .u8 1) := x0
  have p1 : (w2.alloc (.cells #[.int .i64 140, .int .i64 2] 25)).cell? ⟨g, o + 1, none⟩ = some (.string (mkB [88])) := x1
  have p2 : (w2.alloc (.cells #[.int .i64 140, .int .i64 2] 25)).cell? ⟨g, o + 2, none⟩ = some (.int .i64 0) := x2
  have r0 : (w2.alloc (.cells #[.int .i64 140, .int .i64 2] 25)).cell? ⟨g', o', sh'⟩ = some (.int .u8 2) := y0
  have r1 : (w2.alloc (.cells #[.int .i64 140, .int .i64 2] 25)).cell? ⟨g', o' + 1, none⟩ = some (.string (mkB [112, 49])) := y1
  have r2 : (w2.alloc (.cells #[.int .i64 140, .int .i64 2] 25)).cell? ⟨g', o' + 2, none⟩ = some (.int .i64 2) := y2
  clear hidx hidx' x0 x1 x2 y0 y1 y2
  have f0 := hF.c0
  have f1 := hF.c1
  have q1 := Tryd.eqlFlt 0 0 0 0
  have q2 := Tryd.eqlFlt 140 2 140 2
  have q3 := Tryd.eqlWd 1 (mkB [88]) 0 1 { data := #[88] } 0
  have q4 := Tryd.eqlWd 2 (mkB [112, 49]) 2 2 { data := #[112, 49] } 2
  have z1 : decide (((0 : Int), (0 : Int)) = (0, 0)) = true := by decide
  have z2 : decide (((140 : Int), (2 : Int)) = (140, 2)) = true := by decide
  have z3 : eqW 1 (mkB [88]) 0 1 { data := #[88] } 0 = true := by simp [eqW, mkB, ByteArray.toList_eq]
  have z4 : eqW 2 (mkB [112, 49]) 2 2 { data := #[112, 49] } 2 = true := by simp [eqW, mkB, ByteArray.toList_eq]
  rw [z1] at q1
  rw [z2] at q2
  rw [z3] at q3
  rw [z4] at q4
  have q5 : ∀ w, (binOp .eql 33 (.agg #[.int .u8 1, .string (mkB [88]), .int .i64 0]) (.agg #[.int .u8 1, .string { data := #[88] }, .int .i64 0])).run Tryd.prog w = .ok (.bool true) w := q3
  have q6 : ∀ w, (binOp .eql 33 (.agg #[.int .u8 2, .string (mkB [112, 49]), .int .i64 2]) (.agg #[.int .u8 2, .string { data := #[112, 49] }, .int .i64 2])).run Tryd.prog w = .ok (.bool true) w := q4
  clear q3 q4
  clear z1 z2 z3 z4 hS2 hF hown2 hb2 h2
  go_wp2
  go_ret
  exact ⟨rfl, HB3.out⟩
end Go.Proofs.YtngajjffkbbaiaaDoor
