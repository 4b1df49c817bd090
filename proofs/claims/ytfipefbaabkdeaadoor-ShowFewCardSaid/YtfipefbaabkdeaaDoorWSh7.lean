/- Stage 6's laws: awake. -/
import Derived.Test.YtfipefbaabkdeaaDoorWSh6
namespace Go.Proofs.YtfipefbaabkdeaaDoor
open Go.RowKit Go.Maps

theorem ex6 : tellL [[112], [113]] [(2, 0), (2, 1), (11, 0), (2, 0), (15, 0)] 1 = ([40, 112, 32, 38, 32, 113, 41, 32, 85, 32, 112], 0) := by kernel_rfl
theorem ex6t : tidyL [[112], [113]] [40, 40, 112, 41, 41, 32, 85, 32, 40, 113, 41] = ([112, 32, 85, 32, 113], 0, 0) := by kernel_rfl
set_option maxRecDepth 100000 in
set_option maxHeartbeats 1000000 in
theorem Tryd.awake6_any (w : World) (hT : Tab w) (hO : OpT w) : Calls Tryd.prog 6 #[] w fun e w' => e = .returned (.bool true) ∧ Below w.heap.size w w' := by
  have h1 := fun g w' (h : StAt w' g [[112], [113]]) a' l' c' (h' : TkSl w' a' l' c' [(2, 0), (2, 1), (11, 0), (2, 0), (15, 0)]) (ho : OpT w') => Tryd.show_formula _ _ _ _ _ a' l' c' _ w' (stAt_str h (by decide) (by decide)) h' ho
  have h2 := fun g w' (h : StAt w' g [[112], [113]]) (ht : Tab w') (ho : OpT w') => Tryd.show_tidy _ _ _ _ _ { data := #[40, 40, 112, 41, 41, 32, 85, 32, 40, 113, 41] } w' (stAt_str h (by decide) (by decide)) (by decide) ht ho
  have el : (({ data := #[40, 40, 112, 41, 41, 32, 85, 32, 40, 113, 41] } : ByteArray)).toList = [40, 40, 112, 41, 41, 32, 85, 32, 40, 113, 41] := by rw [ByteArray.toList_eq]
  unfold TellP at h1
  rw [el] at h2
  rw [nms_mkB] at h1 h2
  rw [ex6] at h1
  rw [ex6t] at h2
  have m1 : mkB [40, 112, 32, 38, 32, 113, 41, 32, 85, 32, 112] = { data := #[40, 112, 32, 38, 32, 113, 41, 32, 85, 32, 112] } := rfl
  have m2 : mkB [112, 32, 85, 32, 113] = { data := #[112, 32, 85, 32, 113] } := rfl
  dsimp only at h1 h2
  rw [m1] at h1
  rw [m2] at h2
  clear m1 m2
  have HT : Hid (Tab w) := hT
  have HO : Hid (OpT w) := hO
  have q1 := Tryd.eqlFlt 0 0 0 0
  rw [decide_eq_true (rfl : ((0 : Int), (0 : Int)) = (0, 0))] at q1
  clear el hT hO
  go_enter Tryd.func6, Tryd.ntmps6
  go_wp2_with fail
  have hsz2 : ((w.alloc (.cells #[.int .u8 2, .int .u8 0] 39)).alloc (.cells #[.int .u8 2, .int .u8 1] 39)).heap.size = w.heap.size + 1 + 1 := by simp
  have hb2 : Below w.heap.size w ((w.alloc (.cells #[.int .u8 2, .int .u8 0] 39)).alloc (.cells #[.int .u8 2, .int .u8 1] 39)) := (below_new _ _).alloc (by simp) _
  generalize (w.alloc (.cells #[.int .u8 2, .int .u8 0] 39)).alloc (.cells #[.int .u8 2, .int .u8 1] 39) = w2 at *
  rw [← hsz2]
  have hS3 := StAt.new w2 [[112], [113]]
  have hb3 : Below w.heap.size w (w2.alloc (.cells #[.string { data := #[112] }, .string { data := #[113] }] 9)) := below_step hb2 (below_new _ _)
  have hsz3 : (w2.alloc (.cells #[.string { data := #[112] }, .string { data := #[113] }] 9)).heap.size = w2.heap.size + 1 := by simp
  have hS3' : StAt (w2.alloc (.cells #[.string { data := #[112] }, .string { data := #[113] }] 9)) w2.heap.size [[112], [113]] := hS3
  generalize w2.alloc (.cells #[.string { data := #[112] }, .string { data := #[113] }] 9) = w3 at *
  rw [← hsz3]
  have hb4 := below_new w3 (.cells #[.int .u8 2, .int .u8 0, .int .u8 2, .int .u8 1, .int .u8 11, .int .u8 0, .int .u8 2, .int .u8 0, .int .u8 15, .int .u8 0] 39)
  have hT4 : TkSl (w3.alloc (.cells #[.int .u8 2, .int .u8 0, .int .u8 2, .int .u8 1, .int .u8 11, .int .u8 0, .int .u8 2, .int .u8 0, .int .u8 15, .int .u8 0] 39)) (some ⟨w3.heap.size, 0, none⟩) 5 5 [(2, 0), (2, 1), (11, 0), (2, 0), (15, 0)] := row_tk (ts := [(2, 0), (2, 1), (11, 0), (2, 0), (15, 0)]) (MapKept.heap_alloc w3 _).1 (by decide) (by decide)
  have hB4 := below_step hb3 hb4
  refine (h1 w2.heap.size _ (hS3'.up hb4) _ _ _ hT4 (HO.out.up hB4)).mono ?_
  rintro e w5 ⟨rfl, hb5⟩
  have hB5 := below_step hB4 hb5
  have h3 := h2 _ _ (StAt.new w5 [[112], [113]]) ((HT.out.up hB5).up (below_new _ _)) ((HO.out.up hB5).up (below_new _ _))
  have HB5 : Hid (Below w.heap.size w (w5.alloc (.cells #[.string { data := #[112] }, .string { data := #[113] }] 9))) := below_step hB5 (below_new _ _)
  clear h1 h2 hsz2 hb2 hS3 hb3 hsz3 hS3' hb4 hT4 hB4 hb5 hB5
  go_wp2_with fail
  refine h3.mono ?_
  rintro e w6 ⟨rfl, hb6⟩
  have HB6 : Hid (Below w.heap.size w (w6.alloc (.cells #[.int .i64 0, .int .i64 0] 29))) := below_step (below_step HB5.out hb6) (below_new _ _)
  clear h3 hb6
  go_wp2
  go_ret
  exact ⟨rfl, HB6.out⟩
end Go.Proofs.YtfipefbaabkdeaaDoor
