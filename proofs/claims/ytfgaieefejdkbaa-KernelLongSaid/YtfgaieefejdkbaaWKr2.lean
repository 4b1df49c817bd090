/- The document's kernel: leaf; trees in memory; sizes. -/
import Derived.Test.YtfgaieefejdkbaaWKr1
namespace Go.Proofs.Ytfgaieefejdkbaa
open Go.RowKit Go.Maps

theorem rowR_new {T : List Tk} {w w1 : World} {cs : Array Value} (hb : Below w.heap.size w w1) (hc : cs.toList = encT T) (hok : ∀ t ∈ T, t.1 < 256 ∧ t.2 < 256) (hl : T.length ≤ 100) {n gi : Nat} (hn : n = T.length) (hg : gi = w1.heap.size) : RowR T w (.returned (.slice (some ⟨gi, 0, none⟩) n n)) (w1.alloc (.cells cs 37)) := by
  subst hn hg
  exact ⟨_, _, rfl, row_tks hc hok hl, below_step hb (below_new _ _)⟩
theorem Try.rleaf_0_0 (w : World) : Calls Try.prog 48 #[.agg #[.int .u8 0, .int .u8 0], .bool false] w (RowR [(0, 0)] w) := by
  have hb0 := below_new w (.cells #[.int .u8 0, .int .u8 0] 37)
  have htu := fun w' => Try.rturned_any 0 1 false w'
  have hto := fun w' => Try.rtok_any 0 w'
  go_enter Try.func48, Try.ntmps48
  go_wp2_with (first | (go_at_call 50; refine (htu _).mono ?_; rintro e w' ⟨rfl, rfl⟩) | (go_at_call 52; refine (hto _).mono ?_; rintro e w2 ⟨rfl, hb2⟩))
  go_ret
  exact rowR_new (T := [(0, 0)]) (below_step hb0 hb2) rfl (by decide) (by decide) rfl rfl
theorem Try.rleaf_0_1 (w : World) : Calls Try.prog 48 #[.agg #[.int .u8 0, .int .u8 0], .bool true] w (RowR [(1, 0)] w) := by
  have hb0 := below_new w (.cells #[.int .u8 0, .int .u8 0] 37)
  have htu := fun w' => Try.rturned_any 0 1 true w'
  have hto := fun w' => Try.rtok_any 1 w'
  go_enter Try.func48, Try.ntmps48
  go_wp2_with (first | (go_at_call 50; refine (htu _).mono ?_; rintro e w' ⟨rfl, rfl⟩) | (go_at_call 52; refine (hto _).mono ?_; rintro e w2 ⟨rfl, hb2⟩))
  go_ret
  exact rowR_new (T := [(1, 0)]) (below_step hb0 hb2) rfl (by decide) (by decide) rfl rfl
theorem Try.rleaf_1_0 (w : World) : Calls Try.prog 48 #[.agg #[.int .u8 1, .int .u8 0], .bool false] w (RowR [(1, 0)] w) := by
  have hb0 := below_new w (.cells #[.int .u8 1, .int .u8 0] 37)
  have htu := fun w' => Try.rturned_any 1 0 false w'
  have hto := fun w' => Try.rtok_any 1 w'
  go_enter Try.func48, Try.ntmps48
  go_wp2_with (first | (go_at_call 50; refine (htu _).mono ?_; rintro e w' ⟨rfl, rfl⟩) | (go_at_call 52; refine (hto _).mono ?_; rintro e w2 ⟨rfl, hb2⟩))
  go_ret
  exact rowR_new (T := [(1, 0)]) (below_step hb0 hb2) rfl (by decide) (by decide) rfl rfl
theorem Try.rleaf_1_1 (w : World) : Calls Try.prog 48 #[.agg #[.int .u8 1, .int .u8 0], .bool true] w (RowR [(0, 0)] w) := by
  have hb0 := below_new w (.cells #[.int .u8 1, .int .u8 0] 37)
  have htu := fun w' => Try.rturned_any 1 0 true w'
  have hto := fun w' => Try.rtok_any 0 w'
  go_enter Try.func48, Try.ntmps48
  go_wp2_with (first | (go_at_call 50; refine (htu _).mono ?_; rintro e w' ⟨rfl, rfl⟩) | (go_at_call 52; refine (hto _).mono ?_; rintro e w2 ⟨rfl, hb2⟩))
  go_ret
  exact rowR_new (T := [(0, 0)]) (below_step hb0 hb2) rfl (by decide) (by decide) rfl rfl
theorem Try.rleaf_4_0 (w : World) : Calls Try.prog 48 #[.agg #[.int .u8 4, .int .u8 0], .bool false] w (RowR [(4, 0)] w) := by
  have hb0 := below_new w (.cells #[.int .u8 4, .int .u8 0] 37)
  have htu := fun w' => Try.rturned_any 4 5 false w'
  have hto := fun w' => Try.rtok_any 4 w'
  go_enter Try.func48, Try.ntmps48
  go_wp2_with (first | (go_at_call 50; refine (htu _).mono ?_; rintro e w' ⟨rfl, rfl⟩) | (go_at_call 52; refine (hto _).mono ?_; rintro e w2 ⟨rfl, hb2⟩))
  go_ret
  exact rowR_new (T := [(4, 0)]) (below_step hb0 hb2) rfl (by decide) (by decide) rfl rfl
theorem Try.rleaf_4_1 (w : World) : Calls Try.prog 48 #[.agg #[.int .u8 4, .int .u8 0], .bool true] w (RowR [(5, 0)] w) := by
  have hb0 := below_new w (.cells #[.int .u8 4, .int .u8 0] 37)
  have htu := fun w' => Try.rturned_any 4 5 true w'
  have hto := fun w' => Try.rtok_any 5 w'
  go_enter Try.func48, Try.ntmps48
  go_wp2_with (first | (go_at_call 50; refine (htu _).mono ?_; rintro e w' ⟨rfl, rfl⟩) | (go_at_call 52; refine (hto _).mono ?_; rintro e w2 ⟨rfl, hb2⟩))
  go_ret
  exact rowR_new (T := [(5, 0)]) (below_step hb0 hb2) rfl (by decide) (by decide) rfl rfl
theorem Try.rleaf_5_0 (w : World) : Calls Try.prog 48 #[.agg #[.int .u8 5, .int .u8 0], .bool false] w (RowR [(5, 0)] w) := by
  have hb0 := below_new w (.cells #[.int .u8 5, .int .u8 0] 37)
  have htu := fun w' => Try.rturned_any 5 4 false w'
  have hto := fun w' => Try.rtok_any 5 w'
  go_enter Try.func48, Try.ntmps48
  go_wp2_with (first | (go_at_call 50; refine (htu _).mono ?_; rintro e w' ⟨rfl, rfl⟩) | (go_at_call 52; refine (hto _).mono ?_; rintro e w2 ⟨rfl, hb2⟩))
  go_ret
  exact rowR_new (T := [(5, 0)]) (below_step hb0 hb2) rfl (by decide) (by decide) rfl rfl
theorem Try.rleaf_5_1 (w : World) : Calls Try.prog 48 #[.agg #[.int .u8 5, .int .u8 0], .bool true] w (RowR [(4, 0)] w) := by
  have hb0 := below_new w (.cells #[.int .u8 5, .int .u8 0] 37)
  have htu := fun w' => Try.rturned_any 5 4 true w'
  have hto := fun w' => Try.rtok_any 4 w'
  go_enter Try.func48, Try.ntmps48
  go_wp2_with (first | (go_at_call 50; refine (htu _).mono ?_; rintro e w' ⟨rfl, rfl⟩) | (go_at_call 52; refine (hto _).mono ?_; rintro e w2 ⟨rfl, hb2⟩))
  go_ret
  exact rowR_new (T := [(4, 0)]) (below_step hb0 hb2) rfl (by decide) (by decide) rfl rfl
theorem Try.rleaf_3_0 (w : World) : Calls Try.prog 48 #[.agg #[.int .u8 3, .int .u8 0], .bool false] w (RowR [(4, 0), (1, 0), (8, 0), (11, 0)] w) := by
  have hb0 := below_new w (.cells #[.int .u8 3, .int .u8 0] 37)
  have hto := Try.rtok_any
  go_enter Try.func48, Try.ntmps48
  go_wp2_with fail
  refine (hto 4 _).mono ?_
  rintro e w2 ⟨rfl, hb2⟩
  have hb10 := below_step hb0 hb2
  go_wp2_with fail
  refine (hto 1 _).mono ?_
  rintro e w3 ⟨rfl, hb3⟩
  have hb11 := below_step hb10 hb3
  go_wp2_with fail
  refine (hto 8 _).mono ?_
  rintro e w4 ⟨rfl, hb4⟩
  have hb12 := below_step hb11 hb4
  go_wp2_with fail
  refine (hto 11 _).mono ?_
  rintro e w5 ⟨rfl, hb5⟩
  have hb13 := below_step hb12 hb5
  go_wp2
  go_ret
  exact rowR_new (T := [(4, 0), (1, 0), (8, 0), (11, 0)]) hb13 rfl (by decide) (by decide) rfl rfl
theorem Try.rleaf_3_1 (w : World) : Calls Try.prog 48 #[.agg #[.int .u8 3, .int .u8 0], .bool true] w (RowR [(5, 0), (0, 0), (7, 0), (12, 0)] w) := by
  have hb0 := below_new w (.cells #[.int .u8 3, .int .u8 0] 37)
  have hto := Try.rtok_any
  go_enter Try.func48, Try.ntmps48
  go_wp2_with fail
  refine (hto 5 _).mono ?_
  rintro e w2 ⟨rfl, hb2⟩
  have hb10 := below_step hb0 hb2
  go_wp2_with fail
  refine (hto 0 _).mono ?_
  rintro e w3 ⟨rfl, hb3⟩
  have hb11 := below_step hb10 hb3
  go_wp2_with fail
  refine (hto 7 _).mono ?_
  rintro e w4 ⟨rfl, hb4⟩
  have hb12 := below_step hb11 hb4
  go_wp2_with fail
  refine (hto 12 _).mono ?_
  rintro e w5 ⟨rfl, hb5⟩
  have hb13 := below_step hb12 hb5
  go_wp2
  go_ret
  exact rowR_new (T := [(5, 0), (0, 0), (7, 0), (12, 0)]) hb13 rfl (by decide) (by decide) rfl rfl
theorem Try.rleaf_2_0 (p : Nat) (w : World) (hp : p < 256) : Calls Try.prog 48 #[.agg #[.int .u8 2, .int .u8 (p : Int)], .bool false] w (RowR [(2, p)] w) := by
  have hb0 := below_new w (.cells #[.int .u8 2, .int .u8 (p : Int)] 37)
  go_enter Try.func48, Try.ntmps48
  go_wp2
  go_ret
  exact rowR_new (T := [(2, p)]) hb0 rfl (by intro t ht; simp at ht; subst ht; exact ⟨by show 2 < 256; decide, hp⟩) (by simp) rfl (by simp)
theorem Try.rleaf_2_1 (p : Nat) (w : World) (hp : p < 256) : Calls Try.prog 48 #[.agg #[.int .u8 2, .int .u8 (p : Int)], .bool true] w (RowR [(2, p), (6, 0)] w) := by
  have hb0 := below_new w (.cells #[.int .u8 2, .int .u8 (p : Int)] 37)
  have hto := fun w' => Try.rtok_any 6 w'
  have hr0 := (MapKept.heap_alloc w (.cells #[.int .u8 2, .int .u8 (p : Int)] 37)).1
  have hk0 : (w.alloc (.cells #[.int .u8 2, .int .u8 (p : Int)] 37)).drew.cell? ⟨w.heap.size, 0, none⟩ = some (.int .u8 2) ∧ (w.alloc (.cells #[.int .u8 2, .int .u8 (p : Int)] 37)).drew.cell? ⟨w.heap.size, 1, none⟩ = some (.int .u8 (p : Int)) := ⟨cell_row hr0 0, cell_row hr0 1⟩
  have hbd : Below (w.alloc (.cells #[.int .u8 2, .int .u8 (p : Int)] 37)).heap.size (w.alloc (.cells #[.int .u8 2, .int .u8 (p : Int)] 37)) (w.alloc (.cells #[.int .u8 2, .int .u8 (p : Int)] 37)).drew := (Below.refl _ _).drew
  have hb1 := below_step hb0 hbd
  clear hbd hr0 hb0
  go_enter Try.func48, Try.ntmps48
  go_wp2
  generalize (w.alloc (.cells #[.int .u8 2, .int .u8 (p : Int)] 37)) = w1 at *
  go_region_held3 (fun w' => w'.cell? ⟨w.heap.size, 0, none⟩ = some (.int .u8 2) ∧ w'.cell? ⟨w.heap.size, 1, none⟩ = some (.int .u8 (p : Int))) (first | exact hk0 | assumption | exact ⟨kept_cell k2.1 (below_new _ _), kept_cell k2.2 (below_new _ _)⟩ | fail) (first | (go_at_call 52; refine (hto _).mono ?_; rintro e w2 ⟨rfl, hb2⟩; have k2 : w2.cell? ⟨w.heap.size, 0, none⟩ = some (.int .u8 2) ∧ w2.cell? ⟨w.heap.size, 1, none⟩ = some (.int .u8 (p : Int)) := ⟨kept_cell hk0.1 hb2, kept_cell hk0.2 hb2⟩) | fail)
  all_goals
    go_wp2
    go_ret
    exact rowR_new (T := [(2, p), (6, 0)]) (below_step hb1 hb2) rfl (by intro t ht; simp at ht; rcases ht with rfl | rfl; exact ⟨by show 2 < 256; decide, hp⟩; exact ⟨by show 6 < 256; decide, by show 0 < 256; decide⟩) (by simp) rfl rfl
theorem Try.rleaf_any (op p : Nat) (b : Bool) (w : World) (h : (Tr.leaf (op, p)).WF) : Calls Try.prog 48 #[.agg #[.int .u8 (op : Int), .int .u8 (p : Int)], .bool b] w (RowR (kB (.leaf (op, p)) b) w) := by
  rcases leaf_cases h with ⟨rfl, hp⟩ | ⟨rfl, rfl | rfl | rfl | rfl | rfl⟩ <;> cases b
  · exact Try.rleaf_2_0 p w (by omega)
  · exact Try.rleaf_2_1 p w (by omega)
  · exact Try.rleaf_0_0 w
  · exact Try.rleaf_0_1 w
  · exact Try.rleaf_1_0 w
  · exact Try.rleaf_1_1 w
  · exact Try.rleaf_3_0 w
  · exact Try.rleaf_3_1 w
  · exact Try.rleaf_4_0 w
  · exact Try.rleaf_4_1 w
  · exact Try.rleaf_5_0 w
  · exact Try.rleaf_5_1 w
end Go.Proofs.Ytfgaieefejdkbaa
