/- The law CubeKnown: the chapter's examples. -/
import Derived.Test.YtnaalbcbmhpfjaaWLCover
namespace Go.Proofs.Ytnaalbcbmhpfjaa
open Go.RowKit Go.Maps

theorem kn_parse1 : parseV 3 [49, 45, 48] = ((5, 1), 0) := by decide
theorem kn_parse2 : parseV 3 [49, 45] = ((0, 0), 120) := by decide
theorem kn_parse3 : parseV 3 [49, 45, 50] = ((0, 0), 120) := by decide
theorem kn_let : lettI 3 (5, 1) = [1, 3] := by decide
theorem kn_len : lenC 3 (5, 1) = 2 := by decide
theorem kn_err : errC 3 (5, 1) = 0 := by decide
theorem kn_cov : coverV 3 [1, 3, 2, 6] = [(3, 2), (7, 1), (7, 3)] := by decide +kernel
theorem kn_minus : minusC (1, 1) (6, 4) = [(3, 3), (7, 1)] := by decide
theorem kn_minus0 : minusC (1, 1) (1, 1) = [] := by decide
theorem kn_print : errC 3 (1, 2) = 120 := by decide

theorem Try.knP1 (w : World) : Calls Try.prog 31 #[.int .i64 3, .string ⟨#[49, 45, 48]⟩] w fun e w' => e = .returned (.tuple #[.agg #[.int .u8 5, .int .u8 1], .int .i64 0]) ∧ Below w.heap.size w w' := by
  have := Try.parse_any 3 ⟨#[49, 45, 48]⟩ w (by decide)
  unfold ParseCR at this
  rw [show (ByteArray.mk #[49, 45, 48]).toList = [49, 45, 48] from by rw [ByteArray.toList_eq], kn_parse1] at this
  exact this
theorem Try.knP2 (w : World) : Calls Try.prog 31 #[.int .i64 3, .string ⟨#[49, 45]⟩] w fun e w' => e = .returned (.tuple #[.agg #[.int .u8 0, .int .u8 0], .int .i64 120]) ∧ Below w.heap.size w w' := by
  have := Try.parse_any 3 ⟨#[49, 45]⟩ w (by decide)
  unfold ParseCR at this
  rw [show (ByteArray.mk #[49, 45]).toList = [49, 45] from by rw [ByteArray.toList_eq], kn_parse2] at this
  exact this
theorem Try.knP3 (w : World) : Calls Try.prog 31 #[.int .i64 3, .string ⟨#[49, 45, 50]⟩] w fun e w' => e = .returned (.tuple #[.agg #[.int .u8 0, .int .u8 0], .int .i64 120]) ∧ Below w.heap.size w w' := by
  have := Try.parse_any 3 ⟨#[49, 45, 50]⟩ w (by decide)
  unfold ParseCR at this
  rw [show (ByteArray.mk #[49, 45, 50]).toList = [49, 45, 50] from by rw [ByteArray.toList_eq], kn_parse3] at this
  exact this
theorem Try.knL (w : World) : Calls Try.prog 22 #[.int .i64 3, .agg #[.int .u8 5, .int .u8 1]] w fun e w' => (∃ g, e = .returned (.tuple #[.slice (some ⟨g, 0, none⟩) 2 2, .int .i64 0]) ∧ RowAt w' 22 g [1, 3]) ∧ Below w.heap.size w w' :=
  (Try.letters_any 3 5 1 w (by decide) (by decide)).mono fun e w' ⟨h, hb⟩ => by
    rcases h with ⟨_, g, h1, h2, _⟩ | ⟨h1, _⟩
    · exact ⟨⟨g, by rw [h1, show lenC (3 : Int).toNat (5, 1) = 2 from kn_len], by rw [show lettI (3 : Int).toNat (5, 1) = [1, 3] from kn_let] at h2; exact h2⟩, hb⟩
    · exact absurd kn_err h1
theorem Try.knN (w : World) : Calls Try.prog 21 #[.int .i64 3, .agg #[.int .u8 5, .int .u8 1]] w fun e w' => e = .returned (.tuple #[.int .i64 2, .int .i64 0]) ∧ Below w.heap.size w w' :=
  (Try.count_any 3 5 1 w (by decide) (by decide)).mono fun e w' ⟨h, hb⟩ => ⟨by rw [h, show countV 3 (5, 1) = 2 by decide, kn_err], hb⟩
theorem Try.knM1 (w : World) : Calls Try.prog 15 #[.agg #[.int .u8 1, .int .u8 1], .agg #[.int .u8 2, .int .u8 0]] w fun e w' => e = .returned (.tuple #[.agg #[.int .u8 3, .int .u8 1], .bool true]) ∧ Below w.heap.size w w' :=
  (Try.meet_any 1 1 2 0 w (by decide) (by decide) (by decide) (by decide)).mono fun e w' ⟨h, hb⟩ => ⟨by unfold MeetR at h; rw [h, show meetV (1, 1) (2, 0) = (3, 1) by decide, show compC (1, 1) (2, 0) = true by decide]; rfl, hb⟩
theorem Try.knM2 (w : World) : Calls Try.prog 15 #[.agg #[.int .u8 1, .int .u8 1], .agg #[.int .u8 1, .int .u8 0]] w fun e w' => e = .returned (.tuple #[.agg #[.int .u8 0, .int .u8 0], .bool false]) ∧ Below w.heap.size w w' :=
  (Try.meet_any 1 1 1 0 w (by decide) (by decide) (by decide) (by decide)).mono fun e w' ⟨h, hb⟩ => ⟨by unfold MeetR at h; rw [h, show meetV (1, 1) (1, 0) = (0, 0) by decide, show compC (1, 1) (1, 0) = false by decide]; rfl, hb⟩
theorem Try.knI (w : World) : Calls Try.prog 17 #[.agg #[.int .u8 1, .int .u8 1], .agg #[.int .u8 6, .int .u8 4]] w fun e w' => (∃ a g cap, e = .returned (.slice a 2 cap) ∧ CuSl Try.prog 32 w' a g 2 cap [(3, 3), (7, 1)]) ∧ Below w.heap.size w w' :=
  (Try.minus_any 1 1 6 4 w (by decide) (by decide) (by decide) (by decide)).mono fun e w' ⟨h, hb⟩ => by
    obtain ⟨v, rfl, hown⟩ := h
    rw [kn_minus] at hown
    obtain ⟨a, g, cap, rfl, hS, _⟩ := own_cuSl (P := Try.prog) (T := 32) hown Try.underlying32 Try.sizeCube (fun c hc => by simp at hc; rcases hc with rfl | rfl <;> exact ⟨by decide, by decide⟩)
    exact ⟨⟨a, g, cap, rfl, hS⟩, hb⟩
theorem Try.knI0 (w : World) : Calls Try.prog 17 #[.agg #[.int .u8 1, .int .u8 1], .agg #[.int .u8 1, .int .u8 1]] w fun e w' => (∃ a cap, e = .returned (.slice a 0 cap)) ∧ Below w.heap.size w w' :=
  (Try.minus_any 1 1 1 1 w (by decide) (by decide) (by decide) (by decide)).mono fun e w' ⟨h, hb⟩ => by
    obtain ⟨v, rfl, hown⟩ := h
    rw [kn_minus0] at hown
    obtain ⟨a, g, cap, rfl, hS, _⟩ := own_cuSl (P := Try.prog) (T := 32) hown Try.underlying32 Try.sizeCube (fun c hc => by simp at hc)
    exact ⟨⟨a, cap, rfl⟩, hb⟩
theorem Try.knC {w : World} {g : Nat} (hR : RowAt w 22 g [1, 3, 2, 6]) : Calls Try.prog 26 #[.int .i64 3, .slice (some ⟨g, 0, none⟩) 4 4] w fun e w' => (∃ a g cap, e = .returned (.tuple #[.slice a 3 cap, .int .i64 0]) ∧ CuSl Try.prog 32 w' a g 3 cap [(3, 2), (7, 1), (7, 3)]) ∧ Below w.heap.size w w' := by
  have hS := hR.intSl (P := Try.prog) (T := 36) (n := 4) Try.underlying36 Try.sizeLet (by decide) (by decide)
  refine (Try.Cover_any 3 (some ⟨g, 0, none⟩) 4 4 [1, 3, 2, 6] w hS (by decide)).mono fun e w' ⟨h, hb⟩ => ?_
  rcases h with ⟨_, _, v, rfl, hown⟩ | ⟨h, _⟩
  · rw [show coverV (3 : Int).toNat [1, 3, 2, 6] = [(3, 2), (7, 1), (7, 3)] from kn_cov] at hown
    obtain ⟨a, g, cap, rfl, hS, _⟩ := own_cuSl (P := Try.prog) (T := 32) hown Try.underlying32 Try.sizeCube (fun c hc => by simp at hc; rcases hc with rfl | rfl | rfl <;> exact ⟨by decide, by decide⟩)
    exact ⟨⟨a, g, cap, rfl, hS⟩, hb⟩
  · exact absurd ⟨by decide, by decide, by decide⟩ h
theorem Try.knT (w : World) : Calls Try.prog 24 #[.int .i64 3, .agg #[.int .u8 1, .int .u8 2]] w fun e w' => (∃ s, e = .returned (.tuple #[.string s, .int .i64 120])) ∧ Below w.heap.size w w' :=
  (Try.print_any 3 1 2 w (by decide) (by decide)).mono fun e w' ⟨h, hb⟩ => ⟨⟨printV 3 (1, 2), by unfold PrintCR at h; rw [kn_print] at h; exact h⟩, hb⟩

theorem cell_row {W : World} {g : Nat} {arr : Array Value} {e : TypeId} (h : W.heap[g]? = some (.cells arr e (0, 0))) (j : Nat) : W.cell? ⟨g, j, none⟩ = arr[j]? := by simp [World.cell?, h]
theorem lit_cuSl {P : Program} {T e : TypeId} (hu : P.underlying T = some (.slice e)) (hs : (P.info? e).map (·.size) = some 2) {w : World} {g : Nat} (hg : g = w.heap.size) (cs : List Cu) (hok : ∀ c ∈ cs, c.ok) (hl : cs.length ≤ 1000) : CuSl P T (w.alloc (.cells (encC cs).toArray e)) (some ⟨g, 0, none⟩) g cs.length cs.length cs := by
  subst hg
  have hb := (MapKept.heap_alloc w (.cells (encC cs).toArray e)).1
  refine ⟨rfl, Nat.le_refl _, by unfold maxLen; omega, fun m k w hk hm => idx_of2 hu hs k w hk, fun k hk => ?_, fun k hk => ?_, fun _ => by simp, hok⟩
  · rw [cell_row hb, List.getElem?_toArray]; exact (encC_get cs k hk).1
  · rw [cell_row hb, List.getElem?_toArray]; exact (encC_get cs k hk).2
theorem below_of_drew {w w' : World} (h : ∃ n, w' = w.drewN n) : Below w.heap.size w w' := by obtain ⟨n, rfl⟩ := h; exact below_drewN (Below.refl _ _) n

set_option maxRecDepth 100000 in
set_option maxHeartbeats 4000000 in
theorem Try.known_any (w : World) :
    Calls Try.prog 8 #[] w fun e w' => e = .returned (.bool true) ∧ Below w.heap.size w w' := by
  go_enter Try.func8, Try.ntmps8
  go_wp2_with fail
  refine (Try.knP1 _).mono ?_
  rintro e w1 ⟨rfl, hw1⟩
  have hC1 := Blk.new w1 24 5 1
  have hb1 := below_step hw1 (below_new w1 (.cells #[.int .u8 5, .int .u8 1] 24))
  clear hw1
  go_wp2_with fail
  refine (Try.knL _).mono ?_
  rintro e w2 ⟨⟨gl, rfl, hRl⟩, hw2⟩
  have hC2 := hC1.up hw2
  have hb2 := below_step hb1 hw2
  clear hw2 hC1 hb1
  have c0 : w2.cell? ⟨w1.heap.size, 0, none⟩ = some (.int .u8 5) := hC2.c0
  have c1 : w2.cell? ⟨w1.heap.size, 1, none⟩ = some (.int .u8 1) := hC2.c1
  go_wp2_with fail
  refine (Try.knN _).mono ?_
  rintro e w3 ⟨rfl, hw3⟩
  have hC3 := hC2.up hw3
  have hRl3 := hRl.up hw3
  have hb3 := below_step hb2 hw3
  clear hw3 hC2 hb2 hRl c0 c1
  go_wp2_with fail
  refine (Try.knM1 _).mono ?_
  rintro e w4 ⟨rfl, hw4⟩
  have hO4 : Blk w4 w3.heap.size 24 1 1 := ((Blk.new w3 24 1 1).al _).up hw4
  have hC4 := ((hC3.al (.cells #[.int .u8 1, .int .u8 1] 24)).al _).up hw4
  have hRl4 := ((hRl3.up (below_new w3 (.cells #[.int .u8 1, .int .u8 1] 24))).up (below_new _ _)).up hw4
  have hb4 := below_step (below_step (below_step hb3 (below_new w3 (.cells #[.int .u8 1, .int .u8 1] 24))) (below_new _ _)) hw4
  clear hw4 hC3 hRl3 hb3
  have o0 : ∀ o, (w4.alloc o).cell? ⟨w3.heap.size, 0, none⟩ = some (.int .u8 1) := fun o => (hO4.al o).c0
  have o1 : ∀ o, (w4.alloc o).cell? ⟨w3.heap.size, 1, none⟩ = some (.int .u8 1) := fun o => (hO4.al o).c1
  go_wp2_with fail
  refine (Try.knM2 _).mono ?_
  rintro e w5 ⟨rfl, hw5⟩
  have hM5 := (Blk.new w4 24 3 1).up hw5
  have hO5 := (hO4.al _).up hw5
  have hC5 := (hC4.al _).up hw5
  have hRl5 := (hRl4.up (below_new w4 _)).up hw5
  have hb5 := below_step (below_step hb4 (below_new w4 _)) hw5
  clear hw5 hO4 hC4 hRl4 hb4 o0 o1
  have o0 : ∀ o, (w5.alloc o).cell? ⟨w3.heap.size, 0, none⟩ = some (.int .u8 1) := fun o => (hO5.al o).c0
  have o1 : ∀ o, (w5.alloc o).cell? ⟨w3.heap.size, 1, none⟩ = some (.int .u8 1) := fun o => (hO5.al o).c1
  go_wp2_with fail
  refine (Try.knI _).mono ?_
  rintro e w6 ⟨⟨la, lg, lcap, rfl, hLf⟩, hw6⟩
  have hM6 := (hM5.al _).up hw6
  have hO6 := (hO5.al _).up hw6
  have hC6 := (hC5.al _).up hw6
  have hRl6 := (hRl5.up (below_new w5 _)).up hw6
  have hb6 := below_step (below_step hb5 (below_new w5 _)) hw6
  clear hw6 hM5 hO5 hC5 hRl5 hb5 o0 o1
  have hRn : RowAt (w6.alloc (.cells #[.int .u8 1, .int .u8 3, .int .u8 2, .int .u8 6] 22)) 22 w6.heap.size [1, 3, 2, 6] := RowAt.new w6 22 [1, 3, 2, 6]
  go_wp2_with fail
  refine (Try.knC hRn).mono ?_
  rintro e w7 ⟨⟨pa, pg, pcap, rfl, hPp⟩, hw7⟩
  have hM7 := (hM6.al _).up hw7
  have hO7 := (hO6.al _).up hw7
  have hC7 := (hC6.al _).up hw7
  have hRl7 := (hRl6.up (below_new w6 _)).up hw7
  have hLf7 := (hLf.up (below_new w6 _)).up hw7
  have hb7 := below_step (below_step hb6 (below_new w6 _)) hw7
  clear hw7 hM6 hO6 hC6 hRl6 hLf hb6 hRn
  go_wp2_with fail
  refine (Try.knT _).mono ?_
  rintro e w8 ⟨⟨str, rfl⟩, hw8⟩
  go_wp2_with fail
  refine (Try.knP2 _).mono ?_
  rintro e w9 ⟨rfl, hw9⟩
  go_wp2_with fail
  refine (Try.knP3 _).mono ?_
  rintro e w10 ⟨rfl, hw10⟩
  have hbz := below_step (below_step (below_step (below_step hw8 hw9) (below_new w9 (.cells #[.int .u8 0, .int .u8 0] 24))) hw10) (below_new w10 (.cells #[.int .u8 0, .int .u8 0] 24))
  have hM := hM7.up hbz
  have hO := hO7.up hbz
  have hC := hC7.up hbz
  have hRl := hRl7.up hbz
  have hLf := hLf7.up hbz
  have hPp := hPp.up hbz
  have hb := below_step hb7 hbz
  clear hw8 hw9 hw10 hbz hM7 hO7 hC7 hRl7 hLf7 hb7
  have c0 : (w10.alloc (.cells #[.int .u8 0, .int .u8 0] 24)).cell? ⟨w1.heap.size, 0, none⟩ = some (.int .u8 5) := hC.c0
  have c1 : (w10.alloc (.cells #[.int .u8 0, .int .u8 0] 24)).cell? ⟨w1.heap.size, 1, none⟩ = some (.int .u8 1) := hC.c1
  have hne1 : ∀ w, (binOp .neq 24 (.agg #[.int .u8 5, .int .u8 1]) (.agg #[.int .u8 5, .int .u8 1])).run Try.prog w = .ok (.bool false) w := fun w => Try.neqCube 5 1 5 1 w
  have hne2 : ∀ w, (binOp .neq 24 (.agg #[.int .u8 3, .int .u8 1]) (.agg #[.int .u8 3, .int .u8 1])).run Try.prog w = .ok (.bool false) w := fun w => Try.neqCube 3 1 3 1 w
  have hR2 : RowAt ((w10.alloc (.cells #[.int .u8 0, .int .u8 0] 24)).alloc (.cells #[.int .u8 1, .int .u8 3] 22)) 22 (w10.heap.size + 1) [1, 3] := by
    have := RowAt.new (w10.alloc (.cells #[.int .u8 0, .int .u8 0] 24)) 22 [1, 3]
    rw [show (w10.alloc (.cells #[.int .u8 0, .int .u8 0] 24)).heap.size = w10.heap.size + 1 by simp] at this
    exact this
  have hsl := Try.same_any (some ⟨gl, 0, none⟩) 2 2 [1, 3] (some ⟨w10.heap.size + 1, 0, none⟩) 2 2 [1, 3] _ ((hRl.up (below_new _ (.cells #[.int .u8 1, .int .u8 3] 22))).intSl Try.underlying36 Try.sizeLet (n := 2) (by decide) (by decide)) (hR2.intSl Try.underlying36 Try.sizeLet (n := 2) (by decide) (by decide))
  rw [decide_eq_true rfl] at hsl
  go_wp2_with fail
  refine hsl.mono ?_
  rintro e w12 ⟨rfl, hd12⟩
  have hw12 := below_step (below_new (w10.alloc (.cells #[.int .u8 0, .int .u8 0] 24)) (.cells #[.int .u8 1, .int .u8 3] 22)) (below_of_drew hd12)
  have hM12 := hM.up hw12
  have hO12 := hO.up hw12
  have hC12 := hC.up hw12
  have hLf12 := hLf.up hw12
  have hPp12 := hPp.up hw12
  have hb12 := below_step hb hw12
  clear hw12 hd12 hM hO hC hLf hb hsl hR2 c0 c1 hRl
  have m0 : w12.cell? ⟨w4.heap.size, 0, none⟩ = some (.int .u8 3) := hM12.c0
  have m1 : w12.cell? ⟨w4.heap.size, 1, none⟩ = some (.int .u8 1) := hM12.c1
  have hL2 := lit_cuSl (P := Try.prog) (T := 32) Try.underlying32 Try.sizeCube (w := w12) rfl [(3, 3), (7, 1)] (fun c hc => by simp at hc; rcases hc with rfl | rfl <;> exact ⟨by decide, by decide⟩) (by decide)
  have hs1 := Try.sameC_any la lg 2 lcap _ _ _ _ _ _ _ (hLf12.up (below_new w12 _)) hL2
  rw [decide_eq_true rfl] at hs1
  go_wp2_with fail
  refine hs1.mono ?_
  rintro e w13 ⟨rfl, hw13'⟩
  have hw13 := below_step (below_new w12 _) hw13'
  have hM13 := hM12.up hw13
  have hO13 := hO12.up hw13
  have hC13 := hC12.up hw13
  have hPp13 := hPp12.up hw13
  have hb13 := below_step hb12 hw13
  clear hw13 hw13' hM12 hO12 hC12 hLf12 hPp12 hb12 hs1 hL2 m0 m1
  have hL3 := lit_cuSl (P := Try.prog) (T := 32) Try.underlying32 Try.sizeCube (w := w13) rfl [(3, 2), (7, 1), (7, 3)] (fun c hc => by simp at hc; rcases hc with rfl | rfl | rfl <;> exact ⟨by decide, by decide⟩) (by decide)
  have hs2 := Try.sameC_any pa pg 3 pcap _ _ _ _ _ _ _ (hPp13.up (below_new w13 _)) hL3
  rw [decide_eq_true rfl] at hs2
  go_wp2_with fail
  refine hs2.mono ?_
  rintro e w14 ⟨rfl, hw14'⟩
  have hw14 := below_step (below_new w13 _) hw14'
  have hM14 := hM13.up hw14
  have hO14 := hO13.up hw14
  have hC14 := hC13.up hw14
  have hb14 := below_step hb13 hw14
  clear hw14 hw14' hM13 hO13 hC13 hPp13 hb13 hs2 hL3
  have c0 : w14.cell? ⟨w1.heap.size, 0, none⟩ = some (.int .u8 5) := hC14.c0
  have c1 : w14.cell? ⟨w1.heap.size, 1, none⟩ = some (.int .u8 1) := hC14.c1
  have hH1 : ∀ w, Calls Try.prog 11 #[.agg #[.int .u8 5, .int .u8 1], .int .u8 1] w fun e w' => e = .returned (.bool true) ∧ Below w.heap.size w w' := fun w => Try.has_any 5 1 1 w (by decide) (by decide) (by decide)
  have hH2 : ∀ w, Calls Try.prog 11 #[.agg #[.int .u8 5, .int .u8 1], .int .u8 3] w fun e w' => e = .returned (.bool true) ∧ Below w.heap.size w w' := fun w => Try.has_any 5 1 3 w (by decide) (by decide) (by decide)
  have hH3 : ∀ w, Calls Try.prog 11 #[.agg #[.int .u8 5, .int .u8 1], .int .u8 5] w fun e w' => e = .returned (.bool false) ∧ Below w.heap.size w w' := fun w => Try.has_any 5 1 5 w (by decide) (by decide) (by decide)
  have hW1 : ∀ w, Calls Try.prog 13 #[.agg #[.int .u8 3, .int .u8 1], .agg #[.int .u8 1, .int .u8 1]] w fun e w' => e = .returned (.bool true) ∧ Below w.heap.size w w' := fun w => Try.within_any 3 1 1 1 w (by decide) (by decide) (by decide) (by decide)
  have hW2 : ∀ w, Calls Try.prog 13 #[.agg #[.int .u8 1, .int .u8 1], .agg #[.int .u8 3, .int .u8 1]] w fun e w' => e = .returned (.bool false) ∧ Below w.heap.size w w' := fun w => Try.within_any 1 1 3 1 w (by decide) (by decide) (by decide) (by decide)
  have hK9 : ∀ w, Calls Try.prog 9 #[.int .i64 9, .agg #[.int .u8 1, .int .u8 1]] w fun e w' => e = .returned (.int .i64 2) ∧ Below w.heap.size w w' := fun w => Try.check_any 9 1 1 w (by decide) (by decide)
  go_wp2_with fail
  refine (hH1 _).mono ?_
  rintro e w15 ⟨rfl, hw15⟩
  have hC15 := hC14.up hw15
  have hM15 := hM14.up hw15
  have hO15 := hO14.up hw15
  have hb15 := below_step hb14 hw15
  clear hw15 hC14 hM14 hO14 hb14 c0 c1
  have c0 : w15.cell? ⟨w1.heap.size, 0, none⟩ = some (.int .u8 5) := hC15.c0
  have c1 : w15.cell? ⟨w1.heap.size, 1, none⟩ = some (.int .u8 1) := hC15.c1
  go_wp2_with fail
  refine (hH2 _).mono ?_
  rintro e w16 ⟨rfl, hw16⟩
  have hC16 := hC15.up hw16
  have hM16 := hM15.up hw16
  have hO16 := hO15.up hw16
  have hb16 := below_step hb15 hw16
  clear hw16 hC15 hM15 hO15 hb15 c0 c1
  have c0 : w16.cell? ⟨w1.heap.size, 0, none⟩ = some (.int .u8 5) := hC16.c0
  have c1 : w16.cell? ⟨w1.heap.size, 1, none⟩ = some (.int .u8 1) := hC16.c1
  go_wp2_with fail
  refine (hH3 _).mono ?_
  rintro e w17 ⟨rfl, hw17⟩
  have hC17 := hC16.up hw17
  have hM17 := hM16.up hw17
  have hO17 := hO16.up hw17
  have hb17 := below_step hb16 hw17
  clear hw17 hC16 hM16 hO16 hb16 c0 c1
  have m0 : w17.cell? ⟨w4.heap.size, 0, none⟩ = some (.int .u8 3) := hM17.c0
  have m1 : w17.cell? ⟨w4.heap.size, 1, none⟩ = some (.int .u8 1) := hM17.c1
  have o0 : w17.cell? ⟨w3.heap.size, 0, none⟩ = some (.int .u8 1) := hO17.c0
  have o1 : w17.cell? ⟨w3.heap.size, 1, none⟩ = some (.int .u8 1) := hO17.c1
  go_wp2_with fail
  refine (hW1 _).mono ?_
  rintro e w18 ⟨rfl, hw18⟩
  have hC18 := hC17.up hw18
  have hM18 := hM17.up hw18
  have hO18 := hO17.up hw18
  have hb18 := below_step hb17 hw18
  clear hw18 hC17 hM17 hO17 hb17 m0 m1 o0 o1
  have m0 : w18.cell? ⟨w4.heap.size, 0, none⟩ = some (.int .u8 3) := hM18.c0
  have m1 : w18.cell? ⟨w4.heap.size, 1, none⟩ = some (.int .u8 1) := hM18.c1
  have o0 : w18.cell? ⟨w3.heap.size, 0, none⟩ = some (.int .u8 1) := hO18.c0
  have o1 : w18.cell? ⟨w3.heap.size, 1, none⟩ = some (.int .u8 1) := hO18.c1
  go_wp2_with fail
  refine (hW2 _).mono ?_
  rintro e w19 ⟨rfl, hw19⟩
  have hC19 := hC18.up hw19
  have hM19 := hM18.up hw19
  have hO19 := hO18.up hw19
  have hb19 := below_step hb18 hw19
  clear hw19 hC18 hM18 hO18 hb18 m0 m1 o0 o1
  have o0 : w19.cell? ⟨w3.heap.size, 0, none⟩ = some (.int .u8 1) := hO19.c0
  have o1 : w19.cell? ⟨w3.heap.size, 1, none⟩ = some (.int .u8 1) := hO19.c1
  go_wp2_with fail
  refine (Try.knI0 _).mono ?_
  rintro e w20 ⟨⟨za, zcap, rfl⟩, hw20⟩
  have hC20 := hC19.up hw20
  have hM20 := hM19.up hw20
  have hO20 := hO19.up hw20
  have hb20 := below_step hb19 hw20
  clear hw20 hC19 hM19 hO19 hb19 o0 o1
  have o0 : w20.cell? ⟨w3.heap.size, 0, none⟩ = some (.int .u8 1) := hO20.c0
  have o1 : w20.cell? ⟨w3.heap.size, 1, none⟩ = some (.int .u8 1) := hO20.c1
  go_wp2_with fail
  refine (hK9 _).mono ?_
  rintro e w21 ⟨rfl, hw21⟩
  have hC21 := hC20.up hw21
  have hM21 := hM20.up hw21
  have hO21 := hO20.up hw21
  have hb21 := below_step hb20 hw21
  clear hw21 hC20 hM20 hO20 hb20 o0 o1
  go_wp2
  go_ret
  exact ⟨rfl, hb21⟩
end Go.Proofs.Ytnaalbcbmhpfjaa
