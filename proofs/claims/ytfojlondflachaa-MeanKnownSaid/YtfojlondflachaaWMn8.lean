/- Stage 7's closed law MeanKnown over the contracts of package mean. Written by mkkn7.py. -/
import Derived.Test.YtfojlondflachaaWMmM
import Derived.Test.YtfojlondflachaaWMn4
import Derived.Test.YtfojlondflachaaMnV
namespace Go.Proofs.Ytfojlondflachaa
open Go.RowKit Go.Maps

/-- Some blocks made one behind the other. -/
def allocs (w : World) : List Obj → World
  | [] => w
  | o :: r => allocs (w.alloc o) r
theorem allocs_below : ∀ (w : World) (O : List Obj), Below w.heap.size w (allocs w O)
  | _, [] => Below.refl _ _
  | w, o :: r => below_step (below_new w o) (allocs_below (w.alloc o) r)
theorem allocs_get : ∀ (w : World) (O : List Obj) (i : Nat) (h : i < O.length), (allocs w O).heap[w.heap.size + i]? = some O[i]
  | w, [], i, h => absurd h (by simp)
  | w, o :: r, 0, _ => ((allocs_below (w.alloc o) r).block w.heap.size (by simp)).trans (MapKept.heap_alloc w o).1
  | w, o :: r, i + 1, h => by
    have := allocs_get (w.alloc o) r i (by simpa using h)
    rw [show w.heap.size + (i + 1) = (w.alloc o).heap.size + i by simp; omega]
    exact this
theorem bo_at {w : World} {g : Nat} {bs : List Bool} (hr : w.heap[g]? = some (.cells (bs.map Value.bool).toArray 4 (0, 0))) (hl : bs.length ≤ 100) : BoSl w (some ⟨g, 0, none⟩) bs.length bs.length bs := by
  refine ⟨rfl, Nat.le_refl _, by unfold maxLen; omega, (fun h => by cases h), fun x hx k hk => ?_⟩
  injection hx with hx; subst hx
  rw [add_plain, Nat.zero_add, cell_row hr k]
  simp [hk]
theorem lt_nil {w : World} : LtSl w none 0 0 [] := ⟨intSl_nil, fun z hz => by simp at hz⟩
theorem Try.mtO_lit (zs : List Int) (ts : List Tk) (w : World) (he : zs.map tokOf = ts) (hz : ∀ z ∈ zs, 0 ≤ z ∧ z < 356) (hl : zs.length ≤ 10) :
    Calls Try.prog 26 #[.slice (some ⟨w.heap.size, 0, none⟩) zs.length zs.length] (w.alloc (.cells (zs.map (Value.int .i64)).toArray 3)) fun e w' => ∃ v, e = .returned v ∧ w'.ownsRow w.heap.size 58 2 v ts.length (encT ts) ∧ Below w.heap.size w w' := by
  subst he
  have h5 := Try.t_any _ _ _ zs _ (Try.int_lit zs w hl) hz (by omega)
  have hsz : w.heap.size ≤ (w.alloc (.cells (zs.map (Value.int .i64)).toArray 3)).heap.size := by simp
  have hb0 := below_new w (.cells (zs.map (Value.int .i64)).toArray 3)
  generalize w.alloc (.cells (zs.map (Value.int .i64)).toArray 3) = w0 at *
  generalize zs.map tokOf = ts at *
  go_enter Try.func26, Try.ntmps26
  go_wp2_with fail
  refine h5.mono ?_
  rintro e w1 ⟨v, rfl, hown, hb1⟩
  obtain ⟨va, vc, rfl⟩ := own_sl hown
  have HO : Hid (w1.ownsRow w.heap.size 58 2 (.slice va ts.length vc) ts.length (encT ts)) := owns_base hown hsz
  have HB1 : Hid (Below w.heap.size w w1) := below_step hb0 hb1
  clear h5 hown hb1
  go_wp2
  go_ret
  exact ⟨_, rfl, HO.out, HB1.out⟩
set_option maxRecDepth 100000 in
set_option maxHeartbeats 8000000 in
theorem Try.mknown_any (hAll : AllC 11) (hEnds : EndsC 18) (hAt : AtC 14) (hSat : SatC 16) (hAw : ∀ w, Calls Try.prog 24 #[] w fun e w' => e = .returned (.bool true) ∧ Below w.heap.size w w') (w : World) : Calls Try.prog 7 #[] w fun e w' => e = .returned (.bool true) ∧ Below w.heap.size w w' := by
  have hop : ∀ (op : Nat) (z y : Int), z = (op : Int) → y = 100 + (op : Int) → op < 256 → ∀ w', Calls Try.prog 27 #[.int .u8 z] w' fun e w'' => e = .returned (.int .i64 y) ∧ w'' = w' := fun op z y hz hy ho w' => by rw [hz, hy]; exact Try.mop_any op w' ho
  have o7 := hop 7 7 107 rfl rfl (by decide)
  have o8 := hop 8 8 108 rfl rfl (by decide)
  have o3 := hop 3 3 103 rfl rfl (by decide)
  have o10 := hop 10 10 110 rfl rfl (by decide)
  have o9 := hop 9 9 109 rfl rfl (by decide)
  have t0 : ∀ w' : World, Calls Try.prog 26 #[.slice (some ⟨w'.heap.size, 0, none⟩) 1 1] (w'.alloc (.cells #[.int .i64 0] 3)) (BuiltR [(2, 0)] w') := fun w' => Try.mt_lit [0] [(2, 0)] w' rfl (by decide) (by decide)
  have t1 : ∀ w' : World, Calls Try.prog 26 #[.slice (some ⟨w'.heap.size, 0, none⟩) 1 1] (w'.alloc (.cells #[.int .i64 1] 3)) (BuiltR [(2, 1)] w') := fun w' => Try.mt_lit [1] [(2, 1)] w' rfl (by decide) (by decide)
  have t2 : ∀ w' : World, Calls Try.prog 26 #[.slice (some ⟨w'.heap.size, 0, none⟩) 2 2] (w'.alloc (.cells #[.int .i64 1, .int .i64 107] 3)) (BuiltR [(2, 1), (7, 0)] w') := fun w' => Try.mt_lit [1, 107] [(2, 1), (7, 0)] w' rfl (by decide) (by decide)
  have t3 : ∀ w' : World, Calls Try.prog 26 #[.slice (some ⟨w'.heap.size, 0, none⟩) 2 2] (w'.alloc (.cells #[.int .i64 1, .int .i64 108] 3)) (BuiltR [(2, 1), (8, 0)] w') := fun w' => Try.mt_lit [1, 108] [(2, 1), (8, 0)] w' rfl (by decide) (by decide)
  have t4 : ∀ w' : World, Calls Try.prog 26 #[.slice (some ⟨w'.heap.size, 0, none⟩) 1 1] (w'.alloc (.cells #[.int .i64 103] 3)) (BuiltR [(3, 0)] w') := fun w' => Try.mt_lit [103] [(3, 0)] w' rfl (by decide) (by decide)
  have t5 : ∀ w' : World, Calls Try.prog 26 #[.slice (some ⟨w'.heap.size, 0, none⟩) 2 2] (w'.alloc (.cells #[.int .i64 1, .int .i64 110] 3)) (BuiltR [(2, 1), (10, 0)] w') := fun w' => Try.mt_lit [1, 110] [(2, 1), (10, 0)] w' rfl (by decide) (by decide)
  have t6 : ∀ w' : World, Calls Try.prog 26 #[.slice (some ⟨w'.heap.size, 0, none⟩) 2 2] (w'.alloc (.cells #[.int .i64 0, .int .i64 109] 3)) (BuiltR [(2, 0), (9, 0)] w') := fun w' => Try.mt_lit [0, 109] [(2, 0), (9, 0)] w' rfl (by decide) (by decide)
  have hL0 : LtSl (w.alloc (.cells #[.int .u8 1, .int .u8 2, .int .u8 3] 54)) (some ⟨w.heap.size, 0, none⟩) 3 3 [1, 2, 3] := Try.lt_lit [1, 2, 3] w (by decide) (by decide)
  have hA0 := below_new w (.cells #[.int .u8 1, .int .u8 2, .int .u8 3] 54)
  have HAll : Hid (AllC 11) := hAll
  have HEn : Hid (EndsC 18) := hEnds
  have HAt : Hid (AtC 14) := hAt
  have HSa : Hid (SatC 16) := hSat
  have HAw : Hid (∀ w, Calls Try.prog 24 #[] w fun e w' => e = .returned (.bool true) ∧ Below w.heap.size w w') := hAw
  have t0w := t0 (w.alloc (.cells #[.int .u8 1, .int .u8 2, .int .u8 3] 54))
  rw [show (w.alloc (.cells #[.int .u8 1, .int .u8 2, .int .u8 3] 54)).heap.size = w.heap.size + 1 by simp] at t0w
  have HOP : Hid _ := hop
  clear hAll hEnds hAt hSat hAw hop t0
  go_enter Try.func7, Try.ntmps7
  go_wp2_with fail
  refine t0w.mono ?_
  rintro e w1 ⟨a0, c0, rfl, hT0, hb1⟩
  have HB1 : Hid (Below w.heap.size w w1) := below_step hA0 hb1
  have HL1 : Hid (LtSl w1 (some ⟨w.heap.size, 0, none⟩) 3 3 [1, 2, 3]) := hL0.up hb1
  have HT0_1 : Hid (TkSl w1 a0 1 c0 [(2, 0)]) := hT0
  clear hT0 hb1 hA0 hL0 t0w
  dsimp only [List.length_cons, List.length_nil, Nat.zero_add, Nat.reduceAdd]
  go_wp2_with fail
  refine (t1 _).mono ?_
  rintro e w2 ⟨a1, c1, rfl, hT, hb⟩
  have HB2 : Hid (Below w.heap.size w w2) := below_step HB1.out hb
  have HL2 : Hid (LtSl w2 (some ⟨w.heap.size, 0, none⟩) 3 3 [1, 2, 3]) := HL1.out.up hb
  have HT0_2 : Hid (TkSl w2 a0 1 c0 [(2, 0)]) := HT0_1.out.up hb
  have HT1_2 : Hid (TkSl w2 a1 1 c1 [(2, 1)]) := hT
  clear hT hb HB1 HL1 HT0_1 t1
  dsimp only [List.length_cons, List.length_nil, Nat.zero_add, Nat.reduceAdd]
  go_wp2_with fail
  refine (o7 _).mono ?_
  rintro e w' ⟨rfl, hw'⟩
  obtain rfl := hw'.symm
  go_wp2_with fail
  refine (t2 _).mono ?_
  rintro e w3 ⟨a2, c2, rfl, hT, hb⟩
  have HB3 : Hid (Below w.heap.size w w3) := below_step HB2.out hb
  have HL3 : Hid (LtSl w3 (some ⟨w.heap.size, 0, none⟩) 3 3 [1, 2, 3]) := HL2.out.up hb
  have HT0_3 : Hid (TkSl w3 a0 1 c0 [(2, 0)]) := HT0_2.out.up hb
  have HT1_3 : Hid (TkSl w3 a1 1 c1 [(2, 1)]) := HT1_2.out.up hb
  have HT2_3 : Hid (TkSl w3 a2 2 c2 [(2, 1), (7, 0)]) := hT
  clear hT hb HB2 HL2 HT0_2 HT1_2 t2 o7
  dsimp only [List.length_cons, List.length_nil, Nat.zero_add, Nat.reduceAdd]
  go_wp2_with fail
  refine (o8 _).mono ?_
  rintro e w' ⟨rfl, hw'⟩
  obtain rfl := hw'.symm
  go_wp2_with fail
  refine (t3 _).mono ?_
  rintro e w4 ⟨a3, c3, rfl, hT, hb⟩
  have HB4 : Hid (Below w.heap.size w w4) := below_step HB3.out hb
  have HL4 : Hid (LtSl w4 (some ⟨w.heap.size, 0, none⟩) 3 3 [1, 2, 3]) := HL3.out.up hb
  have HT0_4 : Hid (TkSl w4 a0 1 c0 [(2, 0)]) := HT0_3.out.up hb
  have HT1_4 : Hid (TkSl w4 a1 1 c1 [(2, 1)]) := HT1_3.out.up hb
  have HT2_4 : Hid (TkSl w4 a2 2 c2 [(2, 1), (7, 0)]) := HT2_3.out.up hb
  have HT3_4 : Hid (TkSl w4 a3 2 c3 [(2, 1), (8, 0)]) := hT
  clear hT hb HB3 HL3 HT0_3 HT1_3 HT2_3 t3 o8
  dsimp only [List.length_cons, List.length_nil, Nat.zero_add, Nat.reduceAdd]
  go_wp2_with fail
  refine (o3 _).mono ?_
  rintro e w' ⟨rfl, hw'⟩
  obtain rfl := hw'.symm
  go_wp2_with fail
  refine (t4 _).mono ?_
  rintro e w5 ⟨a4, c4, rfl, hT, hb⟩
  have HB5 : Hid (Below w.heap.size w w5) := below_step HB4.out hb
  have HL5 : Hid (LtSl w5 (some ⟨w.heap.size, 0, none⟩) 3 3 [1, 2, 3]) := HL4.out.up hb
  have HT0_5 : Hid (TkSl w5 a0 1 c0 [(2, 0)]) := HT0_4.out.up hb
  have HT1_5 : Hid (TkSl w5 a1 1 c1 [(2, 1)]) := HT1_4.out.up hb
  have HT2_5 : Hid (TkSl w5 a2 2 c2 [(2, 1), (7, 0)]) := HT2_4.out.up hb
  have HT3_5 : Hid (TkSl w5 a3 2 c3 [(2, 1), (8, 0)]) := HT3_4.out.up hb
  have HT4_5 : Hid (TkSl w5 a4 1 c4 [(3, 0)]) := hT
  clear hT hb HB4 HL4 HT0_4 HT1_4 HT2_4 HT3_4 t4 o3
  dsimp only [List.length_cons, List.length_nil, Nat.zero_add, Nat.reduceAdd]
  go_wp2_with fail
  refine (o10 _).mono ?_
  rintro e w' ⟨rfl, hw'⟩
  obtain rfl := hw'.symm
  go_wp2_with fail
  refine (t5 _).mono ?_
  rintro e w6 ⟨a5, c5, rfl, hT, hb⟩
  have HB6 : Hid (Below w.heap.size w w6) := below_step HB5.out hb
  have HL6 : Hid (LtSl w6 (some ⟨w.heap.size, 0, none⟩) 3 3 [1, 2, 3]) := HL5.out.up hb
  have HT0_6 : Hid (TkSl w6 a0 1 c0 [(2, 0)]) := HT0_5.out.up hb
  have HT1_6 : Hid (TkSl w6 a1 1 c1 [(2, 1)]) := HT1_5.out.up hb
  have HT2_6 : Hid (TkSl w6 a2 2 c2 [(2, 1), (7, 0)]) := HT2_5.out.up hb
  have HT3_6 : Hid (TkSl w6 a3 2 c3 [(2, 1), (8, 0)]) := HT3_5.out.up hb
  have HT4_6 : Hid (TkSl w6 a4 1 c4 [(3, 0)]) := HT4_5.out.up hb
  have HT5_6 : Hid (TkSl w6 a5 2 c5 [(2, 1), (10, 0)]) := hT
  clear hT hb HB5 HL5 HT0_5 HT1_5 HT2_5 HT3_5 HT4_5 t5 o10
  dsimp only [List.length_cons, List.length_nil, Nat.zero_add, Nat.reduceAdd]
  go_wp2_with fail
  refine (o9 _).mono ?_
  rintro e w' ⟨rfl, hw'⟩
  obtain rfl := hw'.symm
  go_wp2_with fail
  refine (t6 _).mono ?_
  rintro e w7 ⟨a6, c6, rfl, hT, hb⟩
  have HB7 : Hid (Below w.heap.size w w7) := below_step HB6.out hb
  have HL7 : Hid (LtSl w7 (some ⟨w.heap.size, 0, none⟩) 3 3 [1, 2, 3]) := HL6.out.up hb
  have HT0_7 : Hid (TkSl w7 a0 1 c0 [(2, 0)]) := HT0_6.out.up hb
  have HT1_7 : Hid (TkSl w7 a1 1 c1 [(2, 1)]) := HT1_6.out.up hb
  have HT2_7 : Hid (TkSl w7 a2 2 c2 [(2, 1), (7, 0)]) := HT2_6.out.up hb
  have HT3_7 : Hid (TkSl w7 a3 2 c3 [(2, 1), (8, 0)]) := HT3_6.out.up hb
  have HT4_7 : Hid (TkSl w7 a4 1 c4 [(3, 0)]) := HT4_6.out.up hb
  have HT5_7 : Hid (TkSl w7 a5 2 c5 [(2, 1), (10, 0)]) := HT5_6.out.up hb
  have HT6_7 : Hid (TkSl w7 a6 2 c6 [(2, 0), (9, 0)]) := hT
  clear hT hb HB6 HL6 HT0_6 HT1_6 HT2_6 HT3_6 HT4_6 HT5_6 t6 o9
  dsimp only [List.length_cons, List.length_nil, Nat.zero_add, Nat.reduceAdd]
  go_wp2
  have hab := allocs_below w7 [.cells #[.slice a0 1 c0, .slice a1 1 c1, .slice a2 2 c2, .slice a3 2 c3, .slice a4 1 c4, .slice a5 2 c5, .slice a6 2 c6] 22, .cells #[.bool true, .bool false, .bool true, .bool false] 4, .cells #[.bool false, .bool true, .bool true, .bool false] 4, .cells #[.bool true, .bool true, .bool false, .bool false] 4, .cells #[.bool true, .bool true, .bool true, .bool true] 4, .cells #[.bool false, .bool false, .bool true, .bool false] 4, .cells #[.bool false, .bool true, .bool true, .bool true] 4, .cells #[.bool true, .bool true, .bool true, .bool false] 4, .cells #[.slice (some ⟨w7.heap.size + 1, 0, none⟩) 4 4, .slice (some ⟨w7.heap.size + 1 + 1, 0, none⟩) 4 4, .slice (some ⟨w7.heap.size + 1 + 1 + 1, 0, none⟩) 4 4, .slice (some ⟨w7.heap.size + 1 + 1 + 1 + 1, 0, none⟩) 4 4, .slice (some ⟨w7.heap.size + 1 + 1 + 1 + 1 + 1, 0, none⟩) 4 4, .slice (some ⟨w7.heap.size + 1 + 1 + 1 + 1 + 1 + 1, 0, none⟩) 4 4, .slice (some ⟨w7.heap.size + 1 + 1 + 1 + 1 + 1 + 1 + 1, 0, none⟩) 4 4] 27]
  have hg0 := allocs_get w7 [.cells #[.slice a0 1 c0, .slice a1 1 c1, .slice a2 2 c2, .slice a3 2 c3, .slice a4 1 c4, .slice a5 2 c5, .slice a6 2 c6] 22, .cells #[.bool true, .bool false, .bool true, .bool false] 4, .cells #[.bool false, .bool true, .bool true, .bool false] 4, .cells #[.bool true, .bool true, .bool false, .bool false] 4, .cells #[.bool true, .bool true, .bool true, .bool true] 4, .cells #[.bool false, .bool false, .bool true, .bool false] 4, .cells #[.bool false, .bool true, .bool true, .bool true] 4, .cells #[.bool true, .bool true, .bool true, .bool false] 4, .cells #[.slice (some ⟨w7.heap.size + 1, 0, none⟩) 4 4, .slice (some ⟨w7.heap.size + 1 + 1, 0, none⟩) 4 4, .slice (some ⟨w7.heap.size + 1 + 1 + 1, 0, none⟩) 4 4, .slice (some ⟨w7.heap.size + 1 + 1 + 1 + 1, 0, none⟩) 4 4, .slice (some ⟨w7.heap.size + 1 + 1 + 1 + 1 + 1, 0, none⟩) 4 4, .slice (some ⟨w7.heap.size + 1 + 1 + 1 + 1 + 1 + 1, 0, none⟩) 4 4, .slice (some ⟨w7.heap.size + 1 + 1 + 1 + 1 + 1 + 1 + 1, 0, none⟩) 4 4] 27] 0 (by simp)
  have hg1 := allocs_get w7 [.cells #[.slice a0 1 c0, .slice a1 1 c1, .slice a2 2 c2, .slice a3 2 c3, .slice a4 1 c4, .slice a5 2 c5, .slice a6 2 c6] 22, .cells #[.bool true, .bool false, .bool true, .bool false] 4, .cells #[.bool false, .bool true, .bool true, .bool false] 4, .cells #[.bool true, .bool true, .bool false, .bool false] 4, .cells #[.bool true, .bool true, .bool true, .bool true] 4, .cells #[.bool false, .bool false, .bool true, .bool false] 4, .cells #[.bool false, .bool true, .bool true, .bool true] 4, .cells #[.bool true, .bool true, .bool true, .bool false] 4, .cells #[.slice (some ⟨w7.heap.size + 1, 0, none⟩) 4 4, .slice (some ⟨w7.heap.size + 1 + 1, 0, none⟩) 4 4, .slice (some ⟨w7.heap.size + 1 + 1 + 1, 0, none⟩) 4 4, .slice (some ⟨w7.heap.size + 1 + 1 + 1 + 1, 0, none⟩) 4 4, .slice (some ⟨w7.heap.size + 1 + 1 + 1 + 1 + 1, 0, none⟩) 4 4, .slice (some ⟨w7.heap.size + 1 + 1 + 1 + 1 + 1 + 1, 0, none⟩) 4 4, .slice (some ⟨w7.heap.size + 1 + 1 + 1 + 1 + 1 + 1 + 1, 0, none⟩) 4 4] 27] 1 (by simp)
  have hg2 := allocs_get w7 [.cells #[.slice a0 1 c0, .slice a1 1 c1, .slice a2 2 c2, .slice a3 2 c3, .slice a4 1 c4, .slice a5 2 c5, .slice a6 2 c6] 22, .cells #[.bool true, .bool false, .bool true, .bool false] 4, .cells #[.bool false, .bool true, .bool true, .bool false] 4, .cells #[.bool true, .bool true, .bool false, .bool false] 4, .cells #[.bool true, .bool true, .bool true, .bool true] 4, .cells #[.bool false, .bool false, .bool true, .bool false] 4, .cells #[.bool false, .bool true, .bool true, .bool true] 4, .cells #[.bool true, .bool true, .bool true, .bool false] 4, .cells #[.slice (some ⟨w7.heap.size + 1, 0, none⟩) 4 4, .slice (some ⟨w7.heap.size + 1 + 1, 0, none⟩) 4 4, .slice (some ⟨w7.heap.size + 1 + 1 + 1, 0, none⟩) 4 4, .slice (some ⟨w7.heap.size + 1 + 1 + 1 + 1, 0, none⟩) 4 4, .slice (some ⟨w7.heap.size + 1 + 1 + 1 + 1 + 1, 0, none⟩) 4 4, .slice (some ⟨w7.heap.size + 1 + 1 + 1 + 1 + 1 + 1, 0, none⟩) 4 4, .slice (some ⟨w7.heap.size + 1 + 1 + 1 + 1 + 1 + 1 + 1, 0, none⟩) 4 4] 27] 2 (by simp)
  have hg3 := allocs_get w7 [.cells #[.slice a0 1 c0, .slice a1 1 c1, .slice a2 2 c2, .slice a3 2 c3, .slice a4 1 c4, .slice a5 2 c5, .slice a6 2 c6] 22, .cells #[.bool true, .bool false, .bool true, .bool false] 4, .cells #[.bool false, .bool true, .bool true, .bool false] 4, .cells #[.bool true, .bool true, .bool false, .bool false] 4, .cells #[.bool true, .bool true, .bool true, .bool true] 4, .cells #[.bool false, .bool false, .bool true, .bool false] 4, .cells #[.bool false, .bool true, .bool true, .bool true] 4, .cells #[.bool true, .bool true, .bool true, .bool false] 4, .cells #[.slice (some ⟨w7.heap.size + 1, 0, none⟩) 4 4, .slice (some ⟨w7.heap.size + 1 + 1, 0, none⟩) 4 4, .slice (some ⟨w7.heap.size + 1 + 1 + 1, 0, none⟩) 4 4, .slice (some ⟨w7.heap.size + 1 + 1 + 1 + 1, 0, none⟩) 4 4, .slice (some ⟨w7.heap.size + 1 + 1 + 1 + 1 + 1, 0, none⟩) 4 4, .slice (some ⟨w7.heap.size + 1 + 1 + 1 + 1 + 1 + 1, 0, none⟩) 4 4, .slice (some ⟨w7.heap.size + 1 + 1 + 1 + 1 + 1 + 1 + 1, 0, none⟩) 4 4] 27] 3 (by simp)
  have hg4 := allocs_get w7 [.cells #[.slice a0 1 c0, .slice a1 1 c1, .slice a2 2 c2, .slice a3 2 c3, .slice a4 1 c4, .slice a5 2 c5, .slice a6 2 c6] 22, .cells #[.bool true, .bool false, .bool true, .bool false] 4, .cells #[.bool false, .bool true, .bool true, .bool false] 4, .cells #[.bool true, .bool true, .bool false, .bool false] 4, .cells #[.bool true, .bool true, .bool true, .bool true] 4, .cells #[.bool false, .bool false, .bool true, .bool false] 4, .cells #[.bool false, .bool true, .bool true, .bool true] 4, .cells #[.bool true, .bool true, .bool true, .bool false] 4, .cells #[.slice (some ⟨w7.heap.size + 1, 0, none⟩) 4 4, .slice (some ⟨w7.heap.size + 1 + 1, 0, none⟩) 4 4, .slice (some ⟨w7.heap.size + 1 + 1 + 1, 0, none⟩) 4 4, .slice (some ⟨w7.heap.size + 1 + 1 + 1 + 1, 0, none⟩) 4 4, .slice (some ⟨w7.heap.size + 1 + 1 + 1 + 1 + 1, 0, none⟩) 4 4, .slice (some ⟨w7.heap.size + 1 + 1 + 1 + 1 + 1 + 1, 0, none⟩) 4 4, .slice (some ⟨w7.heap.size + 1 + 1 + 1 + 1 + 1 + 1 + 1, 0, none⟩) 4 4] 27] 4 (by simp)
  have hg5 := allocs_get w7 [.cells #[.slice a0 1 c0, .slice a1 1 c1, .slice a2 2 c2, .slice a3 2 c3, .slice a4 1 c4, .slice a5 2 c5, .slice a6 2 c6] 22, .cells #[.bool true, .bool false, .bool true, .bool false] 4, .cells #[.bool false, .bool true, .bool true, .bool false] 4, .cells #[.bool true, .bool true, .bool false, .bool false] 4, .cells #[.bool true, .bool true, .bool true, .bool true] 4, .cells #[.bool false, .bool false, .bool true, .bool false] 4, .cells #[.bool false, .bool true, .bool true, .bool true] 4, .cells #[.bool true, .bool true, .bool true, .bool false] 4, .cells #[.slice (some ⟨w7.heap.size + 1, 0, none⟩) 4 4, .slice (some ⟨w7.heap.size + 1 + 1, 0, none⟩) 4 4, .slice (some ⟨w7.heap.size + 1 + 1 + 1, 0, none⟩) 4 4, .slice (some ⟨w7.heap.size + 1 + 1 + 1 + 1, 0, none⟩) 4 4, .slice (some ⟨w7.heap.size + 1 + 1 + 1 + 1 + 1, 0, none⟩) 4 4, .slice (some ⟨w7.heap.size + 1 + 1 + 1 + 1 + 1 + 1, 0, none⟩) 4 4, .slice (some ⟨w7.heap.size + 1 + 1 + 1 + 1 + 1 + 1 + 1, 0, none⟩) 4 4] 27] 5 (by simp)
  have hg6 := allocs_get w7 [.cells #[.slice a0 1 c0, .slice a1 1 c1, .slice a2 2 c2, .slice a3 2 c3, .slice a4 1 c4, .slice a5 2 c5, .slice a6 2 c6] 22, .cells #[.bool true, .bool false, .bool true, .bool false] 4, .cells #[.bool false, .bool true, .bool true, .bool false] 4, .cells #[.bool true, .bool true, .bool false, .bool false] 4, .cells #[.bool true, .bool true, .bool true, .bool true] 4, .cells #[.bool false, .bool false, .bool true, .bool false] 4, .cells #[.bool false, .bool true, .bool true, .bool true] 4, .cells #[.bool true, .bool true, .bool true, .bool false] 4, .cells #[.slice (some ⟨w7.heap.size + 1, 0, none⟩) 4 4, .slice (some ⟨w7.heap.size + 1 + 1, 0, none⟩) 4 4, .slice (some ⟨w7.heap.size + 1 + 1 + 1, 0, none⟩) 4 4, .slice (some ⟨w7.heap.size + 1 + 1 + 1 + 1, 0, none⟩) 4 4, .slice (some ⟨w7.heap.size + 1 + 1 + 1 + 1 + 1, 0, none⟩) 4 4, .slice (some ⟨w7.heap.size + 1 + 1 + 1 + 1 + 1 + 1, 0, none⟩) 4 4, .slice (some ⟨w7.heap.size + 1 + 1 + 1 + 1 + 1 + 1 + 1, 0, none⟩) 4 4] 27] 6 (by simp)
  have hg7 := allocs_get w7 [.cells #[.slice a0 1 c0, .slice a1 1 c1, .slice a2 2 c2, .slice a3 2 c3, .slice a4 1 c4, .slice a5 2 c5, .slice a6 2 c6] 22, .cells #[.bool true, .bool false, .bool true, .bool false] 4, .cells #[.bool false, .bool true, .bool true, .bool false] 4, .cells #[.bool true, .bool true, .bool false, .bool false] 4, .cells #[.bool true, .bool true, .bool true, .bool true] 4, .cells #[.bool false, .bool false, .bool true, .bool false] 4, .cells #[.bool false, .bool true, .bool true, .bool true] 4, .cells #[.bool true, .bool true, .bool true, .bool false] 4, .cells #[.slice (some ⟨w7.heap.size + 1, 0, none⟩) 4 4, .slice (some ⟨w7.heap.size + 1 + 1, 0, none⟩) 4 4, .slice (some ⟨w7.heap.size + 1 + 1 + 1, 0, none⟩) 4 4, .slice (some ⟨w7.heap.size + 1 + 1 + 1 + 1, 0, none⟩) 4 4, .slice (some ⟨w7.heap.size + 1 + 1 + 1 + 1 + 1, 0, none⟩) 4 4, .slice (some ⟨w7.heap.size + 1 + 1 + 1 + 1 + 1 + 1, 0, none⟩) 4 4, .slice (some ⟨w7.heap.size + 1 + 1 + 1 + 1 + 1 + 1 + 1, 0, none⟩) 4 4] 27] 7 (by simp)
  have hg8 := allocs_get w7 [.cells #[.slice a0 1 c0, .slice a1 1 c1, .slice a2 2 c2, .slice a3 2 c3, .slice a4 1 c4, .slice a5 2 c5, .slice a6 2 c6] 22, .cells #[.bool true, .bool false, .bool true, .bool false] 4, .cells #[.bool false, .bool true, .bool true, .bool false] 4, .cells #[.bool true, .bool true, .bool false, .bool false] 4, .cells #[.bool true, .bool true, .bool true, .bool true] 4, .cells #[.bool false, .bool false, .bool true, .bool false] 4, .cells #[.bool false, .bool true, .bool true, .bool true] 4, .cells #[.bool true, .bool true, .bool true, .bool false] 4, .cells #[.slice (some ⟨w7.heap.size + 1, 0, none⟩) 4 4, .slice (some ⟨w7.heap.size + 1 + 1, 0, none⟩) 4 4, .slice (some ⟨w7.heap.size + 1 + 1 + 1, 0, none⟩) 4 4, .slice (some ⟨w7.heap.size + 1 + 1 + 1 + 1, 0, none⟩) 4 4, .slice (some ⟨w7.heap.size + 1 + 1 + 1 + 1 + 1, 0, none⟩) 4 4, .slice (some ⟨w7.heap.size + 1 + 1 + 1 + 1 + 1 + 1, 0, none⟩) 4 4, .slice (some ⟨w7.heap.size + 1 + 1 + 1 + 1 + 1 + 1 + 1, 0, none⟩) 4 4] 27] 8 (by simp)
  dsimp only [allocs, List.getElem_cons_zero, List.getElem_cons_succ, Nat.add_zero] at hab hg0 hg1 hg2 hg3 hg4 hg5 hg6 hg7 hg8
  generalize ((((((((w7.alloc (.cells #[.slice a0 1 c0, .slice a1 1 c1, .slice a2 2 c2, .slice a3 2 c3, .slice a4 1 c4, .slice a5 2 c5, .slice a6 2 c6] 22)).alloc (.cells #[.bool true, .bool false, .bool true, .bool false] 4)).alloc (.cells #[.bool false, .bool true, .bool true, .bool false] 4)).alloc (.cells #[.bool true, .bool true, .bool false, .bool false] 4)).alloc (.cells #[.bool true, .bool true, .bool true, .bool true] 4)).alloc (.cells #[.bool false, .bool false, .bool true, .bool false] 4)).alloc (.cells #[.bool false, .bool true, .bool true, .bool true] 4)).alloc (.cells #[.bool true, .bool true, .bool true, .bool false] 4)).alloc (.cells #[.slice (some ⟨w7.heap.size + 1, 0, none⟩) 4 4, .slice (some ⟨w7.heap.size + 1 + 1, 0, none⟩) 4 4, .slice (some ⟨w7.heap.size + 1 + 1 + 1, 0, none⟩) 4 4, .slice (some ⟨w7.heap.size + 1 + 1 + 1 + 1, 0, none⟩) 4 4, .slice (some ⟨w7.heap.size + 1 + 1 + 1 + 1 + 1, 0, none⟩) 4 4, .slice (some ⟨w7.heap.size + 1 + 1 + 1 + 1 + 1 + 1, 0, none⟩) 4 4, .slice (some ⟨w7.heap.size + 1 + 1 + 1 + 1 + 1 + 1 + 1, 0, none⟩) 4 4] 27) = wB at *
  have HBB : Hid (Below w.heap.size w wB) := below_step HB7.out hab
  have HLB : Hid (LtSl wB (some ⟨w.heap.size, 0, none⟩) 3 3 [1, 2, 3]) := HL7.out.up hab
  have HTB0 : Hid (TkSl wB a0 1 c0 [(2, 0)]) := HT0_7.out.up hab
  have HW0 : Hid (BoSl wB (some ⟨w7.heap.size + 1, 0, none⟩) 4 4 [true, false, true, false]) := bo_at (bs := [true, false, true, false]) hg1 (by decide)
  have HCF0 : Hid (wB.cell? ⟨w7.heap.size, 0, none⟩ = some (.slice a0 1 c0)) := cell_row hg0 0
  have HCW0 : Hid (wB.cell? ⟨w7.heap.size + 1 + 1 + 1 + 1 + 1 + 1 + 1 + 1, 0, none⟩ = some (.slice (some ⟨w7.heap.size + 1, 0, none⟩) 4 4)) := cell_row hg8 0
  have HTB1 : Hid (TkSl wB a1 1 c1 [(2, 1)]) := HT1_7.out.up hab
  have HW1 : Hid (BoSl wB (some ⟨w7.heap.size + 1 + 1, 0, none⟩) 4 4 [false, true, true, false]) := bo_at (bs := [false, true, true, false]) hg2 (by decide)
  have HCF1 : Hid (wB.cell? ⟨w7.heap.size, 1, none⟩ = some (.slice a1 1 c1)) := cell_row hg0 1
  have HCW1 : Hid (wB.cell? ⟨w7.heap.size + 1 + 1 + 1 + 1 + 1 + 1 + 1 + 1, 1, none⟩ = some (.slice (some ⟨w7.heap.size + 1 + 1, 0, none⟩) 4 4)) := cell_row hg8 1
  have HTB2 : Hid (TkSl wB a2 2 c2 [(2, 1), (7, 0)]) := HT2_7.out.up hab
  have HW2 : Hid (BoSl wB (some ⟨w7.heap.size + 1 + 1 + 1, 0, none⟩) 4 4 [true, true, false, false]) := bo_at (bs := [true, true, false, false]) hg3 (by decide)
  have HCF2 : Hid (wB.cell? ⟨w7.heap.size, 2, none⟩ = some (.slice a2 2 c2)) := cell_row hg0 2
  have HCW2 : Hid (wB.cell? ⟨w7.heap.size + 1 + 1 + 1 + 1 + 1 + 1 + 1 + 1, 2, none⟩ = some (.slice (some ⟨w7.heap.size + 1 + 1 + 1, 0, none⟩) 4 4)) := cell_row hg8 2
  have HTB3 : Hid (TkSl wB a3 2 c3 [(2, 1), (8, 0)]) := HT3_7.out.up hab
  have HW3 : Hid (BoSl wB (some ⟨w7.heap.size + 1 + 1 + 1 + 1, 0, none⟩) 4 4 [true, true, true, true]) := bo_at (bs := [true, true, true, true]) hg4 (by decide)
  have HCF3 : Hid (wB.cell? ⟨w7.heap.size, 3, none⟩ = some (.slice a3 2 c3)) := cell_row hg0 3
  have HCW3 : Hid (wB.cell? ⟨w7.heap.size + 1 + 1 + 1 + 1 + 1 + 1 + 1 + 1, 3, none⟩ = some (.slice (some ⟨w7.heap.size + 1 + 1 + 1 + 1, 0, none⟩) 4 4)) := cell_row hg8 3
  have HTB4 : Hid (TkSl wB a4 1 c4 [(3, 0)]) := HT4_7.out.up hab
  have HW4 : Hid (BoSl wB (some ⟨w7.heap.size + 1 + 1 + 1 + 1 + 1, 0, none⟩) 4 4 [false, false, true, false]) := bo_at (bs := [false, false, true, false]) hg5 (by decide)
  have HCF4 : Hid (wB.cell? ⟨w7.heap.size, 4, none⟩ = some (.slice a4 1 c4)) := cell_row hg0 4
  have HCW4 : Hid (wB.cell? ⟨w7.heap.size + 1 + 1 + 1 + 1 + 1 + 1 + 1 + 1, 4, none⟩ = some (.slice (some ⟨w7.heap.size + 1 + 1 + 1 + 1 + 1, 0, none⟩) 4 4)) := cell_row hg8 4
  have HTB5 : Hid (TkSl wB a5 2 c5 [(2, 1), (10, 0)]) := HT5_7.out.up hab
  have HW5 : Hid (BoSl wB (some ⟨w7.heap.size + 1 + 1 + 1 + 1 + 1 + 1, 0, none⟩) 4 4 [false, true, true, true]) := bo_at (bs := [false, true, true, true]) hg6 (by decide)
  have HCF5 : Hid (wB.cell? ⟨w7.heap.size, 5, none⟩ = some (.slice a5 2 c5)) := cell_row hg0 5
  have HCW5 : Hid (wB.cell? ⟨w7.heap.size + 1 + 1 + 1 + 1 + 1 + 1 + 1 + 1, 5, none⟩ = some (.slice (some ⟨w7.heap.size + 1 + 1 + 1 + 1 + 1 + 1, 0, none⟩) 4 4)) := cell_row hg8 5
  have HTB6 : Hid (TkSl wB a6 2 c6 [(2, 0), (9, 0)]) := HT6_7.out.up hab
  have HW6 : Hid (BoSl wB (some ⟨w7.heap.size + 1 + 1 + 1 + 1 + 1 + 1 + 1, 0, none⟩) 4 4 [true, true, true, false]) := bo_at (bs := [true, true, true, false]) hg7 (by decide)
  have HCF6 : Hid (wB.cell? ⟨w7.heap.size, 6, none⟩ = some (.slice a6 2 c6)) := cell_row hg0 6
  have HCW6 : Hid (wB.cell? ⟨w7.heap.size + 1 + 1 + 1 + 1 + 1 + 1 + 1 + 1, 6, none⟩ = some (.slice (some ⟨w7.heap.size + 1 + 1 + 1 + 1 + 1 + 1 + 1, 0, none⟩) 4 4)) := cell_row hg8 6
  clear hab hg0 hg1 hg2 hg3 hg4 hg5 hg6 hg7 hg8 HB7 HL7 HT0_7 HT1_7 HT2_7 HT3_7 HT4_7 HT5_7 HT6_7
  go_loopw [4] (fun i wr => ∃ j : Nat, j ≤ 7 ∧ i = .int .i64 j ∧ Hid (Below wB.heap.size wB wr)) (fun i _ => 7 - (intOf i).toNat)
  case atStart => exact ⟨0, by decide, rfl, Below.refl _ _⟩
  case round =>
    obtain ⟨j, hj, rfl, HBR⟩ := hrel
    obtain rfl | rfl | rfl | rfl | rfl | rfl | rfl | rfl : j = 0 ∨ j = 1 ∨ j = 2 ∨ j = 3 ∨ j = 4 ∨ j = 5 ∨ j = 6 ∨ j = 7 := by omega
    · have cj := kept_cell HCF0.out HBR.out
      have ix := fun w' => idx_of (P := Try.prog) (T := 55) (e := 22) Try.underlying55 (by kernel_rfl) (a := some ⟨w7.heap.size, 0, none⟩) (cap := 7) (n := 7) (by simp) 0 w' (by decide)
      have jA := HAll.out a0 1 c0 [(2, 0)] (some ⟨w.heap.size, 0, none⟩) 3 3 [1, 2, 3] wr (HTB0.out.up HBR.out) (HLB.out.up HBR.out)
      simp only [adOf, add_plain] at ix
      go_wp2_with fail
      refine jA.mono ?_
      rintro e w2 ⟨v2, E2, rfl, hb2, hr2⟩
      have HB2 : Hid (Below wB.heap.size wB w2) := below_step HBR.out hb2
      rcases hr2 with ⟨q2, hq2, _⟩ | ⟨rfl, _, _, bs, ho2, hv2⟩
      · exfalso
        rcases hq2 with ⟨hq, _⟩ | ⟨_, hq⟩
        · exact hq (by kernel_rfl)
        · exact q2 hq
      · have hbs : bs = [true, false, true, false] := kn_p0 hv2
        subst hbs
        obtain ⟨a2, c2, rfl, hS2⟩ := own_bo ho2
        have cw := kept_cell HCW0.out HB2.out
        have iw := fun w' => idx_of (P := Try.prog) (T := 56) (e := 27) Try.underlying56 (by kernel_rfl) (a := some ⟨w7.heap.size + 1 + 1 + 1 + 1 + 1 + 1 + 1 + 1, 0, none⟩) (cap := 7) (n := 7) (by simp) 0 w' (by decide)
        simp only [adOf, add_plain] at iw
        have jS := Try.sameB_any _ _ _ _ _ _ _ _ w2 hS2 (HW0.out.up HB2.out)
        rw [decide_eq_true rfl] at jS
        dsimp only [List.length_cons, List.length_nil, Nat.zero_add, Nat.reduceAdd] at jS ⊢
        clear jA hb2 ho2 hv2 hS2 cj ix HBR
        go_wp2_with fail
        refine jS.mono ?_
        rintro e w3 ⟨rfl, hb3⟩
        have HB3 : Hid (Below wB.heap.size wB w3) := below_step HB2.out hb3
        clear jS hb3 cw iw HB2
        go_wp2
        go_roundw
        case rel => exact ⟨1, by decide, rfl, HB3⟩
        case measure => simp [intOf]
    · have cj := kept_cell HCF1.out HBR.out
      have ix := fun w' => idx_of (P := Try.prog) (T := 55) (e := 22) Try.underlying55 (by kernel_rfl) (a := some ⟨w7.heap.size, 0, none⟩) (cap := 7) (n := 7) (by simp) 1 w' (by decide)
      have jA := HAll.out a1 1 c1 [(2, 1)] (some ⟨w.heap.size, 0, none⟩) 3 3 [1, 2, 3] wr (HTB1.out.up HBR.out) (HLB.out.up HBR.out)
      simp only [adOf, add_plain] at ix
      go_wp2_with fail
      refine jA.mono ?_
      rintro e w2 ⟨v2, E2, rfl, hb2, hr2⟩
      have HB2 : Hid (Below wB.heap.size wB w2) := below_step HBR.out hb2
      rcases hr2 with ⟨q2, hq2, _⟩ | ⟨rfl, _, _, bs, ho2, hv2⟩
      · exfalso
        rcases hq2 with ⟨hq, _⟩ | ⟨_, hq⟩
        · exact hq (by kernel_rfl)
        · exact q2 hq
      · have hbs : bs = [false, true, true, false] := kn_p1 hv2
        subst hbs
        obtain ⟨a2, c2, rfl, hS2⟩ := own_bo ho2
        have cw := kept_cell HCW1.out HB2.out
        have iw := fun w' => idx_of (P := Try.prog) (T := 56) (e := 27) Try.underlying56 (by kernel_rfl) (a := some ⟨w7.heap.size + 1 + 1 + 1 + 1 + 1 + 1 + 1 + 1, 0, none⟩) (cap := 7) (n := 7) (by simp) 1 w' (by decide)
        simp only [adOf, add_plain] at iw
        have jS := Try.sameB_any _ _ _ _ _ _ _ _ w2 hS2 (HW1.out.up HB2.out)
        rw [decide_eq_true rfl] at jS
        dsimp only [List.length_cons, List.length_nil, Nat.zero_add, Nat.reduceAdd] at jS ⊢
        clear jA hb2 ho2 hv2 hS2 cj ix HBR
        go_wp2_with fail
        refine jS.mono ?_
        rintro e w3 ⟨rfl, hb3⟩
        have HB3 : Hid (Below wB.heap.size wB w3) := below_step HB2.out hb3
        clear jS hb3 cw iw HB2
        go_wp2
        go_roundw
        case rel => exact ⟨2, by decide, rfl, HB3⟩
        case measure => simp [intOf]
    · have cj := kept_cell HCF2.out HBR.out
      have ix := fun w' => idx_of (P := Try.prog) (T := 55) (e := 22) Try.underlying55 (by kernel_rfl) (a := some ⟨w7.heap.size, 0, none⟩) (cap := 7) (n := 7) (by simp) 2 w' (by decide)
      have jA := HAll.out a2 2 c2 [(2, 1), (7, 0)] (some ⟨w.heap.size, 0, none⟩) 3 3 [1, 2, 3] wr (HTB2.out.up HBR.out) (HLB.out.up HBR.out)
      simp only [adOf, add_plain] at ix
      go_wp2_with fail
      refine jA.mono ?_
      rintro e w2 ⟨v2, E2, rfl, hb2, hr2⟩
      have HB2 : Hid (Below wB.heap.size wB w2) := below_step HBR.out hb2
      rcases hr2 with ⟨q2, hq2, _⟩ | ⟨rfl, _, _, bs, ho2, hv2⟩
      · exfalso
        rcases hq2 with ⟨hq, _⟩ | ⟨_, hq⟩
        · exact hq (by kernel_rfl)
        · exact q2 hq
      · have hbs : bs = [true, true, false, false] := kn_next hv2
        subst hbs
        obtain ⟨a2, c2, rfl, hS2⟩ := own_bo ho2
        have cw := kept_cell HCW2.out HB2.out
        have iw := fun w' => idx_of (P := Try.prog) (T := 56) (e := 27) Try.underlying56 (by kernel_rfl) (a := some ⟨w7.heap.size + 1 + 1 + 1 + 1 + 1 + 1 + 1 + 1, 0, none⟩) (cap := 7) (n := 7) (by simp) 2 w' (by decide)
        simp only [adOf, add_plain] at iw
        have jS := Try.sameB_any _ _ _ _ _ _ _ _ w2 hS2 (HW2.out.up HB2.out)
        rw [decide_eq_true rfl] at jS
        dsimp only [List.length_cons, List.length_nil, Nat.zero_add, Nat.reduceAdd] at jS ⊢
        clear jA hb2 ho2 hv2 hS2 cj ix HBR
        go_wp2_with fail
        refine jS.mono ?_
        rintro e w3 ⟨rfl, hb3⟩
        have HB3 : Hid (Below wB.heap.size wB w3) := below_step HB2.out hb3
        clear jS hb3 cw iw HB2
        go_wp2
        go_roundw
        case rel => exact ⟨3, by decide, rfl, HB3⟩
        case measure => simp [intOf]
    · have cj := kept_cell HCF3.out HBR.out
      have ix := fun w' => idx_of (P := Try.prog) (T := 55) (e := 22) Try.underlying55 (by kernel_rfl) (a := some ⟨w7.heap.size, 0, none⟩) (cap := 7) (n := 7) (by simp) 3 w' (by decide)
      have jA := HAll.out a3 2 c3 [(2, 1), (8, 0)] (some ⟨w.heap.size, 0, none⟩) 3 3 [1, 2, 3] wr (HTB3.out.up HBR.out) (HLB.out.up HBR.out)
      simp only [adOf, add_plain] at ix
      go_wp2_with fail
      refine jA.mono ?_
      rintro e w2 ⟨v2, E2, rfl, hb2, hr2⟩
      have HB2 : Hid (Below wB.heap.size wB w2) := below_step HBR.out hb2
      rcases hr2 with ⟨q2, hq2, _⟩ | ⟨rfl, _, _, bs, ho2, hv2⟩
      · exfalso
        rcases hq2 with ⟨hq, _⟩ | ⟨_, hq⟩
        · exact hq (by kernel_rfl)
        · exact q2 hq
      · have hbs : bs = [true, true, true, true] := kn_weak hv2
        subst hbs
        obtain ⟨a2, c2, rfl, hS2⟩ := own_bo ho2
        have cw := kept_cell HCW3.out HB2.out
        have iw := fun w' => idx_of (P := Try.prog) (T := 56) (e := 27) Try.underlying56 (by kernel_rfl) (a := some ⟨w7.heap.size + 1 + 1 + 1 + 1 + 1 + 1 + 1 + 1, 0, none⟩) (cap := 7) (n := 7) (by simp) 3 w' (by decide)
        simp only [adOf, add_plain] at iw
        have jS := Try.sameB_any _ _ _ _ _ _ _ _ w2 hS2 (HW3.out.up HB2.out)
        rw [decide_eq_true rfl] at jS
        dsimp only [List.length_cons, List.length_nil, Nat.zero_add, Nat.reduceAdd] at jS ⊢
        clear jA hb2 ho2 hv2 hS2 cj ix HBR
        go_wp2_with fail
        refine jS.mono ?_
        rintro e w3 ⟨rfl, hb3⟩
        have HB3 : Hid (Below wB.heap.size wB w3) := below_step HB2.out hb3
        clear jS hb3 cw iw HB2
        go_wp2
        go_roundw
        case rel => exact ⟨4, by decide, rfl, HB3⟩
        case measure => simp [intOf]
    · have cj := kept_cell HCF4.out HBR.out
      have ix := fun w' => idx_of (P := Try.prog) (T := 55) (e := 22) Try.underlying55 (by kernel_rfl) (a := some ⟨w7.heap.size, 0, none⟩) (cap := 7) (n := 7) (by simp) 4 w' (by decide)
      have jA := HAll.out a4 1 c4 [(3, 0)] (some ⟨w.heap.size, 0, none⟩) 3 3 [1, 2, 3] wr (HTB4.out.up HBR.out) (HLB.out.up HBR.out)
      simp only [adOf, add_plain] at ix
      go_wp2_with fail
      refine jA.mono ?_
      rintro e w2 ⟨v2, E2, rfl, hb2, hr2⟩
      have HB2 : Hid (Below wB.heap.size wB w2) := below_step HBR.out hb2
      rcases hr2 with ⟨q2, hq2, _⟩ | ⟨rfl, _, _, bs, ho2, hv2⟩
      · exfalso
        rcases hq2 with ⟨hq, _⟩ | ⟨_, hq⟩
        · exact hq (by kernel_rfl)
        · exact q2 hq
      · have hbs : bs = [false, false, true, false] := kn_last hv2
        subst hbs
        obtain ⟨a2, c2, rfl, hS2⟩ := own_bo ho2
        have cw := kept_cell HCW4.out HB2.out
        have iw := fun w' => idx_of (P := Try.prog) (T := 56) (e := 27) Try.underlying56 (by kernel_rfl) (a := some ⟨w7.heap.size + 1 + 1 + 1 + 1 + 1 + 1 + 1 + 1, 0, none⟩) (cap := 7) (n := 7) (by simp) 4 w' (by decide)
        simp only [adOf, add_plain] at iw
        have jS := Try.sameB_any _ _ _ _ _ _ _ _ w2 hS2 (HW4.out.up HB2.out)
        rw [decide_eq_true rfl] at jS
        dsimp only [List.length_cons, List.length_nil, Nat.zero_add, Nat.reduceAdd] at jS ⊢
        clear jA hb2 ho2 hv2 hS2 cj ix HBR
        go_wp2_with fail
        refine jS.mono ?_
        rintro e w3 ⟨rfl, hb3⟩
        have HB3 : Hid (Below wB.heap.size wB w3) := below_step HB2.out hb3
        clear jS hb3 cw iw HB2
        go_wp2
        go_roundw
        case rel => exact ⟨5, by decide, rfl, HB3⟩
        case measure => simp [intOf]
    · have cj := kept_cell HCF5.out HBR.out
      have ix := fun w' => idx_of (P := Try.prog) (T := 55) (e := 22) Try.underlying55 (by kernel_rfl) (a := some ⟨w7.heap.size, 0, none⟩) (cap := 7) (n := 7) (by simp) 5 w' (by decide)
      have jA := HAll.out a5 2 c5 [(2, 1), (10, 0)] (some ⟨w.heap.size, 0, none⟩) 3 3 [1, 2, 3] wr (HTB5.out.up HBR.out) (HLB.out.up HBR.out)
      simp only [adOf, add_plain] at ix
      go_wp2_with fail
      refine jA.mono ?_
      rintro e w2 ⟨v2, E2, rfl, hb2, hr2⟩
      have HB2 : Hid (Below wB.heap.size wB w2) := below_step HBR.out hb2
      rcases hr2 with ⟨q2, hq2, _⟩ | ⟨rfl, _, _, bs, ho2, hv2⟩
      · exfalso
        rcases hq2 with ⟨hq, _⟩ | ⟨_, hq⟩
        · exact hq (by kernel_rfl)
        · exact q2 hq
      · have hbs : bs = [false, true, true, true] := kn_glob hv2
        subst hbs
        obtain ⟨a2, c2, rfl, hS2⟩ := own_bo ho2
        have cw := kept_cell HCW5.out HB2.out
        have iw := fun w' => idx_of (P := Try.prog) (T := 56) (e := 27) Try.underlying56 (by kernel_rfl) (a := some ⟨w7.heap.size + 1 + 1 + 1 + 1 + 1 + 1 + 1 + 1, 0, none⟩) (cap := 7) (n := 7) (by simp) 5 w' (by decide)
        simp only [adOf, add_plain] at iw
        have jS := Try.sameB_any _ _ _ _ _ _ _ _ w2 hS2 (HW5.out.up HB2.out)
        rw [decide_eq_true rfl] at jS
        dsimp only [List.length_cons, List.length_nil, Nat.zero_add, Nat.reduceAdd] at jS ⊢
        clear jA hb2 ho2 hv2 hS2 cj ix HBR
        go_wp2_with fail
        refine jS.mono ?_
        rintro e w3 ⟨rfl, hb3⟩
        have HB3 : Hid (Below wB.heap.size wB w3) := below_step HB2.out hb3
        clear jS hb3 cw iw HB2
        go_wp2
        go_roundw
        case rel => exact ⟨6, by decide, rfl, HB3⟩
        case measure => simp [intOf]
    · have cj := kept_cell HCF6.out HBR.out
      have ix := fun w' => idx_of (P := Try.prog) (T := 55) (e := 22) Try.underlying55 (by kernel_rfl) (a := some ⟨w7.heap.size, 0, none⟩) (cap := 7) (n := 7) (by simp) 6 w' (by decide)
      have jA := HAll.out a6 2 c6 [(2, 0), (9, 0)] (some ⟨w.heap.size, 0, none⟩) 3 3 [1, 2, 3] wr (HTB6.out.up HBR.out) (HLB.out.up HBR.out)
      simp only [adOf, add_plain] at ix
      go_wp2_with fail
      refine jA.mono ?_
      rintro e w2 ⟨v2, E2, rfl, hb2, hr2⟩
      have HB2 : Hid (Below wB.heap.size wB w2) := below_step HBR.out hb2
      rcases hr2 with ⟨q2, hq2, _⟩ | ⟨rfl, _, _, bs, ho2, hv2⟩
      · exfalso
        rcases hq2 with ⟨hq, _⟩ | ⟨_, hq⟩
        · exact hq (by kernel_rfl)
        · exact q2 hq
      · have hbs : bs = [true, true, true, false] := kn_fin hv2
        subst hbs
        obtain ⟨a2, c2, rfl, hS2⟩ := own_bo ho2
        have cw := kept_cell HCW6.out HB2.out
        have iw := fun w' => idx_of (P := Try.prog) (T := 56) (e := 27) Try.underlying56 (by kernel_rfl) (a := some ⟨w7.heap.size + 1 + 1 + 1 + 1 + 1 + 1 + 1 + 1, 0, none⟩) (cap := 7) (n := 7) (by simp) 6 w' (by decide)
        simp only [adOf, add_plain] at iw
        have jS := Try.sameB_any _ _ _ _ _ _ _ _ w2 hS2 (HW6.out.up HB2.out)
        rw [decide_eq_true rfl] at jS
        dsimp only [List.length_cons, List.length_nil, Nat.zero_add, Nat.reduceAdd] at jS ⊢
        clear jA hb2 ho2 hv2 hS2 cj ix HBR
        go_wp2_with fail
        refine jS.mono ?_
        rintro e w3 ⟨rfl, hb3⟩
        have HB3 : Hid (Below wB.heap.size wB w3) := below_step HB2.out hb3
        clear jS hb3 cw iw HB2
        go_wp2
        go_roundw
        case rel => exact ⟨7, by decide, rfl, HB3⟩
        case measure => simp [intOf]
    · have HB_0 : Hid (Below w.heap.size w wr) := below_step HBB.out HBR.out
      have HL_0 : Hid (LtSl wr (some ⟨w.heap.size, 0, none⟩) 3 3 [1, 2, 3]) := HLB.out.up HBR.out
      clear HBB HBR HLB HTB0 HW0 HCF0 HCW0 HTB1 HW1 HCF1 HCW1 HTB2 HW2 HCF2 HCW2 HTB3 HW3 HCF3 HCW3 HTB4 HW4 HCF4 HCW4 HTB5 HW5 HCF5 HCW5 HTB6 HW6 HCF6 HCW6
      go_wp2_with fail
      refine ((HOP.out 19 19 119 rfl rfl (by decide)) _).mono ?_
      rintro e w' ⟨rfl, hw'⟩
      obtain rfl := hw'.symm
      go_wp2_with fail
      refine ((HOP.out 23 23 123 rfl rfl (by decide)) _).mono ?_
      rintro e w' ⟨rfl, hw'⟩
      obtain rfl := hw'.symm
      have tt : ∀ w' : World, Calls Try.prog 26 #[.slice (some ⟨w'.heap.size, 0, none⟩) 3 3] (w'.alloc (.cells #[.int .i64 0, .int .i64 119, .int .i64 123] 3)) (BuiltR [(2, 0), (19, 0), (23, 0)] w') := fun w' => Try.mt_lit [0, 119, 123] [(2, 0), (19, 0), (23, 0)] w' rfl (by decide) (by decide)
      go_wp2_with fail
      refine (tt _).mono ?_
      rintro e w21 ⟨a21, c21, rfl, hT, hb⟩
      have HT21 : Hid (TkSl w21 a21 3 c21 [(2, 0), (19, 0), (23, 0)]) := hT
      have HB_1 : Hid (Below w.heap.size w w21) := below_step HB_0.out hb
      have HL_1 : Hid (LtSl w21 (some ⟨w.heap.size, 0, none⟩) 3 3 [1, 2, 3]) := HL_0.out.up hb
      clear HB_0 HL_0
      clear hT hb tt
      dsimp only [List.length_cons, List.length_nil, Nat.zero_add, Nat.reduceAdd]
      have HS_1 : Hid (TkSl w21 a21 3 c21 [(2, 0), (19, 0), (23, 0)]) := HT21.out
      clear HT21
      have jE := HEn.out a21 3 c21 _ _ 3 3 _ 2 w21 HS_1.out HL_1.out
      go_wp2_with fail
      refine jE.mono ?_
      rintro e w22 ⟨v, E4, rfl, hb, hr⟩
      rcases hr with ⟨q4, hq4, _⟩ | ⟨rfl, _, _, _, _, es, ho, hv⟩
      · exfalso
        rcases hq4 with ⟨hq, _⟩ | ⟨_, hq, _⟩ | ⟨_, _, _, hq⟩
        · exact hq (by kernel_rfl)
        · exact hq rfl
        · rcases hq with hq | hq
          · exact absurd hq (by decide)
          · exact absurd hq (by decide)
      · have hes : es = [2, 3] := kn_ends2 hv.1 hv.2
        subst hes
        obtain ⟨a22, c22, rfl, hS⟩ := ints_sl ho
        have HB_2 : Hid (Below w.heap.size w w22) := below_step HB_1.out hb
        have HL_2 : Hid (LtSl w22 (some ⟨w.heap.size, 0, none⟩) 3 3 [1, 2, 3]) := HL_1.out.up hb
        have HS_2 : Hid (TkSl w22 a21 3 c21 [(2, 0), (19, 0), (23, 0)]) := HS_1.out.up hb
        clear HB_1 HL_1 HS_1
        have HI_2 : Hid (IntSl Try.prog 35 .i64 w22 a22 2 c22 [2, 3]) := hS
        dsimp only [List.length_cons, List.length_nil, Nat.zero_add, Nat.reduceAdd]
        clear jE hb ho hv hS
        have jE := HEn.out a21 3 c21 _ _ 3 3 _ 3 w22 HS_2.out HL_2.out
        go_wp2_with fail
        refine jE.mono ?_
        rintro e w23 ⟨v, E4, rfl, hb, hr⟩
        rcases hr with ⟨q4, hq4, _⟩ | ⟨rfl, _, _, _, _, es, ho, hv⟩
        · exfalso
          rcases hq4 with ⟨hq, _⟩ | ⟨_, hq, _⟩ | ⟨_, _, _, hq⟩
          · exact hq (by kernel_rfl)
          · exact hq rfl
          · rcases hq with hq | hq
            · exact absurd hq (by decide)
            · exact absurd hq (by decide)
        · have hes : es = [3] := kn_ends3 hv.1 hv.2
          subst hes
          obtain ⟨a23, c23, rfl, hS⟩ := ints_sl ho
          have HB_3 : Hid (Below w.heap.size w w23) := below_step HB_2.out hb
          have HL_3 : Hid (LtSl w23 (some ⟨w.heap.size, 0, none⟩) 3 3 [1, 2, 3]) := HL_2.out.up hb
          have HS_3 : Hid (TkSl w23 a21 3 c21 [(2, 0), (19, 0), (23, 0)]) := HS_2.out.up hb
          have HI_3 : Hid (IntSl Try.prog 35 .i64 w23 a22 2 c22 [2, 3]) := HI_2.out.up hb
          clear HB_2 HL_2 HS_2 HI_2
          have HJ_3 : Hid (IntSl Try.prog 35 .i64 w23 a23 1 c23 [3]) := hS
          dsimp only [List.length_cons, List.length_nil, Nat.zero_add, Nat.reduceAdd]
          clear jE hb ho hv hS
          clear HS_3
          go_wp2_with fail
          refine ((HOP.out 19 19 119 rfl rfl (by decide)) _).mono ?_
          rintro e w' ⟨rfl, hw'⟩
          obtain rfl := hw'.symm
          go_wp2_with fail
          refine ((HOP.out 19 19 119 rfl rfl (by decide)) _).mono ?_
          rintro e w' ⟨rfl, hw'⟩
          obtain rfl := hw'.symm
          go_wp2_with fail
          refine ((HOP.out 23 23 123 rfl rfl (by decide)) _).mono ?_
          rintro e w' ⟨rfl, hw'⟩
          obtain rfl := hw'.symm
          go_wp2_with fail
          refine ((HOP.out 22 22 122 rfl rfl (by decide)) _).mono ?_
          rintro e w' ⟨rfl, hw'⟩
          obtain rfl := hw'.symm
          have tt : ∀ w' : World, Calls Try.prog 26 #[.slice (some ⟨w'.heap.size, 0, none⟩) 6 6] (w'.alloc (.cells #[.int .i64 0, .int .i64 119, .int .i64 1, .int .i64 119, .int .i64 123, .int .i64 122] 3)) (fun e w'' => ∃ v, e = .returned v ∧ w''.ownsRow w'.heap.size 58 2 v 6 (encT [(2, 0), (19, 0), (2, 1), (19, 0), (23, 0), (22, 0)]) ∧ Below w'.heap.size w' w'') := fun w' => Try.mtO_lit [0, 119, 1, 119, 123, 122] [(2, 0), (19, 0), (2, 1), (19, 0), (23, 0), (22, 0)] w' rfl (by decide) (by decide)
          go_wp2_with fail
          refine (tt _).mono ?_
          rintro e w24 ⟨v, rfl, hown, hb6⟩
          obtain ⟨va, vc, rfl⟩ := own_sl hown
          have HO6 : Hid (w24.ownsRow w23.heap.size 58 2 (.slice va 6 vc) 6 (encT [(2, 0), (19, 0), (2, 1), (19, 0), (23, 0), (22, 0)])) := hown
          have HB6 : Hid (Below w23.heap.size w23 w24) := hb6
          clear hown hb6 tt
          go_wp2_with fail
          refine ((HOP.out 5 5 105 rfl rfl (by decide)) _).mono ?_
          rintro e w' ⟨rfl, hw'⟩
          obtain rfl := hw'.symm
          go_wp2_with fail
          refine ((HOP.out 17 17 117 rfl rfl (by decide)) _).mono ?_
          rintro e w' ⟨rfl, hw'⟩
          obtain rfl := hw'.symm
          have tt : ∀ w' : World, Calls Try.prog 26 #[.slice (some ⟨w'.heap.size, 0, none⟩) 2 2] (w'.alloc (.cells #[.int .i64 105, .int .i64 117] 3)) (BuiltR [(5, 0), (17, 0)] w') := fun w' => Try.mt_lit [105, 117] [(5, 0), (17, 0)] w' rfl (by decide) (by decide)
          go_wp2_with fail
          refine (tt _).mono ?_
          rintro e w25 ⟨a25, c25, rfl, hT, hb7⟩
          have HT7 : Hid (TkSl w25 a25 2 c25 [(5, 0), (17, 0)]) := hT
          have HO7 : Hid (w25.ownsRow w23.heap.size 58 2 (.slice va 6 vc) 6 (encT [(2, 0), (19, 0), (2, 1), (19, 0), (23, 0), (22, 0)])) := owns_up HO6.out hb7
          have HB7 : Hid (Below w23.heap.size w23 w25) := below_step HB6.out hb7
          have hsz7 : w23.heap.size ≤ w25.heap.size := HB7.out.size
          have HGE : Hid (∀ q, (Value.slice va 6 vc).ownBlock = some q → w23.heap.size ≤ q) := own_ge HO6.out
          clear hT hb7 tt HO6 HB6
          dsimp only [List.length_cons, List.length_nil, Nat.zero_add, Nat.reduceAdd]
          go_wp2_with (at_builtin; refine Try.append_tks rfl _ _ rfl w23.heap.size _ [(2, 0), (19, 0), (2, 1), (19, 0), (23, 0), (22, 0)] [(5, 0), (17, 0)] a25 2 c25 rfl rfl HO7.out HT7.out (by decide) (by decide) hsz7 ?_)
          intro v8 w26 hown8 hgr8
          have hb8 : Below w23.heap.size w23 w26 := HB7.out.grown hgr8 hsz7 (fun q e => HGE.out q e)
          obtain ⟨a26, c26, rfl, hT8, _⟩ := own_tk (ts := satT) hown8 (by decide)
          have HT8 : Hid (TkSl w26 a26 8 c26 satT) := hT8
          have HB_4 : Hid (Below w.heap.size w w26) := below_step HB_3.out hb8
          have HL_4 : Hid (LtSl w26 (some ⟨w.heap.size, 0, none⟩) 3 3 [1, 2, 3]) := HL_3.out.up hb8
          have HI_4 : Hid (IntSl Try.prog 35 .i64 w26 a22 2 c22 [2, 3]) := HI_3.out.up hb8
          have HJ_4 : Hid (IntSl Try.prog 35 .i64 w26 a23 1 c23 [3]) := HJ_3.out.up hb8
          clear HB_3 HL_3 HI_3 HJ_3
          clear hown8 hgr8 hb8 hT8 HO7 HT7 HB7 hsz7 HGE
          have hn := below_new w26 (.cells #[.int .u8 1, .int .u8 2, .int .u8 1] 54)
          have hl2 : LtSl (w26.alloc (.cells #[.int .u8 1, .int .u8 2, .int .u8 1] 54)) (some ⟨w26.heap.size, 0, none⟩) 3 3 [1, 2, 1] := Try.lt_lit [1, 2, 1] w26 (by decide) (by decide)
          have jS := HSa.out a26 8 c26 satT _ 3 3 _ _ (HT8.out.up hn) hl2
          go_wp2_with fail
          refine jS.mono ?_
          rintro e w27 ⟨bS, E5, rfl, hb, hr⟩
          have hb9 := below_step hn hb
          rcases hr with ⟨q5, hq5, _⟩ | ⟨rfl, _, _, _, hv⟩
          · exfalso
            rcases hq5 with ⟨hq, _⟩ | ⟨_, hq, _⟩ | ⟨_, _, _, hq⟩
            · exact hq (by kernel_rfl)
            · exact hq rfl
            · exact absurd hq (by decide)
          · obtain rfl : bS = false := kn_sat hv
            have HB_5 : Hid (Below w.heap.size w w27) := below_step HB_4.out hb9
            have HL_5 : Hid (LtSl w27 (some ⟨w.heap.size, 0, none⟩) 3 3 [1, 2, 3]) := HL_4.out.up hb9
            have HI_5 : Hid (IntSl Try.prog 35 .i64 w27 a22 2 c22 [2, 3]) := HI_4.out.up hb9
            have HJ_5 : Hid (IntSl Try.prog 35 .i64 w27 a23 1 c23 [3]) := HJ_4.out.up hb9
            clear HB_4 HL_4 HI_4 HJ_4
            clear jS hb hv hb9 hn hl2 HT8
            go_wp2_with fail
            refine ((HOP.out 0 0 100 rfl rfl (by decide)) _).mono ?_
            rintro e w' ⟨rfl, hw'⟩
            obtain rfl := hw'.symm
            have tt : ∀ w' : World, Calls Try.prog 26 #[.slice (some ⟨w'.heap.size, 0, none⟩) 1 1] (w'.alloc (.cells #[.int .i64 100] 3)) (BuiltR [(0, 0)] w') := fun w' => Try.mt_lit [100] [(0, 0)] w' rfl (by decide) (by decide)
            go_wp2_with fail
            refine (tt _).mono ?_
            rintro e w28 ⟨a28, c28, rfl, hT, hb⟩
            have HT28 : Hid (TkSl w28 a28 1 c28 [(0, 0)]) := hT
            have HB_6 : Hid (Below w.heap.size w w28) := below_step HB_5.out hb
            have HL_6 : Hid (LtSl w28 (some ⟨w.heap.size, 0, none⟩) 3 3 [1, 2, 3]) := HL_5.out.up hb
            have HI_6 : Hid (IntSl Try.prog 35 .i64 w28 a22 2 c22 [2, 3]) := HI_5.out.up hb
            have HJ_6 : Hid (IntSl Try.prog 35 .i64 w28 a23 1 c23 [3]) := HJ_5.out.up hb
            clear HB_5 HL_5 HI_5 HJ_5
            clear hT hb tt
            dsimp only [List.length_cons, List.length_nil, Nat.zero_add, Nat.reduceAdd]
            have jS := HSa.out a28 1 c28 _ none 0 0 [] _ HT28.out lt_nil
            go_wp2_with fail
            refine jS.mono ?_
            rintro e w29 ⟨b6, E6, rfl, hb, hr⟩
            obtain ⟨rfl, rfl⟩ : E6 = 2 ∧ b6 = false := by
              rcases hr with ⟨_, hq, hb6⟩ | ⟨_, _, _, hq, _⟩
              · rcases hq with ⟨hq, _⟩ | ⟨_, hq, _⟩ | ⟨_, _, hq, _⟩
                · exact absurd (by kernel_rfl) hq
                · exact absurd rfl hq
                · exact ⟨hq, hb6⟩
              · exact absurd hq (by decide)
            have HB_7 : Hid (Below w.heap.size w w29) := below_step HB_6.out hb
            have HL_7 : Hid (LtSl w29 (some ⟨w.heap.size, 0, none⟩) 3 3 [1, 2, 3]) := HL_6.out.up hb
            have HI_7 : Hid (IntSl Try.prog 35 .i64 w29 a22 2 c22 [2, 3]) := HI_6.out.up hb
            have HJ_7 : Hid (IntSl Try.prog 35 .i64 w29 a23 1 c23 [3]) := HJ_6.out.up hb
            clear HB_6 HL_6 HI_6 HJ_6
            clear jS hb hr HT28
            go_wp2_with fail
            refine ((HOP.out 0 0 100 rfl rfl (by decide)) _).mono ?_
            rintro e w' ⟨rfl, hw'⟩
            obtain rfl := hw'.symm
            have tt : ∀ w' : World, Calls Try.prog 26 #[.slice (some ⟨w'.heap.size, 0, none⟩) 1 1] (w'.alloc (.cells #[.int .i64 100] 3)) (BuiltR [(0, 0)] w') := fun w' => Try.mt_lit [100] [(0, 0)] w' rfl (by decide) (by decide)
            go_wp2_with fail
            refine (tt _).mono ?_
            rintro e w30 ⟨a30, c30, rfl, hT, hb⟩
            have HT30 : Hid (TkSl w30 a30 1 c30 [(0, 0)]) := hT
            have HB_8 : Hid (Below w.heap.size w w30) := below_step HB_7.out hb
            have HL_8 : Hid (LtSl w30 (some ⟨w.heap.size, 0, none⟩) 3 3 [1, 2, 3]) := HL_7.out.up hb
            have HI_8 : Hid (IntSl Try.prog 35 .i64 w30 a22 2 c22 [2, 3]) := HI_7.out.up hb
            have HJ_8 : Hid (IntSl Try.prog 35 .i64 w30 a23 1 c23 [3]) := HJ_7.out.up hb
            clear HB_7 HL_7 HI_7 HJ_7
            clear hT hb tt
            dsimp only [List.length_cons, List.length_nil, Nat.zero_add, Nat.reduceAdd]
            have jS := HAt.out a30 1 c30 _ _ 3 3 _ 4 _ HT30.out HL_8.out
            go_wp2_with fail
            refine jS.mono ?_
            rintro e w31 ⟨b6, E6, rfl, hb, hr⟩
            obtain ⟨rfl, rfl⟩ : E6 = 2 ∧ b6 = false := by
              rcases hr with ⟨_, hq, hb6⟩ | ⟨_, _, _, _, hq, _⟩
              · rcases hq with ⟨hq, _⟩ | ⟨_, hq, _⟩ | ⟨_, _, hq, _⟩
                · exact absurd (by kernel_rfl) hq
                · exact absurd rfl hq
                · exact ⟨hq, hb6⟩
              · exact absurd hq (by decide)
            have HB_9 : Hid (Below w.heap.size w w31) := below_step HB_8.out hb
            have HL_9 : Hid (LtSl w31 (some ⟨w.heap.size, 0, none⟩) 3 3 [1, 2, 3]) := HL_8.out.up hb
            have HI_9 : Hid (IntSl Try.prog 35 .i64 w31 a22 2 c22 [2, 3]) := HI_8.out.up hb
            have HJ_9 : Hid (IntSl Try.prog 35 .i64 w31 a23 1 c23 [3]) := HJ_8.out.up hb
            clear HB_8 HL_8 HI_8 HJ_8
            clear jS hb hr HT30
            have tt : ∀ w' : World, Calls Try.prog 26 #[.slice (some ⟨w'.heap.size, 0, none⟩) 1 1] (w'.alloc (.cells #[.int .i64 0] 3)) (BuiltR [(2, 0)] w') := fun w' => Try.mt_lit [0] [(2, 0)] w' rfl (by decide) (by decide)
            go_wp2_with fail
            refine (tt _).mono ?_
            rintro e w32 ⟨a32, c32, rfl, hT, hb⟩
            have HT32 : Hid (TkSl w32 a32 1 c32 [(2, 0)]) := hT
            have HB_10 : Hid (Below w.heap.size w w32) := below_step HB_9.out hb
            have HL_10 : Hid (LtSl w32 (some ⟨w.heap.size, 0, none⟩) 3 3 [1, 2, 3]) := HL_9.out.up hb
            have HI_10 : Hid (IntSl Try.prog 35 .i64 w32 a22 2 c22 [2, 3]) := HI_9.out.up hb
            have HJ_10 : Hid (IntSl Try.prog 35 .i64 w32 a23 1 c23 [3]) := HJ_9.out.up hb
            clear HB_9 HL_9 HI_9 HJ_9
            clear hT hb tt
            dsimp only [List.length_cons, List.length_nil, Nat.zero_add, Nat.reduceAdd]
            have jS := HAll.out a32 1 c32 _ none 0 0 [] _ HT32.out lt_nil
            go_wp2_with fail
            refine jS.mono ?_
            rintro e w33 ⟨v7, E7, rfl, hb, hr⟩
            rcases hr with ⟨q7, hq7, _⟩ | ⟨rfl, _, _, bs, ho, hv⟩
            · exfalso
              rcases hq7 with ⟨hq, _⟩ | ⟨_, hq⟩
              · exact hq (by kernel_rfl)
              · exact q7 hq
            · obtain rfl : bs = [false] := kn_none hv
              obtain ⟨aN, cN, rfl, hS⟩ := own_bo ho
              have HB_11 : Hid (Below w.heap.size w w33) := below_step HB_10.out hb
              have HL_11 : Hid (LtSl w33 (some ⟨w.heap.size, 0, none⟩) 3 3 [1, 2, 3]) := HL_10.out.up hb
              have HI_11 : Hid (IntSl Try.prog 35 .i64 w33 a22 2 c22 [2, 3]) := HI_10.out.up hb
              have HJ_11 : Hid (IntSl Try.prog 35 .i64 w33 a23 1 c23 [3]) := HJ_10.out.up hb
              clear HB_10 HL_10 HI_10 HJ_10
              have HN_11 : Hid (BoSl w33 aN 1 cN [false]) := hS
              dsimp only [List.length_cons, List.length_nil, Nat.zero_add, Nat.reduceAdd]
              clear jS hb ho hv hS HT32 HL_11
              go_wp2_with fail
              refine (HAw.out _).mono ?_
              rintro e w34 ⟨rfl, hb⟩
              have HB_12 : Hid (Below w.heap.size w w34) := below_step HB_11.out hb
              have HI_12 : Hid (IntSl Try.prog 35 .i64 w34 a22 2 c22 [2, 3]) := HI_11.out.up hb
              have HJ_12 : Hid (IntSl Try.prog 35 .i64 w34 a23 1 c23 [3]) := HJ_11.out.up hb
              have HN_12 : Hid (BoSl w34 aN 1 cN [false]) := HN_11.out.up hb
              clear HB_11 HI_11 HJ_11 HN_11
              clear hb
              have hn := below_new w34 (.cells #[.int .i64 2, .int .i64 3] 3)
              have hil : IntSl Try.prog 35 .i64 (w34.alloc (.cells #[.int .i64 2, .int .i64 3] 3)) (some ⟨w34.heap.size, 0, none⟩) 2 2 [2, 3] := Try.int_lit [2, 3] w34 (by decide)
              have jS := Try.sameI_any _ _ _ _ _ _ _ _ _ (HI_12.out.up hn) hil
              go_wp2_with fail
              refine jS.mono ?_
              rintro e w35 ⟨he, n6, hw6⟩
              obtain rfl : e = .returned (.bool true) := by simpa using he
              have hb : Below w34.heap.size w34 w35 := by rw [hw6]; exact below_drewN hn n6
              have HB_13 : Hid (Below w.heap.size w w35) := below_step HB_12.out hb
              have HI_13 : Hid (IntSl Try.prog 35 .i64 w35 a22 2 c22 [2, 3]) := HI_12.out.up hb
              have HJ_13 : Hid (IntSl Try.prog 35 .i64 w35 a23 1 c23 [3]) := HJ_12.out.up hb
              have HN_13 : Hid (BoSl w35 aN 1 cN [false]) := HN_12.out.up hb
              clear HB_12 HI_12 HJ_12 HN_12
              clear hb hn hil jS he hw6
              clear HI_13
              have hn := below_new w35 (.cells #[.int .i64 3] 3)
              have hil : IntSl Try.prog 35 .i64 (w35.alloc (.cells #[.int .i64 3] 3)) (some ⟨w35.heap.size, 0, none⟩) 1 1 [3] := Try.int_lit [3] w35 (by decide)
              have jS := Try.sameI_any _ _ _ _ _ _ _ _ _ (HJ_13.out.up hn) hil
              go_wp2_with fail
              refine jS.mono ?_
              rintro e w36 ⟨he, n6, hw6⟩
              obtain rfl : e = .returned (.bool true) := by simpa using he
              have hb : Below w35.heap.size w35 w36 := by rw [hw6]; exact below_drewN hn n6
              have HB_14 : Hid (Below w.heap.size w w36) := below_step HB_13.out hb
              have HJ_14 : Hid (IntSl Try.prog 35 .i64 w36 a23 1 c23 [3]) := HJ_13.out.up hb
              have HN_14 : Hid (BoSl w36 aN 1 cN [false]) := HN_13.out.up hb
              clear HB_13 HJ_13 HN_13
              clear hb hn hil jS he hw6
              clear HJ_14
              have hn := below_new w36 (.cells #[.bool false] 4)
              have hbl : BoSl (w36.alloc (.cells #[.bool false] 4)) (some ⟨w36.heap.size, 0, none⟩) 1 1 [false] := bo_lit [false] w36 (by decide)
              have jS := Try.sameB_any _ _ _ _ _ _ _ _ _ (HN_14.out.up hn) hbl
              rw [decide_eq_true rfl] at jS
              go_wp2_with fail
              refine jS.mono ?_
              rintro e w37 ⟨rfl, hb⟩
              have HBF : Hid (Below w.heap.size w w37) := below_step (below_step HB_14.out hn) hb
              clear jS hb hn hbl
              go_wp2
              go_ret
              exact ⟨rfl, HBF.out⟩
end Go.Proofs.Ytfojlondflachaa
