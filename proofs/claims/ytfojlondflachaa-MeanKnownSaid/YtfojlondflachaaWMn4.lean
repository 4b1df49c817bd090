/- Stage 7's laws over the contracts of package mean (handed in): awake. -/
import Derived.Test.YtfojlondflachaaWMn3
import Derived.Test.YtfojlondflachaaMnM
namespace Go.Proofs.Ytfojlondflachaa
open Go.RowKit Go.Maps

theorem bo_lit (bs : List Bool) (w : World) (hl : bs.length ≤ 100) : BoSl (w.alloc (.cells (bs.map Value.bool).toArray 4)) (some ⟨w.heap.size, 0, none⟩) bs.length bs.length bs := by
  have hr := (MapKept.heap_alloc w (.cells (bs.map Value.bool).toArray 4)).1
  refine ⟨rfl, Nat.le_refl _, by unfold maxLen; omega, (fun h => by cases h), fun x hx k hk => ?_⟩
  injection hx with hx; subst hx
  rw [add_plain, Nat.zero_add, cell_row hr k]
  simp [hk]
theorem ints_sl {w : World} {base n : Nat} {v : Value} {zs : List Int} (h : w.ownsRow base 3 1 v n (zs.map (Value.int .i64))) : ∃ a cap, v = .slice a n cap ∧ IntSl Try.prog 35 .i64 w a n cap zs := by
  obtain ⟨a, cap, h1, h2, _⟩ := ownI_sl h Try.underlying35 Try.sizeInt
  exact ⟨a, cap, h1, h2⟩
set_option maxRecDepth 100000 in
set_option maxHeartbeats 2000000 in
theorem Try.mawake_any (hAll : AllC 11) (hEnds : EndsC 18) (w : World) : Calls Try.prog 24 #[] w fun e w' => e = .returned (.bool true) ∧ Below w.heap.size w w' := by
  have hop : ∀ (op : Nat) (z y : Int), z = (op : Int) → y = 100 + (op : Int) → op < 256 → ∀ w', Calls Try.prog 27 #[.int .u8 z] w' fun e w'' => e = .returned (.int .i64 y) ∧ w'' = w' := fun op z y hz hy ho w' => by rw [hz, hy]; exact Try.mop_any op w' ho
  have o15 := hop 15 15 115 rfl rfl (by decide)
  have o19 := hop 19 19 119 rfl rfl (by decide)
  have o23 := hop 23 23 123 rfl rfl (by decide)
  have t1 : ∀ w' : World, Calls Try.prog 26 #[.slice (some ⟨w'.heap.size, 0, none⟩) 3 3] (w'.alloc (.cells #[.int .i64 0, .int .i64 1, .int .i64 115] 3)) (BuiltR [(2, 0), (2, 1), (15, 0)] w') := fun w' => Try.mt_lit [0, 1, 115] [(2, 0), (2, 1), (15, 0)] w' rfl (by decide) (by decide)
  have t2 : ∀ w' : World, Calls Try.prog 26 #[.slice (some ⟨w'.heap.size, 0, none⟩) 3 3] (w'.alloc (.cells #[.int .i64 0, .int .i64 119, .int .i64 123] 3)) (BuiltR [(2, 0), (19, 0), (23, 0)] w') := fun w' => Try.mt_lit [0, 119, 123] [(2, 0), (19, 0), (23, 0)] w' rfl (by decide) (by decide)
  have l1 : ∀ w' : World, LtSl (w'.alloc (.cells #[.int .u8 1, .int .u8 2, .int .u8 3] 54)) (some ⟨w'.heap.size, 0, none⟩) 3 3 [1, 2, 3] := fun w' => Try.lt_lit [1, 2, 3] w' (by decide) (by decide)
  have HAll : Hid (AllC 11) := hAll
  have HEn : Hid (EndsC 18) := hEnds
  have lk1 : lookE [(2, 0), (2, 1), (15, 0)] 1 = 0 := by kernel_rfl
  have lk3 : lookE [(2, 0), (19, 0), (23, 0)] 3 = 0 := by kernel_rfl
  have HL1 : Hid (lookE [(2, 0), (2, 1), (15, 0)] 1 = 0) := lk1
  have HL3 : Hid (lookE [(2, 0), (19, 0), (23, 0)] 3 = 0) := lk3
  clear hAll hEnds hop lk1 lk3
  go_enter Try.func24, Try.ntmps24
  go_wp2_with fail
  refine (o15 _).mono ?_
  rintro e w' ⟨rfl, hw'⟩
  obtain rfl := hw'.symm
  go_wp2_with fail
  refine (t1 _).mono ?_
  rintro e w1 ⟨a1, c1, rfl, hT1, hb1⟩
  have hn1 := below_new w1 (.cells #[.int .u8 1, .int .u8 2, .int .u8 3] 54)
  have j1 := HAll.out a1 3 c1 _ _ 3 3 _ _ (hT1.up hn1) (l1 w1)
  have HB1 : Hid (Below w.heap.size w (w1.alloc (.cells #[.int .u8 1, .int .u8 2, .int .u8 3] 54))) := below_step hb1 hn1
  clear hT1 hb1 hn1 t1
  dsimp only [List.length_cons, List.length_nil]
  go_wp2_with fail
  refine j1.mono ?_
  rintro e w2 ⟨v2, E2, rfl, hb2, hr2⟩
  have HB2 : Hid (Below w.heap.size w w2) := below_step HB1.out hb2
  rcases hr2 with ⟨q2, hq2, _⟩ | ⟨rfl, _, _, bs, ho2, hv2⟩
  · exfalso
    rcases hq2 with ⟨hq, _⟩ | ⟨_, hq⟩
    · exact hq HL1.out
    · exact q2 hq
  · have hbs : bs = [true, true, true, false] := aw_until hv2
    subst hbs
    obtain ⟨a2, c2, rfl, hS2⟩ := own_bo ho2
    have HS2 : Hid (BoSl w2 a2 4 c2 [true, true, true, false]) := hS2
    dsimp only [List.length_cons, List.length_nil]
    clear j1 hb2 ho2 hv2 hS2 HB1
    go_wp2_with fail
    refine (o19 _).mono ?_
    rintro e w' ⟨rfl, hw'⟩
    obtain rfl := hw'.symm
    go_wp2_with fail
    refine (o23 _).mono ?_
    rintro e w' ⟨rfl, hw'⟩
    obtain rfl := hw'.symm
    go_wp2_with fail
    refine (t2 _).mono ?_
    rintro e w3 ⟨a3, c3, rfl, hT3, hb3⟩
    have hn3 := below_new w3 (.cells #[.int .u8 1, .int .u8 2, .int .u8 3] 54)
    have j3 := HEn.out a3 3 c3 _ _ 3 3 _ 0 _ (hT3.up hn3) (l1 w3)
    have HX3 : Hid (Below w2.heap.size w2 (w3.alloc (.cells #[.int .u8 1, .int .u8 2, .int .u8 3] 54))) := below_step hb3 hn3
    clear hT3 hb3 hn3 t2 o15 o19 o23
    dsimp only [List.length_cons, List.length_nil]
    go_wp2_with fail
    refine j3.mono ?_
    rintro e w4 ⟨v4, E4, rfl, hb4, hr4⟩
    have HX4 : Hid (Below w2.heap.size w2 w4) := below_step HX3.out hb4
    rcases hr4 with ⟨q4, hq4, _⟩ | ⟨rfl, _, _, _, _, es, ho4, hv4⟩
    · exfalso
      rcases hq4 with ⟨hq, _⟩ | ⟨_, hq, _⟩ | ⟨_, _, _, hq⟩
      · exact hq HL3.out
      · exact hq rfl
      · rcases hq with hq | hq
        · exact absurd hq (by decide)
        · exact absurd hq (by decide)
    · have hes : es = [0, 1] := sorted_ext hv4.1 (by decide) fun k => by
        have hh := hv4.2 _ cl_star k
        rw [hh, star_is]
        show k ≤ 3 ∧ (∃ m, stepsP way3 m 0 k) ↔ _
        rw [steps0]
        simp; omega
      subst hes
      obtain ⟨a4, c4, rfl, hS4⟩ := ints_sl ho4
      have HS4 : Hid (IntSl Try.prog 35 .i64 w4 a4 2 c4 [0, 1]) := hS4
      have hn4 := below_new w4 (.cells #[.bool true, .bool true, .bool true, .bool false] 4)
      have hbl : BoSl (w4.alloc (.cells #[.bool true, .bool true, .bool true, .bool false] 4)) (some ⟨w4.heap.size, 0, none⟩) 4 4 [true, true, true, false] := bo_lit [true, true, true, false] w4 (by decide)
      have j4 := Try.sameB_any _ _ _ _ _ _ _ _ _ ((HS2.out.up HX4.out).up hn4) hbl
      rw [decide_eq_true rfl] at j4
      have HX5 : Hid (Below w4.heap.size w4 (w4.alloc (.cells #[.bool true, .bool true, .bool true, .bool false] 4))) := hn4
      dsimp only [List.length_cons, List.length_nil]
      clear j3 hb4 ho4 hv4 hS4 hbl hn4
      go_wp2_with fail
      refine j4.mono ?_
      rintro e w5 ⟨rfl, hb5⟩
      have HX6 : Hid (Below w4.heap.size w4 w5) := below_step HX5.out hb5
      have hn5 := below_new w5 (.cells #[.int .i64 0, .int .i64 1] 3)
      have hil : IntSl Try.prog 35 .i64 (w5.alloc (.cells #[.int .i64 0, .int .i64 1] 3)) (some ⟨w5.heap.size, 0, none⟩) 2 2 [0, 1] := Try.int_lit [0, 1] w5 (by decide)
      have j5 := Try.sameI_any _ _ _ _ _ _ _ _ _ ((HS4.out.up HX6.out).up hn5) hil
      have HB5 : Hid (Below w.heap.size w (w5.alloc (.cells #[.int .i64 0, .int .i64 1] 3))) := below_step (below_step (below_step HB2.out HX4.out) HX6.out) hn5
      clear j4 hb5 hn5 hil
      go_wp2_with fail
      refine j5.mono ?_
      rintro e w6 ⟨he, n6, rfl⟩
      obtain rfl : e = .returned (.bool true) := by simpa using he
      clear he
      have HB6 : Hid (Below w.heap.size w ((w5.alloc (.cells #[.int .i64 0, .int .i64 1] 3)).drewN n6)) := below_drewN HB5.out n6
      clear j5
      go_wp2
      go_ret
      exact ⟨rfl, HB6.out⟩
end Go.Proofs.Ytfojlondflachaa
