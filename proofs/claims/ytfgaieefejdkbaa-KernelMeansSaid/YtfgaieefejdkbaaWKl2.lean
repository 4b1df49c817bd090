/- Stage 8's laws over the contracts of package kernel: awake. Written by mkker.py. -/
import Derived.Test.YtfgaieefejdkbaaWKl1
import Derived.Test.YtfgaieefejdkbaaWTs
namespace Go.Proofs.Ytfgaieefejdkbaa
open Go.RowKit Go.Maps

theorem kn_dia : chkE [(2, 0), (19, 0), (2, 1), (17, 0)] = 0 := chk_zero.2 ⟨by decide, .bin (17, 0) (.un (19, 0) (.leaf (2, 0))) (.leaf (2, 1)), ⟨rfl, rfl, ⟨rfl, rfl, rfl, rfl⟩, rfl, rfl⟩, rfl, rfl, rfl⟩
theorem kn_dia2 : negE [(2, 0), (19, 0), (2, 1), (17, 0)] = 0 := by unfold negE; rw [kn_dia]; decide
theorem kn_dia3 : negL [(2, 0), (19, 0), (2, 1), (17, 0)] = [(2, 0), (19, 0), (2, 1), (6, 0), (18, 0)] := by unfold negL; rw [if_pos kn_dia2]; decide
set_option maxRecDepth 100000 in
set_option maxHeartbeats 4000000 in
theorem Try.kawake_any (hOf : OfC 10) (hNeg : NegC 12) (w : World) : Calls Try.prog 22 #[] w fun e w' => e = .returned (.bool true) ∧ Below w.heap.size w w' := by
  have hop : ∀ (op : Nat) (z y : Int), z = (op : Int) → y = 100 + (op : Int) → op < 256 → ∀ w', Calls Try.prog 26 #[.int .u8 z] w' fun e w'' => e = .returned (.int .i64 y) ∧ w'' = w' := fun op z y hz hy ho w' => by rw [hz, hy]; exact Try.kop_any op w' ho
  have HOP : Hid _ := hop
  clear hop
  have HOf : Hid (OfC 10) := hOf
  have HNeg : Hid (NegC 12) := hNeg
  clear hOf hNeg
  have HB_0 : Hid (Below w.heap.size w w) := Below.refl _ _
  go_enter Try.func22, Try.ntmps22
  go_wp2_with fail
  refine ((HOP.out 14 14 114 rfl rfl (by decide)) _).mono ?_
  rintro e w' ⟨rfl, hw'⟩
  obtain rfl := hw'.symm
  have tt := fun w' => Try.kt_lit [0, 1, 114] [(2, 0), (2, 1), (14, 0)] w' rfl (by decide) (by decide)
  dsimp only [List.map_cons, List.map_nil, List.length_cons, List.length_nil, Nat.zero_add, Nat.reduceAdd] at tt
  go_wp2_with fail
  refine (tt _).mono ?_
  rintro e x1 ⟨a1, c1, rfl, ho, hT, hb⟩
  have HB_1 : Hid (Below w.heap.size w x1) := below_step HB_0.out hb
  clear HB_0
  have Tk1_1 : Hid (TkSl x1 a1 3 c1 [(2, 0), (2, 1), (14, 0)]) := hT
  clear hT hb tt ho
  have jO := HOf.out a1 3 c1 [(2, 0), (2, 1), (14, 0)] _ Tk1_1.out
  unfold OfR at jO
  rw [show ofE [(2, 0), (2, 1), (14, 0)] = 0 from (by kernel_rfl), show ofL [(2, 0), (2, 1), (14, 0)] = [(2, 0), (2, 1), (11, 0), (2, 0), (6, 0), (2, 1), (6, 0), (11, 0), (12, 0)] from (by kernel_rfl)] at jO
  dsimp only [List.length_cons, List.length_nil, Nat.zero_add, Nat.reduceAdd] at jO
  go_wp2_with fail
  refine jO.mono ?_
  rintro e x2 ⟨a2, c2, rfl, hT, hb⟩
  have HB_2 : Hid (Below w.heap.size w x2) := below_step HB_1.out hb
  have Tk1_2 : Hid (TkSl x2 a1 3 c1 [(2, 0), (2, 1), (14, 0)]) := Tk1_1.out.up hb
  clear HB_1 Tk1_1
  have Tk2_2 : Hid (TkSl x2 a2 9 c2 [(2, 0), (2, 1), (11, 0), (2, 0), (6, 0), (2, 1), (6, 0), (11, 0), (12, 0)]) := hT
  clear hT hb jO
  clear Tk1_2
  go_wp2_with fail
  refine ((HOP.out 9 9 109 rfl rfl (by decide)) _).mono ?_
  rintro e w' ⟨rfl, hw'⟩
  obtain rfl := hw'.symm
  go_wp2_with fail
  refine ((HOP.out 6 6 106 rfl rfl (by decide)) _).mono ?_
  rintro e w' ⟨rfl, hw'⟩
  obtain rfl := hw'.symm
  have tt := fun w' => Try.kt_lit [0, 109, 106] [(2, 0), (9, 0), (6, 0)] w' rfl (by decide) (by decide)
  dsimp only [List.map_cons, List.map_nil, List.length_cons, List.length_nil, Nat.zero_add, Nat.reduceAdd] at tt
  go_wp2_with fail
  refine (tt _).mono ?_
  rintro e x3 ⟨a3, c3, rfl, ho, hT, hb⟩
  have HB_3 : Hid (Below w.heap.size w x3) := below_step HB_2.out hb
  have Tk2_3 : Hid (TkSl x3 a2 9 c2 [(2, 0), (2, 1), (11, 0), (2, 0), (6, 0), (2, 1), (6, 0), (11, 0), (12, 0)]) := Tk2_2.out.up hb
  clear HB_2 Tk2_2
  have Tk3_3 : Hid (TkSl x3 a3 3 c3 [(2, 0), (9, 0), (6, 0)]) := hT
  clear hT hb tt ho
  have jO := HOf.out a3 3 c3 [(2, 0), (9, 0), (6, 0)] _ Tk3_3.out
  unfold OfR at jO
  rw [show ofE [(2, 0), (9, 0), (6, 0)] = 0 from (by kernel_rfl), show ofL [(2, 0), (9, 0), (6, 0)] = [(1, 0), (2, 0), (6, 0), (16, 0)] from (by kernel_rfl)] at jO
  dsimp only [List.length_cons, List.length_nil, Nat.zero_add, Nat.reduceAdd] at jO
  go_wp2_with fail
  refine jO.mono ?_
  rintro e x4 ⟨a4, c4, rfl, hT, hb⟩
  have HB_4 : Hid (Below w.heap.size w x4) := below_step HB_3.out hb
  have Tk2_4 : Hid (TkSl x4 a2 9 c2 [(2, 0), (2, 1), (11, 0), (2, 0), (6, 0), (2, 1), (6, 0), (11, 0), (12, 0)]) := Tk2_3.out.up hb
  have Tk3_4 : Hid (TkSl x4 a3 3 c3 [(2, 0), (9, 0), (6, 0)]) := Tk3_3.out.up hb
  clear HB_3 Tk2_3 Tk3_3
  have Tk4_4 : Hid (TkSl x4 a4 4 c4 [(1, 0), (2, 0), (6, 0), (16, 0)]) := hT
  clear hT hb jO
  clear Tk3_4
  go_wp2_with fail
  refine ((HOP.out 19 19 119 rfl rfl (by decide)) _).mono ?_
  rintro e w' ⟨rfl, hw'⟩
  obtain rfl := hw'.symm
  go_wp2_with fail
  refine ((HOP.out 17 17 117 rfl rfl (by decide)) _).mono ?_
  rintro e w' ⟨rfl, hw'⟩
  obtain rfl := hw'.symm
  have tt := fun w' => Try.kt_lit [0, 119, 1, 117] [(2, 0), (19, 0), (2, 1), (17, 0)] w' rfl (by decide) (by decide)
  dsimp only [List.map_cons, List.map_nil, List.length_cons, List.length_nil, Nat.zero_add, Nat.reduceAdd] at tt
  go_wp2_with fail
  refine (tt _).mono ?_
  rintro e x5 ⟨a5, c5, rfl, ho, hT, hb⟩
  have HB_5 : Hid (Below w.heap.size w x5) := below_step HB_4.out hb
  have Tk2_5 : Hid (TkSl x5 a2 9 c2 [(2, 0), (2, 1), (11, 0), (2, 0), (6, 0), (2, 1), (6, 0), (11, 0), (12, 0)]) := Tk2_4.out.up hb
  have Tk4_5 : Hid (TkSl x5 a4 4 c4 [(1, 0), (2, 0), (6, 0), (16, 0)]) := Tk4_4.out.up hb
  clear HB_4 Tk2_4 Tk4_4
  have Tk5_5 : Hid (TkSl x5 a5 4 c5 [(2, 0), (19, 0), (2, 1), (17, 0)]) := hT
  clear hT hb tt ho
  have jO := HNeg.out a5 4 c5 [(2, 0), (19, 0), (2, 1), (17, 0)] _ Tk5_5.out
  unfold NegR at jO
  rw [show negE [(2, 0), (19, 0), (2, 1), (17, 0)] = 0 from kn_dia2, show negL [(2, 0), (19, 0), (2, 1), (17, 0)] = [(2, 0), (19, 0), (2, 1), (6, 0), (18, 0)] from kn_dia3] at jO
  dsimp only [List.length_cons, List.length_nil, Nat.zero_add, Nat.reduceAdd] at jO
  go_wp2_with fail
  refine jO.mono ?_
  rintro e x6 ⟨a6, c6, rfl, hT, hb⟩
  have HB_6 : Hid (Below w.heap.size w x6) := below_step HB_5.out hb
  have Tk2_6 : Hid (TkSl x6 a2 9 c2 [(2, 0), (2, 1), (11, 0), (2, 0), (6, 0), (2, 1), (6, 0), (11, 0), (12, 0)]) := Tk2_5.out.up hb
  have Tk4_6 : Hid (TkSl x6 a4 4 c4 [(1, 0), (2, 0), (6, 0), (16, 0)]) := Tk4_5.out.up hb
  have Tk5_6 : Hid (TkSl x6 a5 4 c5 [(2, 0), (19, 0), (2, 1), (17, 0)]) := Tk5_5.out.up hb
  clear HB_5 Tk2_5 Tk4_5 Tk5_5
  have Tk6_6 : Hid (TkSl x6 a6 5 c6 [(2, 0), (19, 0), (2, 1), (6, 0), (18, 0)]) := hT
  clear hT hb jO
  clear Tk5_6
  go_wp2_with fail
  refine ((HOP.out 11 11 111 rfl rfl (by decide)) _).mono ?_
  rintro e w' ⟨rfl, hw'⟩
  obtain rfl := hw'.symm
  go_wp2_with fail
  refine ((HOP.out 6 6 106 rfl rfl (by decide)) _).mono ?_
  rintro e w' ⟨rfl, hw'⟩
  obtain rfl := hw'.symm
  go_wp2_with fail
  refine ((HOP.out 6 6 106 rfl rfl (by decide)) _).mono ?_
  rintro e w' ⟨rfl, hw'⟩
  obtain rfl := hw'.symm
  go_wp2_with fail
  refine ((HOP.out 11 11 111 rfl rfl (by decide)) _).mono ?_
  rintro e w' ⟨rfl, hw'⟩
  obtain rfl := hw'.symm
  go_wp2_with fail
  refine ((HOP.out 12 12 112 rfl rfl (by decide)) _).mono ?_
  rintro e w' ⟨rfl, hw'⟩
  obtain rfl := hw'.symm
  have tt := fun w' => Try.kt_lit [0, 1, 111, 0, 106, 1, 106, 111, 112] [(2, 0), (2, 1), (11, 0), (2, 0), (6, 0), (2, 1), (6, 0), (11, 0), (12, 0)] w' rfl (by decide) (by decide)
  dsimp only [List.map_cons, List.map_nil, List.length_cons, List.length_nil, Nat.zero_add, Nat.reduceAdd] at tt
  go_wp2_with fail
  refine (tt _).mono ?_
  rintro e x7 ⟨a7, c7, rfl, ho, hT, hb⟩
  have HB_7 : Hid (Below w.heap.size w x7) := below_step HB_6.out hb
  have Tk2_7 : Hid (TkSl x7 a2 9 c2 [(2, 0), (2, 1), (11, 0), (2, 0), (6, 0), (2, 1), (6, 0), (11, 0), (12, 0)]) := Tk2_6.out.up hb
  have Tk4_7 : Hid (TkSl x7 a4 4 c4 [(1, 0), (2, 0), (6, 0), (16, 0)]) := Tk4_6.out.up hb
  have Tk6_7 : Hid (TkSl x7 a6 5 c6 [(2, 0), (19, 0), (2, 1), (6, 0), (18, 0)]) := Tk6_6.out.up hb
  clear HB_6 Tk2_6 Tk4_6 Tk6_6
  have Tk7_7 : Hid (TkSl x7 a7 9 c7 [(2, 0), (2, 1), (11, 0), (2, 0), (6, 0), (2, 1), (6, 0), (11, 0), (12, 0)]) := hT
  clear hT hb tt ho
  have jS := Try.sameT_any _ _ _ _ _ _ _ _ _ Tk2_7.out Tk7_7.out
  go_wp2_with fail
  refine jS.mono ?_
  rintro e x8 ⟨he, hb0⟩
  obtain rfl : e = .returned (.bool true) := by simpa using he
  have hb : Below x7.heap.size x7 x8 := by first | exact hb0 | (obtain ⟨n6, hw6⟩ := hb0; rw [hw6]; exact below_drewN (Below.refl _ _) n6)
  have HB_8 : Hid (Below w.heap.size w x8) := below_step HB_7.out hb
  have Tk2_8 : Hid (TkSl x8 a2 9 c2 [(2, 0), (2, 1), (11, 0), (2, 0), (6, 0), (2, 1), (6, 0), (11, 0), (12, 0)]) := Tk2_7.out.up hb
  have Tk4_8 : Hid (TkSl x8 a4 4 c4 [(1, 0), (2, 0), (6, 0), (16, 0)]) := Tk4_7.out.up hb
  have Tk6_8 : Hid (TkSl x8 a6 5 c6 [(2, 0), (19, 0), (2, 1), (6, 0), (18, 0)]) := Tk6_7.out.up hb
  have Tk7_8 : Hid (TkSl x8 a7 9 c7 [(2, 0), (2, 1), (11, 0), (2, 0), (6, 0), (2, 1), (6, 0), (11, 0), (12, 0)]) := Tk7_7.out.up hb
  clear HB_7 Tk2_7 Tk4_7 Tk6_7 Tk7_7
  clear hb hb0 jS he
  clear Tk2_8 Tk7_8
  go_wp2_with fail
  refine ((HOP.out 1 1 101 rfl rfl (by decide)) _).mono ?_
  rintro e w' ⟨rfl, hw'⟩
  obtain rfl := hw'.symm
  go_wp2_with fail
  refine ((HOP.out 6 6 106 rfl rfl (by decide)) _).mono ?_
  rintro e w' ⟨rfl, hw'⟩
  obtain rfl := hw'.symm
  go_wp2_with fail
  refine ((HOP.out 16 16 116 rfl rfl (by decide)) _).mono ?_
  rintro e w' ⟨rfl, hw'⟩
  obtain rfl := hw'.symm
  have tt := fun w' => Try.kt_lit [101, 0, 106, 116] [(1, 0), (2, 0), (6, 0), (16, 0)] w' rfl (by decide) (by decide)
  dsimp only [List.map_cons, List.map_nil, List.length_cons, List.length_nil, Nat.zero_add, Nat.reduceAdd] at tt
  go_wp2_with fail
  refine (tt _).mono ?_
  rintro e x9 ⟨a9, c9, rfl, ho, hT, hb⟩
  have HB_9 : Hid (Below w.heap.size w x9) := below_step HB_8.out hb
  have Tk4_9 : Hid (TkSl x9 a4 4 c4 [(1, 0), (2, 0), (6, 0), (16, 0)]) := Tk4_8.out.up hb
  have Tk6_9 : Hid (TkSl x9 a6 5 c6 [(2, 0), (19, 0), (2, 1), (6, 0), (18, 0)]) := Tk6_8.out.up hb
  clear HB_8 Tk4_8 Tk6_8
  have Tk9_9 : Hid (TkSl x9 a9 4 c9 [(1, 0), (2, 0), (6, 0), (16, 0)]) := hT
  clear hT hb tt ho
  have jS := Try.sameT_any _ _ _ _ _ _ _ _ _ Tk4_9.out Tk9_9.out
  go_wp2_with fail
  refine jS.mono ?_
  rintro e x10 ⟨he, hb0⟩
  obtain rfl : e = .returned (.bool true) := by simpa using he
  have hb : Below x9.heap.size x9 x10 := by first | exact hb0 | (obtain ⟨n6, hw6⟩ := hb0; rw [hw6]; exact below_drewN (Below.refl _ _) n6)
  have HB_10 : Hid (Below w.heap.size w x10) := below_step HB_9.out hb
  have Tk4_10 : Hid (TkSl x10 a4 4 c4 [(1, 0), (2, 0), (6, 0), (16, 0)]) := Tk4_9.out.up hb
  have Tk6_10 : Hid (TkSl x10 a6 5 c6 [(2, 0), (19, 0), (2, 1), (6, 0), (18, 0)]) := Tk6_9.out.up hb
  have Tk9_10 : Hid (TkSl x10 a9 4 c9 [(1, 0), (2, 0), (6, 0), (16, 0)]) := Tk9_9.out.up hb
  clear HB_9 Tk4_9 Tk6_9 Tk9_9
  clear hb hb0 jS he
  clear Tk4_10 Tk9_10
  go_wp2_with fail
  refine ((HOP.out 19 19 119 rfl rfl (by decide)) _).mono ?_
  rintro e w' ⟨rfl, hw'⟩
  obtain rfl := hw'.symm
  go_wp2_with fail
  refine ((HOP.out 6 6 106 rfl rfl (by decide)) _).mono ?_
  rintro e w' ⟨rfl, hw'⟩
  obtain rfl := hw'.symm
  go_wp2_with fail
  refine ((HOP.out 18 18 118 rfl rfl (by decide)) _).mono ?_
  rintro e w' ⟨rfl, hw'⟩
  obtain rfl := hw'.symm
  have tt := fun w' => Try.kt_lit [0, 119, 1, 106, 118] [(2, 0), (19, 0), (2, 1), (6, 0), (18, 0)] w' rfl (by decide) (by decide)
  dsimp only [List.map_cons, List.map_nil, List.length_cons, List.length_nil, Nat.zero_add, Nat.reduceAdd] at tt
  go_wp2_with fail
  refine (tt _).mono ?_
  rintro e x11 ⟨a11, c11, rfl, ho, hT, hb⟩
  have HB_11 : Hid (Below w.heap.size w x11) := below_step HB_10.out hb
  have Tk6_11 : Hid (TkSl x11 a6 5 c6 [(2, 0), (19, 0), (2, 1), (6, 0), (18, 0)]) := Tk6_10.out.up hb
  clear HB_10 Tk6_10
  have Tk11_11 : Hid (TkSl x11 a11 5 c11 [(2, 0), (19, 0), (2, 1), (6, 0), (18, 0)]) := hT
  clear hT hb tt ho
  have jS := Try.sameT_any _ _ _ _ _ _ _ _ _ Tk6_11.out Tk11_11.out
  go_wp2_with fail
  refine jS.mono ?_
  rintro e x12 ⟨he, hb0⟩
  obtain rfl : e = .returned (.bool true) := by simpa using he
  have hb : Below x11.heap.size x11 x12 := by first | exact hb0 | (obtain ⟨n6, hw6⟩ := hb0; rw [hw6]; exact below_drewN (Below.refl _ _) n6)
  have HB_12 : Hid (Below w.heap.size w x12) := below_step HB_11.out hb
  have Tk6_12 : Hid (TkSl x12 a6 5 c6 [(2, 0), (19, 0), (2, 1), (6, 0), (18, 0)]) := Tk6_11.out.up hb
  have Tk11_12 : Hid (TkSl x12 a11 5 c11 [(2, 0), (19, 0), (2, 1), (6, 0), (18, 0)]) := Tk11_11.out.up hb
  clear HB_11 Tk6_11 Tk11_11
  clear hb hb0 jS he
  clear Tk6_12 Tk11_12
  go_wp2
  go_ret
  exact ⟨rfl, HB_12.out⟩
end Go.Proofs.Ytfgaieefejdkbaa
