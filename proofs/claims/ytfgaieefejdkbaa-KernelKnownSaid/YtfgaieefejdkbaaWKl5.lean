/- Stage 8's closed law KernelKnown over the contracts of package kernel. Written by mkker.py. -/
import Derived.Test.YtfgaieefejdkbaaWKl4
import Derived.OwnWalk
namespace Go.Proofs.Ytfgaieefejdkbaa
open Go.RowKit Go.Maps

theorem own_slK {w : World} {base e size n : Nat} {v : Value} {xs : List Value} (h : w.ownsRow base e size v n xs) : ∃ a cap, v = .slice a n cap := by
  rcases h.2 with ⟨rfl, rfl⟩ | ⟨g, cap, cur, rfl, _⟩
  · exact ⟨none, 0, rfl⟩
  · exact ⟨_, cap, rfl⟩
theorem TkSl.pre {w : World} {a : Option Addr} {len cap : Nat} {ts : List Tk} (h : TkSl w a len cap ts) {hi : Nat} (hh : hi ≤ len) : TkSl w a hi cap (ts.take hi) := by
  have hlen := h.hlen
  have hcap := h.hcap
  refine ⟨by simp; omega, by omega, h.bd, h.nn, fun x hx k hk => ?_, fun x hx k hk => ?_, fun t ht => h.ok t (List.mem_of_mem_take ht)⟩
  · have := h.c0 x hx k (by simp at hk; omega)
    simpa using this
  · have := h.c1 x hx k (by simp at hk; omega)
    simpa using this
theorem Try.slTok (x : Addr) (n cap k : Nat) (hk : k ≤ n) (hn : n ≤ cap) (w : World) : (Instr.sliceAt 22 (.slice (some x) n cap) none (some (.int .i64 (k : Int))) none).run Try.prog w = .ok (.slice (some x) k cap) w := by
  have hmc : k ≤ cap := by omega
  simp [Instr.sliceAt, Instr.slice, run_underlying Try.underlying22, sizeOf_run2 Try.sizeTok, go_sem, hmc]

set_option maxRecDepth 100000 in
theorem Try.makeTk (n : Nat) (hn : n ≤ 100000) (w : World) : ∃ o, (Instr.makeSlice 22 (.int .i64 (n : Int)) (.int .i64 (n : Int))).run Try.prog w = .ok (.slice (some ⟨w.heap.size, 0, none⟩) n n) (w.alloc o) ∧ TkSl (w.alloc o) (some ⟨w.heap.size, 0, none⟩) n n (List.replicate n (0, 0)) := by
  obtain ⟨i, hi, hz0, hz1, hz2⟩ := info_parts Try.infoTok
  have := run_make (P := Try.prog) w 22 37 i (.agg #[.int .u8 0, .int .u8 0]) Try.underlying22 hi hz0 .i64 .i64 (n : Int) (n : Int) (by omega) (by omega) (by rw [hz2]; omega) (by omega)
  rw [hz1, Int.toNat_natCast] at this
  refine ⟨_, this, ?_⟩
  have hr := (MapKept.heap_alloc w (.cells (madeCells (Value.agg #[.int .u8 0, .int .u8 0]).cells (n * 2)) 37)).1
  have hc : ∀ j, j < n * 2 → (madeCells (Value.agg #[.int .u8 0, .int .u8 0]).cells (n * 2))[j]? = some (.int .u8 0) := fun j hj => by
    have e : (Value.agg #[.int .u8 0, .int .u8 0]).cells = #[.int .u8 0, .int .u8 0] := rfl
    rw [e]
    have hm : j % 2 = 0 ∨ j % 2 = 1 := by omega
    rcases hm with hm | hm <;> simp [madeCells, hj, hm]
  refine ⟨List.length_replicate .., Nat.le_refl _, by unfold maxLen; omega, (fun h => by cases h), fun x hx k hk => ?_, fun x hx k hk => ?_, fun t ht => by rw [(List.mem_replicate.1 ht).2]; exact ⟨by decide, by decide⟩⟩
  · injection hx with hx; subst hx
    rw [List.length_replicate] at hk
    rw [add_plain, Nat.zero_add, cell_row hr, hc _ (by omega), List.getElem_replicate]
    rfl
  · injection hx with hx; subst hx
    rw [List.length_replicate] at hk
    rw [add_plain, Nat.zero_add, cell_row hr, hc _ (by omega), List.getElem_replicate]
    rfl
/-- P0, and k times P0 Iff behind it. -/
def nn : Nat → List Tk
  | 0 => [(2, 0)]
  | k + 1 => nn k ++ [(2, 0), (14, 0)]
theorem nn_len : ∀ k, (nn k).length = 1 + 2 * k
  | 0 => rfl
  | k + 1 => by unfold nn; rw [List.length_append, nn_len k]; simp; omega
theorem kk1 : ofE [(2, 0), (6, 0), (6, 0)] = 0 ∧ ofL [(2, 0), (6, 0), (6, 0)] = [(2, 0)] := ⟨by kernel_rfl, by kernel_rfl⟩
theorem kk_until : chkE [(2, 0), (2, 1), (6, 0), (15, 0)] = 0 := chk_zero.2 ⟨by decide, .bin (15, 0) (.leaf (2, 0)) (.un (6, 0) (.leaf (2, 1))), ⟨rfl, rfl, ⟨rfl, rfl⟩, rfl, rfl, rfl, rfl⟩, rfl, rfl, rfl⟩
theorem kk_until2 : negE [(2, 0), (2, 1), (6, 0), (15, 0)] = 0 := by unfold negE; rw [kk_until]; decide
theorem kk_until3 : negL [(2, 0), (2, 1), (6, 0), (15, 0)] = [(2, 0), (6, 0), (2, 1), (16, 0)] := by unfold negL; rw [if_pos kk_until2]; decide
theorem kk_a : chkE [(2, 0), (2, 1), (11, 0), (6, 0)] = 7 := chk_form (by decide) fun h => absurd (ker_fix h) (by decide)
theorem kk_b : chkE [(2, 0), (9, 0)] = 7 := chk_form (by decide) fun h => absurd (ker_fix h) (by decide)
theorem kk_c : chkE [(3, 0)] = 7 := chk_form (by decide) fun h => absurd (ker_fix h) (by decide)
theorem kk_d : chkE [(2, 0), (6, 0)] = 0 := chk_zero.2 ⟨by decide, .un (6, 0) (.leaf (2, 0)), ⟨rfl, rfl, rfl, rfl⟩, rfl, rfl, rfl⟩
theorem kk_e : chkE [] = 7 := chk_form (by decide) fun ⟨T, _, _, _, h⟩ => by
  have := congrArg List.length h
  rw [flat_len] at this
  have := size_pos T
  simp at *
  omega
theorem kk_f {n : Nat} (h : 2048 < n) : chkE (List.replicate n (0, 0)) = 3 := if_pos (by rw [List.length_replicate]; exact h)
theorem kk_9 : lookE (nn 9) 1 = 0 := by kernel_rfl
theorem kk_8 : lookE (nn 8) 1 = 0 := by kernel_rfl
theorem kk_9l : min (kL (nn 9)).1.length 2049 = 2049 := by kernel_rfl
theorem kk_8l : min (kL (nn 8)).1.length 2049 = 1914 := by kernel_rfl
theorem kk_9o : ofE (nn 9) = 3 ∧ ofL (nn 9) = [] := ⟨by kernel_rfl, by kernel_rfl⟩
theorem kk_98 : (nn 9).take 17 = nn 8 := by kernel_rfl
set_option maxRecDepth 100000 in
set_option maxHeartbeats 8000000 in
theorem Try.kknown_any (hOf : OfC 10) (hNeg : NegC 12) (hChk : ChkC 17) (hSz : SizeC 14) (w : World) : Calls Try.prog 7 #[] w fun e w' => e = .returned (.bool true) ∧ Below w.heap.size w w' := by
  have hop : ∀ (op : Nat) (z y : Int), z = (op : Int) → y = 100 + (op : Int) → op < 256 → ∀ w', Calls Try.prog 26 #[.int .u8 z] w' fun e w'' => e = .returned (.int .i64 y) ∧ w'' = w' := fun op z y hz hy ho w' => by rw [hz, hy]; exact Try.kop_any op w' ho
  have HOP : Hid _ := hop
  clear hop
  have HAw : Hid (∀ w, Calls Try.prog 22 #[] w fun e w' => e = .returned (.bool true) ∧ Below w.heap.size w w') := Try.kawake_any hOf hNeg
  have HOf : Hid (OfC 10) := hOf
  have HNeg : Hid (NegC 12) := hNeg
  have HChk : Hid (ChkC 17) := hChk
  have HSz : Hid (SizeC 14) := hSz
  clear hOf hNeg hChk hSz
  have HB_0 : Hid (Below w.heap.size w w) := Below.refl _ _
  go_enter Try.func7, Try.ntmps7
  go_wp2_with fail
  refine ((HOP.out 6 6 106 rfl rfl (by decide)) _).mono ?_
  rintro e w' ⟨rfl, hw'⟩
  obtain rfl := hw'.symm
  go_wp2_with fail
  refine ((HOP.out 11 11 111 rfl rfl (by decide)) _).mono ?_
  rintro e w' ⟨rfl, hw'⟩
  obtain rfl := hw'.symm
  go_wp2_with fail
  refine ((HOP.out 12 12 112 rfl rfl (by decide)) _).mono ?_
  rintro e w' ⟨rfl, hw'⟩
  obtain rfl := hw'.symm
  have tt := fun w' => Try.kt_lit [0, 106, 106] [(2, 0), (6, 0), (6, 0)] w' rfl (by decide) (by decide)
  dsimp only [List.map_cons, List.map_nil, List.length_cons, List.length_nil, Nat.zero_add, Nat.reduceAdd] at tt
  go_wp2_with fail
  refine (tt _).mono ?_
  rintro e x1 ⟨a1, c1, rfl, ho, hT, hb⟩
  have HB_1 : Hid (Below w.heap.size w x1) := below_step HB_0.out hb
  clear HB_0
  have Tk1_1 : Hid (TkSl x1 a1 3 c1 [(2, 0), (6, 0), (6, 0)]) := hT
  clear hT hb tt ho
  have jO := HOf.out a1 3 c1 [(2, 0), (6, 0), (6, 0)] _ Tk1_1.out
  unfold OfR at jO
  rw [show ofE [(2, 0), (6, 0), (6, 0)] = 0 from (by kernel_rfl), show ofL [(2, 0), (6, 0), (6, 0)] = [(2, 0)] from (by kernel_rfl)] at jO
  dsimp only [List.length_cons, List.length_nil, Nat.zero_add, Nat.reduceAdd] at jO
  go_wp2_with fail
  refine jO.mono ?_
  rintro e x2 ⟨a2, c2, rfl, hT, hb⟩
  have HB_2 : Hid (Below w.heap.size w x2) := below_step HB_1.out hb
  have Tk1_2 : Hid (TkSl x2 a1 3 c1 [(2, 0), (6, 0), (6, 0)]) := Tk1_1.out.up hb
  clear HB_1 Tk1_1
  have Tk2_2 : Hid (TkSl x2 a2 1 c2 [(2, 0)]) := hT
  clear hT hb jO
  clear Tk1_2
  go_wp2_with fail
  refine ((HOP.out 3 3 103 rfl rfl (by decide)) _).mono ?_
  rintro e w' ⟨rfl, hw'⟩
  obtain rfl := hw'.symm
  have tt := fun w' => Try.kt_lit [103, 106] [(3, 0), (6, 0)] w' rfl (by decide) (by decide)
  dsimp only [List.map_cons, List.map_nil, List.length_cons, List.length_nil, Nat.zero_add, Nat.reduceAdd] at tt
  go_wp2_with fail
  refine (tt _).mono ?_
  rintro e x3 ⟨a3, c3, rfl, ho, hT, hb⟩
  have HB_3 : Hid (Below w.heap.size w x3) := below_step HB_2.out hb
  have Tk2_3 : Hid (TkSl x3 a2 1 c2 [(2, 0)]) := Tk2_2.out.up hb
  clear HB_2 Tk2_2
  have Tk3_3 : Hid (TkSl x3 a3 2 c3 [(3, 0), (6, 0)]) := hT
  clear hT hb tt ho
  have jO := HOf.out a3 2 c3 [(3, 0), (6, 0)] _ Tk3_3.out
  unfold OfR at jO
  rw [show ofE [(3, 0), (6, 0)] = 0 from (by kernel_rfl), show ofL [(3, 0), (6, 0)] = [(5, 0), (0, 0), (7, 0), (12, 0)] from (by kernel_rfl)] at jO
  dsimp only [List.length_cons, List.length_nil, Nat.zero_add, Nat.reduceAdd] at jO
  go_wp2_with fail
  refine jO.mono ?_
  rintro e x4 ⟨a4, c4, rfl, hT, hb⟩
  have HB_4 : Hid (Below w.heap.size w x4) := below_step HB_3.out hb
  have Tk2_4 : Hid (TkSl x4 a2 1 c2 [(2, 0)]) := Tk2_3.out.up hb
  have Tk3_4 : Hid (TkSl x4 a3 2 c3 [(3, 0), (6, 0)]) := Tk3_3.out.up hb
  clear HB_3 Tk2_3 Tk3_3
  have Tk4_4 : Hid (TkSl x4 a4 4 c4 [(5, 0), (0, 0), (7, 0), (12, 0)]) := hT
  clear hT hb jO
  clear Tk3_4
  go_wp2_with fail
  refine ((HOP.out 13 13 113 rfl rfl (by decide)) _).mono ?_
  rintro e w' ⟨rfl, hw'⟩
  obtain rfl := hw'.symm
  go_wp2_with fail
  refine ((HOP.out 19 19 119 rfl rfl (by decide)) _).mono ?_
  rintro e w' ⟨rfl, hw'⟩
  obtain rfl := hw'.symm
  go_wp2_with fail
  refine ((HOP.out 23 23 123 rfl rfl (by decide)) _).mono ?_
  rintro e w' ⟨rfl, hw'⟩
  obtain rfl := hw'.symm
  go_wp2_with fail
  refine ((HOP.out 3 3 103 rfl rfl (by decide)) _).mono ?_
  rintro e w' ⟨rfl, hw'⟩
  obtain rfl := hw'.symm
  go_wp2_with fail
  refine ((HOP.out 18 18 118 rfl rfl (by decide)) _).mono ?_
  rintro e w' ⟨rfl, hw'⟩
  obtain rfl := hw'.symm
  have tt := fun w' => Try.kt_lit [0, 1, 113, 119, 123, 103, 118] [(2, 0), (2, 1), (13, 0), (19, 0), (23, 0), (3, 0), (18, 0)] w' rfl (by decide) (by decide)
  dsimp only [List.map_cons, List.map_nil, List.length_cons, List.length_nil, Nat.zero_add, Nat.reduceAdd] at tt
  go_wp2_with fail
  refine (tt _).mono ?_
  rintro e x5 ⟨a5, c5, rfl, ho, hT, hb⟩
  have HB_5 : Hid (Below w.heap.size w x5) := below_step HB_4.out hb
  have Tk2_5 : Hid (TkSl x5 a2 1 c2 [(2, 0)]) := Tk2_4.out.up hb
  have Tk4_5 : Hid (TkSl x5 a4 4 c4 [(5, 0), (0, 0), (7, 0), (12, 0)]) := Tk4_4.out.up hb
  clear HB_4 Tk2_4 Tk4_4
  have Tk5_5 : Hid (TkSl x5 a5 7 c5 [(2, 0), (2, 1), (13, 0), (19, 0), (23, 0), (3, 0), (18, 0)]) := hT
  clear hT hb tt ho
  have jO := HOf.out a5 7 c5 [(2, 0), (2, 1), (13, 0), (19, 0), (23, 0), (3, 0), (18, 0)] _ Tk5_5.out
  unfold OfR at jO
  rw [show ofE [(2, 0), (2, 1), (13, 0), (19, 0), (23, 0), (3, 0), (18, 0)] = 0 from (by kernel_rfl), show ofL [(2, 0), (2, 1), (13, 0), (19, 0), (23, 0), (3, 0), (18, 0)] = [(2, 0), (6, 0), (2, 1), (12, 0), (19, 0), (23, 0), (4, 0), (1, 0), (8, 0), (11, 0), (18, 0)] from (by kernel_rfl)] at jO
  dsimp only [List.length_cons, List.length_nil, Nat.zero_add, Nat.reduceAdd] at jO
  go_wp2_with fail
  refine jO.mono ?_
  rintro e x6 ⟨a6, c6, rfl, hT, hb⟩
  have HB_6 : Hid (Below w.heap.size w x6) := below_step HB_5.out hb
  have Tk2_6 : Hid (TkSl x6 a2 1 c2 [(2, 0)]) := Tk2_5.out.up hb
  have Tk4_6 : Hid (TkSl x6 a4 4 c4 [(5, 0), (0, 0), (7, 0), (12, 0)]) := Tk4_5.out.up hb
  have Tk5_6 : Hid (TkSl x6 a5 7 c5 [(2, 0), (2, 1), (13, 0), (19, 0), (23, 0), (3, 0), (18, 0)]) := Tk5_5.out.up hb
  clear HB_5 Tk2_5 Tk4_5 Tk5_5
  have Tk6_6 : Hid (TkSl x6 a6 11 c6 [(2, 0), (6, 0), (2, 1), (12, 0), (19, 0), (23, 0), (4, 0), (1, 0), (8, 0), (11, 0), (18, 0)]) := hT
  clear hT hb jO
  clear Tk5_6
  go_wp2_with fail
  refine ((HOP.out 15 15 115 rfl rfl (by decide)) _).mono ?_
  rintro e w' ⟨rfl, hw'⟩
  obtain rfl := hw'.symm
  have tt := fun w' => Try.kt_lit [0, 1, 106, 115] [(2, 0), (2, 1), (6, 0), (15, 0)] w' rfl (by decide) (by decide)
  dsimp only [List.map_cons, List.map_nil, List.length_cons, List.length_nil, Nat.zero_add, Nat.reduceAdd] at tt
  go_wp2_with fail
  refine (tt _).mono ?_
  rintro e x7 ⟨a7, c7, rfl, ho, hT, hb⟩
  have HB_7 : Hid (Below w.heap.size w x7) := below_step HB_6.out hb
  have Tk2_7 : Hid (TkSl x7 a2 1 c2 [(2, 0)]) := Tk2_6.out.up hb
  have Tk4_7 : Hid (TkSl x7 a4 4 c4 [(5, 0), (0, 0), (7, 0), (12, 0)]) := Tk4_6.out.up hb
  have Tk6_7 : Hid (TkSl x7 a6 11 c6 [(2, 0), (6, 0), (2, 1), (12, 0), (19, 0), (23, 0), (4, 0), (1, 0), (8, 0), (11, 0), (18, 0)]) := Tk6_6.out.up hb
  clear HB_6 Tk2_6 Tk4_6 Tk6_6
  have Tk7_7 : Hid (TkSl x7 a7 4 c7 [(2, 0), (2, 1), (6, 0), (15, 0)]) := hT
  clear hT hb tt ho
  have jO := HNeg.out a7 4 c7 [(2, 0), (2, 1), (6, 0), (15, 0)] _ Tk7_7.out
  unfold NegR at jO
  rw [show negE [(2, 0), (2, 1), (6, 0), (15, 0)] = 0 from kk_until2, show negL [(2, 0), (2, 1), (6, 0), (15, 0)] = [(2, 0), (6, 0), (2, 1), (16, 0)] from kk_until3] at jO
  dsimp only [List.length_cons, List.length_nil, Nat.zero_add, Nat.reduceAdd] at jO
  go_wp2_with fail
  refine jO.mono ?_
  rintro e x8 ⟨a8, c8, rfl, hT, hb⟩
  have HB_8 : Hid (Below w.heap.size w x8) := below_step HB_7.out hb
  have Tk2_8 : Hid (TkSl x8 a2 1 c2 [(2, 0)]) := Tk2_7.out.up hb
  have Tk4_8 : Hid (TkSl x8 a4 4 c4 [(5, 0), (0, 0), (7, 0), (12, 0)]) := Tk4_7.out.up hb
  have Tk6_8 : Hid (TkSl x8 a6 11 c6 [(2, 0), (6, 0), (2, 1), (12, 0), (19, 0), (23, 0), (4, 0), (1, 0), (8, 0), (11, 0), (18, 0)]) := Tk6_7.out.up hb
  have Tk7_8 : Hid (TkSl x8 a7 4 c7 [(2, 0), (2, 1), (6, 0), (15, 0)]) := Tk7_7.out.up hb
  clear HB_7 Tk2_7 Tk4_7 Tk6_7 Tk7_7
  have Tk8_8 : Hid (TkSl x8 a8 4 c8 [(2, 0), (6, 0), (2, 1), (16, 0)]) := hT
  clear hT hb jO
  clear Tk7_8
  have tt := fun w' => Try.kt_lit [0, 1, 111, 106] [(2, 0), (2, 1), (11, 0), (6, 0)] w' rfl (by decide) (by decide)
  dsimp only [List.map_cons, List.map_nil, List.length_cons, List.length_nil, Nat.zero_add, Nat.reduceAdd] at tt
  go_wp2_with fail
  refine (tt _).mono ?_
  rintro e x9 ⟨a9, c9, rfl, ho, hT, hb⟩
  have HB_9 : Hid (Below w.heap.size w x9) := below_step HB_8.out hb
  have Tk2_9 : Hid (TkSl x9 a2 1 c2 [(2, 0)]) := Tk2_8.out.up hb
  have Tk4_9 : Hid (TkSl x9 a4 4 c4 [(5, 0), (0, 0), (7, 0), (12, 0)]) := Tk4_8.out.up hb
  have Tk6_9 : Hid (TkSl x9 a6 11 c6 [(2, 0), (6, 0), (2, 1), (12, 0), (19, 0), (23, 0), (4, 0), (1, 0), (8, 0), (11, 0), (18, 0)]) := Tk6_8.out.up hb
  have Tk8_9 : Hid (TkSl x9 a8 4 c8 [(2, 0), (6, 0), (2, 1), (16, 0)]) := Tk8_8.out.up hb
  clear HB_8 Tk2_8 Tk4_8 Tk6_8 Tk8_8
  have Tk9_9 : Hid (TkSl x9 a9 4 c9 [(2, 0), (2, 1), (11, 0), (6, 0)]) := hT
  clear hT hb tt ho
  have jC := HChk.out a9 4 c9 [(2, 0), (2, 1), (11, 0), (6, 0)] _ Tk9_9.out
  rw [kk_a] at jC
  go_wp2_with fail
  refine jC.mono ?_
  rintro e x10 ⟨rfl, hb⟩
  have HB_10 : Hid (Below w.heap.size w x10) := below_step HB_9.out hb
  have Tk2_10 : Hid (TkSl x10 a2 1 c2 [(2, 0)]) := Tk2_9.out.up hb
  have Tk4_10 : Hid (TkSl x10 a4 4 c4 [(5, 0), (0, 0), (7, 0), (12, 0)]) := Tk4_9.out.up hb
  have Tk6_10 : Hid (TkSl x10 a6 11 c6 [(2, 0), (6, 0), (2, 1), (12, 0), (19, 0), (23, 0), (4, 0), (1, 0), (8, 0), (11, 0), (18, 0)]) := Tk6_9.out.up hb
  have Tk8_10 : Hid (TkSl x10 a8 4 c8 [(2, 0), (6, 0), (2, 1), (16, 0)]) := Tk8_9.out.up hb
  have Tk9_10 : Hid (TkSl x10 a9 4 c9 [(2, 0), (2, 1), (11, 0), (6, 0)]) := Tk9_9.out.up hb
  clear HB_9 Tk2_9 Tk4_9 Tk6_9 Tk8_9 Tk9_9
  clear hb jC
  clear Tk9_10
  go_wp2_with fail
  refine ((HOP.out 9 9 109 rfl rfl (by decide)) _).mono ?_
  rintro e w' ⟨rfl, hw'⟩
  obtain rfl := hw'.symm
  have tt := fun w' => Try.kt_lit [0, 109] [(2, 0), (9, 0)] w' rfl (by decide) (by decide)
  dsimp only [List.map_cons, List.map_nil, List.length_cons, List.length_nil, Nat.zero_add, Nat.reduceAdd] at tt
  go_wp2_with fail
  refine (tt _).mono ?_
  rintro e x11 ⟨a11, c11, rfl, ho, hT, hb⟩
  have HB_11 : Hid (Below w.heap.size w x11) := below_step HB_10.out hb
  have Tk2_11 : Hid (TkSl x11 a2 1 c2 [(2, 0)]) := Tk2_10.out.up hb
  have Tk4_11 : Hid (TkSl x11 a4 4 c4 [(5, 0), (0, 0), (7, 0), (12, 0)]) := Tk4_10.out.up hb
  have Tk6_11 : Hid (TkSl x11 a6 11 c6 [(2, 0), (6, 0), (2, 1), (12, 0), (19, 0), (23, 0), (4, 0), (1, 0), (8, 0), (11, 0), (18, 0)]) := Tk6_10.out.up hb
  have Tk8_11 : Hid (TkSl x11 a8 4 c8 [(2, 0), (6, 0), (2, 1), (16, 0)]) := Tk8_10.out.up hb
  clear HB_10 Tk2_10 Tk4_10 Tk6_10 Tk8_10
  have Tk11_11 : Hid (TkSl x11 a11 2 c11 [(2, 0), (9, 0)]) := hT
  clear hT hb tt ho
  have jC := HChk.out a11 2 c11 [(2, 0), (9, 0)] _ Tk11_11.out
  rw [kk_b] at jC
  go_wp2_with fail
  refine jC.mono ?_
  rintro e x12 ⟨rfl, hb⟩
  have HB_12 : Hid (Below w.heap.size w x12) := below_step HB_11.out hb
  have Tk2_12 : Hid (TkSl x12 a2 1 c2 [(2, 0)]) := Tk2_11.out.up hb
  have Tk4_12 : Hid (TkSl x12 a4 4 c4 [(5, 0), (0, 0), (7, 0), (12, 0)]) := Tk4_11.out.up hb
  have Tk6_12 : Hid (TkSl x12 a6 11 c6 [(2, 0), (6, 0), (2, 1), (12, 0), (19, 0), (23, 0), (4, 0), (1, 0), (8, 0), (11, 0), (18, 0)]) := Tk6_11.out.up hb
  have Tk8_12 : Hid (TkSl x12 a8 4 c8 [(2, 0), (6, 0), (2, 1), (16, 0)]) := Tk8_11.out.up hb
  have Tk11_12 : Hid (TkSl x12 a11 2 c11 [(2, 0), (9, 0)]) := Tk11_11.out.up hb
  clear HB_11 Tk2_11 Tk4_11 Tk6_11 Tk8_11 Tk11_11
  clear hb jC
  clear Tk11_12
  go_wp2_with fail
  refine ((HOP.out 3 3 103 rfl rfl (by decide)) _).mono ?_
  rintro e w' ⟨rfl, hw'⟩
  obtain rfl := hw'.symm
  have tt := fun w' => Try.kt_lit [103] [(3, 0)] w' rfl (by decide) (by decide)
  dsimp only [List.map_cons, List.map_nil, List.length_cons, List.length_nil, Nat.zero_add, Nat.reduceAdd] at tt
  go_wp2_with fail
  refine (tt _).mono ?_
  rintro e x13 ⟨a13, c13, rfl, ho, hT, hb⟩
  have HB_13 : Hid (Below w.heap.size w x13) := below_step HB_12.out hb
  have Tk2_13 : Hid (TkSl x13 a2 1 c2 [(2, 0)]) := Tk2_12.out.up hb
  have Tk4_13 : Hid (TkSl x13 a4 4 c4 [(5, 0), (0, 0), (7, 0), (12, 0)]) := Tk4_12.out.up hb
  have Tk6_13 : Hid (TkSl x13 a6 11 c6 [(2, 0), (6, 0), (2, 1), (12, 0), (19, 0), (23, 0), (4, 0), (1, 0), (8, 0), (11, 0), (18, 0)]) := Tk6_12.out.up hb
  have Tk8_13 : Hid (TkSl x13 a8 4 c8 [(2, 0), (6, 0), (2, 1), (16, 0)]) := Tk8_12.out.up hb
  clear HB_12 Tk2_12 Tk4_12 Tk6_12 Tk8_12
  have Tk13_13 : Hid (TkSl x13 a13 1 c13 [(3, 0)]) := hT
  clear hT hb tt ho
  have jC := HChk.out a13 1 c13 [(3, 0)] _ Tk13_13.out
  rw [kk_c] at jC
  go_wp2_with fail
  refine jC.mono ?_
  rintro e x14 ⟨rfl, hb⟩
  have HB_14 : Hid (Below w.heap.size w x14) := below_step HB_13.out hb
  have Tk2_14 : Hid (TkSl x14 a2 1 c2 [(2, 0)]) := Tk2_13.out.up hb
  have Tk4_14 : Hid (TkSl x14 a4 4 c4 [(5, 0), (0, 0), (7, 0), (12, 0)]) := Tk4_13.out.up hb
  have Tk6_14 : Hid (TkSl x14 a6 11 c6 [(2, 0), (6, 0), (2, 1), (12, 0), (19, 0), (23, 0), (4, 0), (1, 0), (8, 0), (11, 0), (18, 0)]) := Tk6_13.out.up hb
  have Tk8_14 : Hid (TkSl x14 a8 4 c8 [(2, 0), (6, 0), (2, 1), (16, 0)]) := Tk8_13.out.up hb
  have Tk13_14 : Hid (TkSl x14 a13 1 c13 [(3, 0)]) := Tk13_13.out.up hb
  clear HB_13 Tk2_13 Tk4_13 Tk6_13 Tk8_13 Tk13_13
  clear hb jC
  clear Tk13_14
  have tt := fun w' => Try.kt_lit [0, 106] [(2, 0), (6, 0)] w' rfl (by decide) (by decide)
  dsimp only [List.map_cons, List.map_nil, List.length_cons, List.length_nil, Nat.zero_add, Nat.reduceAdd] at tt
  go_wp2_with fail
  refine (tt _).mono ?_
  rintro e x15 ⟨a15, c15, rfl, ho, hT, hb⟩
  have HB_15 : Hid (Below w.heap.size w x15) := below_step HB_14.out hb
  have Tk2_15 : Hid (TkSl x15 a2 1 c2 [(2, 0)]) := Tk2_14.out.up hb
  have Tk4_15 : Hid (TkSl x15 a4 4 c4 [(5, 0), (0, 0), (7, 0), (12, 0)]) := Tk4_14.out.up hb
  have Tk6_15 : Hid (TkSl x15 a6 11 c6 [(2, 0), (6, 0), (2, 1), (12, 0), (19, 0), (23, 0), (4, 0), (1, 0), (8, 0), (11, 0), (18, 0)]) := Tk6_14.out.up hb
  have Tk8_15 : Hid (TkSl x15 a8 4 c8 [(2, 0), (6, 0), (2, 1), (16, 0)]) := Tk8_14.out.up hb
  clear HB_14 Tk2_14 Tk4_14 Tk6_14 Tk8_14
  have Tk15_15 : Hid (TkSl x15 a15 2 c15 [(2, 0), (6, 0)]) := hT
  clear hT hb tt ho
  have jC := HChk.out a15 2 c15 [(2, 0), (6, 0)] _ Tk15_15.out
  rw [kk_d] at jC
  go_wp2_with fail
  refine jC.mono ?_
  rintro e x16 ⟨rfl, hb⟩
  have HB_16 : Hid (Below w.heap.size w x16) := below_step HB_15.out hb
  have Tk2_16 : Hid (TkSl x16 a2 1 c2 [(2, 0)]) := Tk2_15.out.up hb
  have Tk4_16 : Hid (TkSl x16 a4 4 c4 [(5, 0), (0, 0), (7, 0), (12, 0)]) := Tk4_15.out.up hb
  have Tk6_16 : Hid (TkSl x16 a6 11 c6 [(2, 0), (6, 0), (2, 1), (12, 0), (19, 0), (23, 0), (4, 0), (1, 0), (8, 0), (11, 0), (18, 0)]) := Tk6_15.out.up hb
  have Tk8_16 : Hid (TkSl x16 a8 4 c8 [(2, 0), (6, 0), (2, 1), (16, 0)]) := Tk8_15.out.up hb
  have Tk15_16 : Hid (TkSl x16 a15 2 c15 [(2, 0), (6, 0)]) := Tk15_15.out.up hb
  clear HB_15 Tk2_15 Tk4_15 Tk6_15 Tk8_15 Tk15_15
  clear hb jC
  clear Tk15_16
  have jC := HChk.out none 0 0 [] x16 TkSl.nil
  rw [kk_e] at jC
  go_wp2_with fail
  refine jC.mono ?_
  rintro e x17 ⟨rfl, hb⟩
  have HB_17 : Hid (Below w.heap.size w x17) := below_step HB_16.out hb
  have Tk2_17 : Hid (TkSl x17 a2 1 c2 [(2, 0)]) := Tk2_16.out.up hb
  have Tk4_17 : Hid (TkSl x17 a4 4 c4 [(5, 0), (0, 0), (7, 0), (12, 0)]) := Tk4_16.out.up hb
  have Tk6_17 : Hid (TkSl x17 a6 11 c6 [(2, 0), (6, 0), (2, 1), (12, 0), (19, 0), (23, 0), (4, 0), (1, 0), (8, 0), (11, 0), (18, 0)]) := Tk6_16.out.up hb
  have Tk8_17 : Hid (TkSl x17 a8 4 c8 [(2, 0), (6, 0), (2, 1), (16, 0)]) := Tk8_16.out.up hb
  clear HB_16 Tk2_16 Tk4_16 Tk6_16 Tk8_16
  clear hb jC
  obtain ⟨oM, hM0, hTM⟩ := Try.makeTk 2049 (by decide) x17
  have hM : (Instr.makeSlice 22 (.int .i64 2049) (.int .i64 2049)).run Try.prog x17 = .ok (.slice (some ⟨x17.heap.size, 0, none⟩) 2049 2049) (x17.alloc oM) := hM0
  have hn := below_new x17 oM
  have jC := HChk.out (some ⟨x17.heap.size, 0, none⟩) 2049 2049 _ _ hTM
  rw [kk_f (by decide)] at jC
  clear hTM hM0
  go_wp2_with fail
  refine jC.mono ?_
  rintro e x18 ⟨rfl, hb0⟩
  have hb := below_step hn hb0
  have HB_18 : Hid (Below w.heap.size w x18) := below_step HB_17.out hb
  have Tk2_18 : Hid (TkSl x18 a2 1 c2 [(2, 0)]) := Tk2_17.out.up hb
  have Tk4_18 : Hid (TkSl x18 a4 4 c4 [(5, 0), (0, 0), (7, 0), (12, 0)]) := Tk4_17.out.up hb
  have Tk6_18 : Hid (TkSl x18 a6 11 c6 [(2, 0), (6, 0), (2, 1), (12, 0), (19, 0), (23, 0), (4, 0), (1, 0), (8, 0), (11, 0), (18, 0)]) := Tk6_17.out.up hb
  have Tk8_18 : Hid (TkSl x18 a8 4 c8 [(2, 0), (6, 0), (2, 1), (16, 0)]) := Tk8_17.out.up hb
  clear HB_17 Tk2_17 Tk4_17 Tk6_17 Tk8_17
  clear hb hb0 hn hM jC
  have tt := fun w' => Try.kt_lit [0] [(2, 0)] w' rfl (by decide) (by decide)
  dsimp only [List.map_cons, List.map_nil, List.length_cons, List.length_nil, Nat.zero_add, Nat.reduceAdd] at tt
  go_wp2_with fail
  refine (tt _).mono ?_
  rintro e x19 ⟨a19, c19, rfl, ho, _, hb⟩
  have HO0 : Hid (x19.ownsRow x18.heap.size 37 2 (.slice a19 1 c19) (nn 0).length (encT (nn 0))) := ho
  have HBn : Hid (Below x18.heap.size x18 x19) := hb
  clear tt ho hb
  go_wp2
  go_loopw [13, 14] (fun v i wr => ∃ j : Nat, j ≤ 9 ∧ i = .int .i64 j ∧ Hid (wr.ownsRow x18.heap.size 37 2 v (nn j).length (encT (nn j))) ∧ Hid (Below x18.heap.size x18 wr)) (fun _ i _ => 9 - (intOf i).toNat)
  case atStart => exact ⟨0, Nat.zero_le _, rfl, HO0, HBn⟩
  case round =>
    obtain ⟨j, hj, rfl, HO, HBW⟩ := hrel
    clear HO0 HBn
    obtain ⟨va, vc, rfl⟩ := own_slK HO.out
    by_cases hlt : j < 9
    · have hlt' : (j : Int) < 9 := by omega
      have hln : (nn j).length ≤ 100 := by rw [nn_len]; omega
      have HNX : Hid (nn (j + 1) = nn j ++ [(2, 0), (14, 0)]) := rfl
      generalize nn j = cu at *
      have tt := fun w' => Try.kt_lit [0, 114] [(2, 0), (14, 0)] w' rfl (by decide) (by decide)
      dsimp only [List.map_cons, List.map_nil, List.length_cons, List.length_nil, Nat.zero_add, Nat.reduceAdd] at tt
      go_wp2_with fail
      refine ((HOP.out 14 14 114 rfl rfl (by decide)) _).mono ?_
      rintro e w' ⟨rfl, hw'⟩
      obtain rfl := hw'.symm
      go_wp2_with fail
      refine (tt _).mono ?_
      rintro e y1 ⟨ay, cy, rfl, _, hT, hb⟩
      have HT1 : Hid (TkSl y1 ay 2 cy [(2, 0), (14, 0)]) := hT
      have HO1 : Hid (y1.ownsRow x18.heap.size 37 2 (.slice va cu.length vc) cu.length (encT cu)) := owns_up HO.out hb
      have HB1 : Hid (Below x18.heap.size x18 y1) := below_step HBW.out hb
      have HGE : Hid (∀ q, (Value.slice va cu.length vc).ownBlock = some q → x18.heap.size ≤ q) := own_ge HO.out
      have hz1 : x18.heap.size ≤ y1.heap.size := HB1.out.size
      clear tt hT hb HO HBW
      go_wp2_with (at_builtin; refine Try.append_tks rfl _ _ rfl x18.heap.size _ cu [(2, 0), (14, 0)] ay 2 cy rfl rfl HO1.out HT1.out (by omega) (by decide) hz1 ?_)
      intro v8 y2 hown8 hgr8
      have HO2 : Hid (y2.ownsRow x18.heap.size 37 2 v8 (nn (j + 1)).length (encT (nn (j + 1)))) := by show World.ownsRow _ _ _ _ _ _ _; rw [HNX.out, List.length_append]; exact hown8
      have HB2 : Hid (Below x18.heap.size x18 y2) := HB1.out.grown hgr8 hz1 (fun q e => HGE.out q e)
      clear hown8 hgr8 HO1 HT1 HB1 HGE hz1
      go_wp2
      go_roundw
      case rel => exact ⟨j + 1, by omega, by go_num, HO2, HB2⟩
      case measure => simp [intOf] <;> omega
    · obtain rfl : j = 9 := by omega
      obtain ⟨aN, cN, hsv, hTN, _⟩ := own_tk HO.out (by decide)
      injection hsv with hva _ hvc
      subst hva hvc
      obtain ⟨xN, rfl⟩ := hTN.some_of (by decide)
      have hTN2 : TkSl wr (some xN) 19 vc (nn 9) := hTN
      have hcN := hTN2.hcap
      have hbw := HBW.out
      rw [show (nn 9).length = 19 from rfl]
      clear HO HBW hTN
      have HB_19 : Hid (Below w.heap.size w wr) := below_step HB_18.out hbw
      have Tk2_19 : Hid (TkSl wr a2 1 c2 [(2, 0)]) := Tk2_18.out.up hbw
      have Tk4_19 : Hid (TkSl wr a4 4 c4 [(5, 0), (0, 0), (7, 0), (12, 0)]) := Tk4_18.out.up hbw
      have Tk6_19 : Hid (TkSl wr a6 11 c6 [(2, 0), (6, 0), (2, 1), (12, 0), (19, 0), (23, 0), (4, 0), (1, 0), (8, 0), (11, 0), (18, 0)]) := Tk6_18.out.up hbw
      have Tk8_19 : Hid (TkSl wr a8 4 c8 [(2, 0), (6, 0), (2, 1), (16, 0)]) := Tk8_18.out.up hbw
      clear HB_18 Tk2_18 Tk4_18 Tk6_18 Tk8_18
      have TkN_19 : Hid (TkSl wr (some xN) 19 vc (nn 9)) := hTN2
      clear hTN2 hbw hj
      have jZ := HSz.out (some xN) 19 vc (nn 9) _ TkN_19.out
      unfold SizeR at jZ
      rw [kk_9, kk_9l] at jZ
      go_wp2_with fail
      refine jZ.mono ?_
      rintro e x20 ⟨nZ, rfl, hnZ, hb⟩
      obtain rfl := hnZ (by first | rfl | trivial)
      have HB_20 : Hid (Below w.heap.size w x20) := below_step HB_19.out hb
      have Tk2_20 : Hid (TkSl x20 a2 1 c2 [(2, 0)]) := Tk2_19.out.up hb
      have Tk4_20 : Hid (TkSl x20 a4 4 c4 [(5, 0), (0, 0), (7, 0), (12, 0)]) := Tk4_19.out.up hb
      have Tk6_20 : Hid (TkSl x20 a6 11 c6 [(2, 0), (6, 0), (2, 1), (12, 0), (19, 0), (23, 0), (4, 0), (1, 0), (8, 0), (11, 0), (18, 0)]) := Tk6_19.out.up hb
      have Tk8_20 : Hid (TkSl x20 a8 4 c8 [(2, 0), (6, 0), (2, 1), (16, 0)]) := Tk8_19.out.up hb
      have TkN_20 : Hid (TkSl x20 (some xN) 19 vc (nn 9)) := TkN_19.out.up hb
      clear HB_19 Tk2_19 Tk4_19 Tk6_19 Tk8_19 TkN_19
      clear hb hnZ jZ
      have hsl := Try.slTok xN 19 vc 17 (by decide) hcN
      have hp8 : TkSl x20 (some xN) 17 vc (nn 8) := by have h := TkN_20.out.pre (hi := 17) (by decide); rw [kk_98] at h; exact h
      have hsl2 : ∀ w', (Instr.sliceAt 22 (.slice (some xN) 19 vc) none (some (.int .i64 17)) none).run Try.prog w' = .ok (.slice (some xN) 17 vc) w' := hsl
      clear hsl
      have jZ := HSz.out (some xN) 17 vc (nn 8) _ hp8
      unfold SizeR at jZ
      rw [kk_8, kk_8l] at jZ
      go_wp2_with fail
      refine jZ.mono ?_
      rintro e x21 ⟨nZ, rfl, hnZ, hb⟩
      obtain rfl := hnZ (by first | rfl | trivial)
      have HB_21 : Hid (Below w.heap.size w x21) := below_step HB_20.out hb
      have Tk2_21 : Hid (TkSl x21 a2 1 c2 [(2, 0)]) := Tk2_20.out.up hb
      have Tk4_21 : Hid (TkSl x21 a4 4 c4 [(5, 0), (0, 0), (7, 0), (12, 0)]) := Tk4_20.out.up hb
      have Tk6_21 : Hid (TkSl x21 a6 11 c6 [(2, 0), (6, 0), (2, 1), (12, 0), (19, 0), (23, 0), (4, 0), (1, 0), (8, 0), (11, 0), (18, 0)]) := Tk6_20.out.up hb
      have Tk8_21 : Hid (TkSl x21 a8 4 c8 [(2, 0), (6, 0), (2, 1), (16, 0)]) := Tk8_20.out.up hb
      have TkN_21 : Hid (TkSl x21 (some xN) 19 vc (nn 9)) := TkN_20.out.up hb
      clear HB_20 Tk2_20 Tk4_20 Tk6_20 Tk8_20 TkN_20
      clear hb hnZ jZ
      clear hp8 hsl2
      have jO := HOf.out (some xN) 19 vc (nn 9) _ TkN_21.out
      unfold OfR at jO
      rw [kk_9o.1, kk_9o.2] at jO
      go_wp2_with fail
      refine jO.mono ?_
      rintro e x22 ⟨aQ, cQ, rfl, _, hb⟩
      have HB_22 : Hid (Below w.heap.size w x22) := below_step HB_21.out hb
      have Tk2_22 : Hid (TkSl x22 a2 1 c2 [(2, 0)]) := Tk2_21.out.up hb
      have Tk4_22 : Hid (TkSl x22 a4 4 c4 [(5, 0), (0, 0), (7, 0), (12, 0)]) := Tk4_21.out.up hb
      have Tk6_22 : Hid (TkSl x22 a6 11 c6 [(2, 0), (6, 0), (2, 1), (12, 0), (19, 0), (23, 0), (4, 0), (1, 0), (8, 0), (11, 0), (18, 0)]) := Tk6_21.out.up hb
      have Tk8_22 : Hid (TkSl x22 a8 4 c8 [(2, 0), (6, 0), (2, 1), (16, 0)]) := Tk8_21.out.up hb
      have TkN_22 : Hid (TkSl x22 (some xN) 19 vc (nn 9)) := TkN_21.out.up hb
      clear HB_21 Tk2_21 Tk4_21 Tk6_21 Tk8_21 TkN_21
      clear hb jO
      clear TkN_22
      have tt := fun w' => Try.kt_lit [0] [(2, 0)] w' rfl (by decide) (by decide)
      dsimp only [List.map_cons, List.map_nil, List.length_cons, List.length_nil, Nat.zero_add, Nat.reduceAdd] at tt
      go_wp2_with fail
      refine (tt _).mono ?_
      rintro e x23 ⟨a23, c23, rfl, ho, hT, hb⟩
      have HB_23 : Hid (Below w.heap.size w x23) := below_step HB_22.out hb
      have Tk2_23 : Hid (TkSl x23 a2 1 c2 [(2, 0)]) := Tk2_22.out.up hb
      have Tk4_23 : Hid (TkSl x23 a4 4 c4 [(5, 0), (0, 0), (7, 0), (12, 0)]) := Tk4_22.out.up hb
      have Tk6_23 : Hid (TkSl x23 a6 11 c6 [(2, 0), (6, 0), (2, 1), (12, 0), (19, 0), (23, 0), (4, 0), (1, 0), (8, 0), (11, 0), (18, 0)]) := Tk6_22.out.up hb
      have Tk8_23 : Hid (TkSl x23 a8 4 c8 [(2, 0), (6, 0), (2, 1), (16, 0)]) := Tk8_22.out.up hb
      clear HB_22 Tk2_22 Tk4_22 Tk6_22 Tk8_22
      have Tk23_23 : Hid (TkSl x23 a23 1 c23 [(2, 0)]) := hT
      clear hT hb tt ho
      have jS := Try.sameT_any _ _ _ _ _ _ _ _ _ Tk2_23.out Tk23_23.out
      go_wp2_with fail
      refine jS.mono ?_
      rintro e x24 ⟨he, hb0⟩
      obtain rfl : e = .returned (.bool true) := by simpa using he
      have hb : Below x23.heap.size x23 x24 := by first | exact hb0 | (obtain ⟨n6, hw6⟩ := hb0; rw [hw6]; exact below_drewN (Below.refl _ _) n6)
      have HB_24 : Hid (Below w.heap.size w x24) := below_step HB_23.out hb
      have Tk2_24 : Hid (TkSl x24 a2 1 c2 [(2, 0)]) := Tk2_23.out.up hb
      have Tk4_24 : Hid (TkSl x24 a4 4 c4 [(5, 0), (0, 0), (7, 0), (12, 0)]) := Tk4_23.out.up hb
      have Tk6_24 : Hid (TkSl x24 a6 11 c6 [(2, 0), (6, 0), (2, 1), (12, 0), (19, 0), (23, 0), (4, 0), (1, 0), (8, 0), (11, 0), (18, 0)]) := Tk6_23.out.up hb
      have Tk8_24 : Hid (TkSl x24 a8 4 c8 [(2, 0), (6, 0), (2, 1), (16, 0)]) := Tk8_23.out.up hb
      have Tk23_24 : Hid (TkSl x24 a23 1 c23 [(2, 0)]) := Tk23_23.out.up hb
      clear HB_23 Tk2_23 Tk4_23 Tk6_23 Tk8_23 Tk23_23
      clear hb hb0 jS he
      clear Tk2_24 Tk23_24
      go_wp2_with fail
      refine ((HOP.out 5 5 105 rfl rfl (by decide)) _).mono ?_
      rintro e w' ⟨rfl, hw'⟩
      obtain rfl := hw'.symm
      go_wp2_with fail
      refine ((HOP.out 0 0 100 rfl rfl (by decide)) _).mono ?_
      rintro e w' ⟨rfl, hw'⟩
      obtain rfl := hw'.symm
      go_wp2_with fail
      refine ((HOP.out 7 7 107 rfl rfl (by decide)) _).mono ?_
      rintro e w' ⟨rfl, hw'⟩
      obtain rfl := hw'.symm
      have tt := fun w' => Try.kt_lit [105, 100, 107, 112] [(5, 0), (0, 0), (7, 0), (12, 0)] w' rfl (by decide) (by decide)
      dsimp only [List.map_cons, List.map_nil, List.length_cons, List.length_nil, Nat.zero_add, Nat.reduceAdd] at tt
      go_wp2_with fail
      refine (tt _).mono ?_
      rintro e x25 ⟨a25, c25, rfl, ho, hT, hb⟩
      have HB_25 : Hid (Below w.heap.size w x25) := below_step HB_24.out hb
      have Tk4_25 : Hid (TkSl x25 a4 4 c4 [(5, 0), (0, 0), (7, 0), (12, 0)]) := Tk4_24.out.up hb
      have Tk6_25 : Hid (TkSl x25 a6 11 c6 [(2, 0), (6, 0), (2, 1), (12, 0), (19, 0), (23, 0), (4, 0), (1, 0), (8, 0), (11, 0), (18, 0)]) := Tk6_24.out.up hb
      have Tk8_25 : Hid (TkSl x25 a8 4 c8 [(2, 0), (6, 0), (2, 1), (16, 0)]) := Tk8_24.out.up hb
      clear HB_24 Tk4_24 Tk6_24 Tk8_24
      have Tk25_25 : Hid (TkSl x25 a25 4 c25 [(5, 0), (0, 0), (7, 0), (12, 0)]) := hT
      clear hT hb tt ho
      have jS := Try.sameT_any _ _ _ _ _ _ _ _ _ Tk4_25.out Tk25_25.out
      go_wp2_with fail
      refine jS.mono ?_
      rintro e x26 ⟨he, hb0⟩
      obtain rfl : e = .returned (.bool true) := by simpa using he
      have hb : Below x25.heap.size x25 x26 := by first | exact hb0 | (obtain ⟨n6, hw6⟩ := hb0; rw [hw6]; exact below_drewN (Below.refl _ _) n6)
      have HB_26 : Hid (Below w.heap.size w x26) := below_step HB_25.out hb
      have Tk4_26 : Hid (TkSl x26 a4 4 c4 [(5, 0), (0, 0), (7, 0), (12, 0)]) := Tk4_25.out.up hb
      have Tk6_26 : Hid (TkSl x26 a6 11 c6 [(2, 0), (6, 0), (2, 1), (12, 0), (19, 0), (23, 0), (4, 0), (1, 0), (8, 0), (11, 0), (18, 0)]) := Tk6_25.out.up hb
      have Tk8_26 : Hid (TkSl x26 a8 4 c8 [(2, 0), (6, 0), (2, 1), (16, 0)]) := Tk8_25.out.up hb
      have Tk25_26 : Hid (TkSl x26 a25 4 c25 [(5, 0), (0, 0), (7, 0), (12, 0)]) := Tk25_25.out.up hb
      clear HB_25 Tk4_25 Tk6_25 Tk8_25 Tk25_25
      clear hb hb0 jS he
      clear Tk4_26 Tk25_26
      go_wp2_with fail
      refine ((HOP.out 19 19 119 rfl rfl (by decide)) _).mono ?_
      rintro e w' ⟨rfl, hw'⟩
      obtain rfl := hw'.symm
      go_wp2_with fail
      refine ((HOP.out 23 23 123 rfl rfl (by decide)) _).mono ?_
      rintro e w' ⟨rfl, hw'⟩
      obtain rfl := hw'.symm
      go_wp2_with fail
      refine ((HOP.out 4 4 104 rfl rfl (by decide)) _).mono ?_
      rintro e w' ⟨rfl, hw'⟩
      obtain rfl := hw'.symm
      go_wp2_with fail
      refine ((HOP.out 1 1 101 rfl rfl (by decide)) _).mono ?_
      rintro e w' ⟨rfl, hw'⟩
      obtain rfl := hw'.symm
      go_wp2_with fail
      refine ((HOP.out 8 8 108 rfl rfl (by decide)) _).mono ?_
      rintro e w' ⟨rfl, hw'⟩
      obtain rfl := hw'.symm
      go_wp2_with fail
      refine ((HOP.out 18 18 118 rfl rfl (by decide)) _).mono ?_
      rintro e w' ⟨rfl, hw'⟩
      obtain rfl := hw'.symm
      have tt := fun w' => Try.kt_lit [0, 106, 1, 112, 119, 123, 104, 101, 108, 111, 118] [(2, 0), (6, 0), (2, 1), (12, 0), (19, 0), (23, 0), (4, 0), (1, 0), (8, 0), (11, 0), (18, 0)] w' rfl (by decide) (by decide)
      dsimp only [List.map_cons, List.map_nil, List.length_cons, List.length_nil, Nat.zero_add, Nat.reduceAdd] at tt
      go_wp2_with fail
      refine (tt _).mono ?_
      rintro e x27 ⟨a27, c27, rfl, ho, hT, hb⟩
      have HB_27 : Hid (Below w.heap.size w x27) := below_step HB_26.out hb
      have Tk6_27 : Hid (TkSl x27 a6 11 c6 [(2, 0), (6, 0), (2, 1), (12, 0), (19, 0), (23, 0), (4, 0), (1, 0), (8, 0), (11, 0), (18, 0)]) := Tk6_26.out.up hb
      have Tk8_27 : Hid (TkSl x27 a8 4 c8 [(2, 0), (6, 0), (2, 1), (16, 0)]) := Tk8_26.out.up hb
      clear HB_26 Tk6_26 Tk8_26
      have Tk27_27 : Hid (TkSl x27 a27 11 c27 [(2, 0), (6, 0), (2, 1), (12, 0), (19, 0), (23, 0), (4, 0), (1, 0), (8, 0), (11, 0), (18, 0)]) := hT
      clear hT hb tt ho
      have jS := Try.sameT_any _ _ _ _ _ _ _ _ _ Tk6_27.out Tk27_27.out
      go_wp2_with fail
      refine jS.mono ?_
      rintro e x28 ⟨he, hb0⟩
      obtain rfl : e = .returned (.bool true) := by simpa using he
      have hb : Below x27.heap.size x27 x28 := by first | exact hb0 | (obtain ⟨n6, hw6⟩ := hb0; rw [hw6]; exact below_drewN (Below.refl _ _) n6)
      have HB_28 : Hid (Below w.heap.size w x28) := below_step HB_27.out hb
      have Tk6_28 : Hid (TkSl x28 a6 11 c6 [(2, 0), (6, 0), (2, 1), (12, 0), (19, 0), (23, 0), (4, 0), (1, 0), (8, 0), (11, 0), (18, 0)]) := Tk6_27.out.up hb
      have Tk8_28 : Hid (TkSl x28 a8 4 c8 [(2, 0), (6, 0), (2, 1), (16, 0)]) := Tk8_27.out.up hb
      have Tk27_28 : Hid (TkSl x28 a27 11 c27 [(2, 0), (6, 0), (2, 1), (12, 0), (19, 0), (23, 0), (4, 0), (1, 0), (8, 0), (11, 0), (18, 0)]) := Tk27_27.out.up hb
      clear HB_27 Tk6_27 Tk8_27 Tk27_27
      clear hb hb0 jS he
      clear Tk6_28 Tk27_28
      go_wp2_with fail
      refine ((HOP.out 16 16 116 rfl rfl (by decide)) _).mono ?_
      rintro e w' ⟨rfl, hw'⟩
      obtain rfl := hw'.symm
      have tt := fun w' => Try.kt_lit [0, 106, 1, 116] [(2, 0), (6, 0), (2, 1), (16, 0)] w' rfl (by decide) (by decide)
      dsimp only [List.map_cons, List.map_nil, List.length_cons, List.length_nil, Nat.zero_add, Nat.reduceAdd] at tt
      go_wp2_with fail
      refine (tt _).mono ?_
      rintro e x29 ⟨a29, c29, rfl, ho, hT, hb⟩
      have HB_29 : Hid (Below w.heap.size w x29) := below_step HB_28.out hb
      have Tk8_29 : Hid (TkSl x29 a8 4 c8 [(2, 0), (6, 0), (2, 1), (16, 0)]) := Tk8_28.out.up hb
      clear HB_28 Tk8_28
      have Tk29_29 : Hid (TkSl x29 a29 4 c29 [(2, 0), (6, 0), (2, 1), (16, 0)]) := hT
      clear hT hb tt ho
      have jS := Try.sameT_any _ _ _ _ _ _ _ _ _ Tk8_29.out Tk29_29.out
      go_wp2_with fail
      refine jS.mono ?_
      rintro e x30 ⟨he, hb0⟩
      obtain rfl : e = .returned (.bool true) := by simpa using he
      have hb : Below x29.heap.size x29 x30 := by first | exact hb0 | (obtain ⟨n6, hw6⟩ := hb0; rw [hw6]; exact below_drewN (Below.refl _ _) n6)
      have HB_30 : Hid (Below w.heap.size w x30) := below_step HB_29.out hb
      have Tk8_30 : Hid (TkSl x30 a8 4 c8 [(2, 0), (6, 0), (2, 1), (16, 0)]) := Tk8_29.out.up hb
      have Tk29_30 : Hid (TkSl x30 a29 4 c29 [(2, 0), (6, 0), (2, 1), (16, 0)]) := Tk29_29.out.up hb
      clear HB_29 Tk8_29 Tk29_29
      clear hb hb0 jS he
      clear Tk8_30 Tk29_30
      go_wp2_with fail
      refine (HAw.out _).mono ?_
      rintro e x31 ⟨rfl, hb⟩
      have HB_31 : Hid (Below w.heap.size w x31) := below_step HB_30.out hb
      clear HB_30
      clear hb
      go_wp2
      go_ret
      exact ⟨rfl, HB_31.out⟩
end Go.Proofs.Ytfgaieefejdkbaa
