/- Package mean: work. Written by mkwork.py. -/
import Derived.Test.YtfgaieefejdkbaaWMmB
import Derived.Deep.RegionHeld3
namespace Go.Proofs.Ytfgaieefejdkbaa
open Go.RowKit Go.Maps

set_option maxRecDepth 100000 in
set_option maxHeartbeats 3200000 in
theorem Try.mwork6_any (b n c hi : Nat) (d : Option Addr) (zs : List Int) (x : Sk) (px : Mp) (rest : List (Sk × Mp)) (w : World) (hL : LtSl w d n c zs) (hn : n ≤ 10000) (hS : StkAt w b w.heap.size ((((x, px) :: rest).map (·.2)).reverse)) (hP : Parts w n b hi ((x, px) :: rest)) (hh : hi ≤ w.heap.size) (hx : x.1 = false) (hr : rest.length ≤ 1000000) :
    Calls Try.prog 63 #[.pointer (some ⟨b, 0, none⟩), .agg #[.int .u8 6, .int .u8 0], .slice d n c] w (WorkR n b w (skT (zN zs) (6, 0) [x]) rest) := by
  have hlen : (zN zs).length = n := by rw [zN_len]; exact hL.sl.hlen
  obtain ⟨lo, hpx, hlo, hPr⟩ := hP
  obtain ⟨p1, p2⟩ := px
  rw [List.map_cons, List.reverse_cons] at hS
  dsimp only at hS
  obtain ⟨ga, av, hp1, hVa, hla, hva, _⟩ := hpx.2 hx
  dsimp only at hp1
  subst hp1
  have hw1 := below_new w (.cells #[.int .u8 6, .int .u8 0] 37)
  have hw2 := below_step hw1 (below_new (w.alloc (.cells #[.int .u8 6, .int .u8 0] 37)) (.cells #[.slice none 0 0, .slice none 0 0] 75))
  have hbox := (Below.heap_alloc (w.alloc (.cells #[.int .u8 6, .int .u8 0] 37)) (.cells #[.slice none 0 0, .slice none 0 0] 75) w.heap.size (by simp)).trans (MapKept.heap_alloc w _).1
  have hres := (MapKept.heap_alloc (w.alloc (.cells #[.int .u8 6, .int .u8 0] 37)) (.cells #[.slice none 0 0, .slice none 0 0] 75)).1
  have hsz : ((w.alloc (.cells #[.int .u8 6, .int .u8 0] 37)).alloc (.cells #[.slice none 0 0, .slice none 0 0] 75)).heap.size = w.heap.size + 2 := by simp
  rw [show (w.alloc (.cells #[.int .u8 6, .int .u8 0] 37)).heap.size = w.heap.size + 1 by simp] at hres
  clear hw1
  have HSEM : Hid (∀ i, unV n 6 x.2.1 i ↔ (skT (zN zs) (6, 0) [x]).2.1 i) := fun i => by
    show _ ↔ unV (zN zs).length 6 x.2.1 i
    rw [hlen]
  have HTY : Hid ((skT (zN zs) (6, 0) [x]).1 = false) := rfl
  generalize skT (zN zs) (6, 0) [x] = X at *
  have hone := fun W (h : ValAt W ga av) => Try.mone6_any n ga av x.2.1 W h hla hva hn
  generalize unV n 6 x.2.1 = VV at *
  have hbB := hS.lt
  have HPR : Hid (Parts w n b lo rest) := hPr
  have HVA : Hid (ValAt w ga av) := hVa
  have HS : Hid _ := hS
  clear hS hPr hVa hva hla hL hpx hlen
  go_enter Try.func63, Try.ntmps63
  go_wp2
  generalize (w.alloc (.cells #[.int .u8 6, .int .u8 0] 37)).alloc (.cells #[.slice none 0 0, .slice none 0 0] 75) = w2 at *
  have hS2 := HS.out.up hw2
  have htk := Try.mtake_any b w.heap.size _ _ w2.drew (hS2.up (Below.refl _ _).drew) (by simpa using hr)
  unfold slV at htk
  dsimp only at htk
  have hk0 := cell_row hbox 0
  simp at hk0
  have hfd := Try.fld0 (.slice (some ⟨ga, 0, none⟩) (n + 1) (n + 1)) (.slice p2.1 p2.2.1 p2.2.2)
  have hkS : ∀ W : World, W.cell? ⟨w.heap.size, 0, none⟩ = some (.int .u8 6) → ∀ u v, ((W.setCell ⟨w.heap.size + 1, 0, none⟩ u).setCell ⟨w.heap.size + 1, 1, none⟩ v).cell? ⟨w.heap.size, 0, none⟩ = some (.int .u8 6) := fun W h u v => by
    rw [World.cell?_setCell_other _ _ _ _ (by intro e; injection e; omega), World.cell?_setCell_other _ _ _ _ (by intro e; injection e; omega)]; exact h
  have HTK : Hid (∀ w3, StkAt w3 b w.heap.size ((rest.map (·.2)).reverse) → w2.drew.grownBy w3 (some b) → w3.cell? ⟨w.heap.size, 0, none⟩ = some (.int .u8 6) ∧ ValAt w3 ga av ∧ Parts w3 n b lo rest ∧ w3.heap[w.heap.size + 1]? = some (.cells #[.slice none 0 0, .slice none 0 0] 75 (0, 0)) ∧ Below b w w3) := fun w3 h1 h2 => by
    obtain ⟨v0, hv0, _⟩ := hS2.c
    have hK : KeepT w.heap.size w w3 := (KeepT.of_below hw2).trans (KeepT.of_grown (w := w2) ⟨h2.os, h2.tape, h2.output, h2.size, h2.block⟩ hv0 (by decide) (by decide) (by decide))
    refine ⟨(cell_row ((h2.block w.heap.size (by show _ < w2.heap.size; omega) (fun e => by injection e with e; omega)).trans hbox) 0).trans (by simp), (hK _ _ _ _ HVA.out (Or.inl rfl)).trans HVA.out, HPR.out.keep (hK.mono (by omega)), (h2.block _ (by show _ < w2.heap.size; omega) (fun e => by injection e with e; omega)).trans hres, ?_⟩
    exact ((hw2.mono (by omega)).trans ⟨h2.os, h2.tape, h2.output, h2.size, fun k hk => h2.block k (by show _ < w2.heap.size; omega) (fun e => by injection e with e; omega)⟩)
  have Hsz : Hid _ := hsz
  have HB2 : Hid _ := hw2
  clear hbox hS2 hsz hw2 hres
  go_region_held3 (fun w' => w'.cell? ⟨w.heap.size, 0, none⟩ = some (.int .u8 6)) (first | exact hk0 | assumption | exact hkS _ ‹_› _ _) (first | (go_at_call 64; refine htk.mono ?_; rintro e w3 ⟨rfl, hs3, hg3⟩; obtain ⟨k3, kv3, kp3, kr3, kb3⟩ := HTK.out _ hs3 hg3; clear hg3) | (go_at_call 74; refine (hone w3 kv3).mono ?_; rintro e w4 ⟨g, bs, rfl, hV, hl, hv, hb4, hge⟩; have k4 := kept_cell k3 hb4; have hr4 := (hb4.block _ (Array.getElem?_eq_some_iff.1 kr3).1).trans kr3; have c0 := cell_row hr4 0; have c1 := cell_row hr4 1; have z0 := frozen_of_row _ _ 0 _ _ hr4; have z1 := frozen_of_row _ _ 1 _ _ hr4; simp at c0 c1))
  go_wp2
  have f := set2_cells hr4 (.slice (some ⟨g, 0, none⟩) (n + 1) (n + 1)) (.slice none 0 0)
  refine bodyPost_ret (v := .agg #[.slice (some ⟨g, 0, none⟩) (n + 1) (n + 1), .slice none 0 0]) (by simp [results, Try.results63, go_sem, f.1, f.2.1]) rfl ?_
  unfold WorkR
  have q1 := HB2.out.size
  have q2 := hb4.size
  have q3 := (grown_set2 w4 (w.heap.size + 1) (.slice (some ⟨g, 0, none⟩) (n + 1) (n + 1)) (.slice none 0 0)).size
  have q4 := (Array.getElem?_eq_some_iff.1 kr3).1
  exact ⟨((some ⟨g, 0, none⟩, n + 1, n + 1), (none, 0, 0)), rfl, hs3.fin hb4 (grown_set2 ..) (by omega), ⟨lo, part_val HTY.out hV hl (fun i hi => (hv i hi).trans (HSEM.out i)) hb4 (grown_set2 ..) kr3 (by omega), by omega, kp3.keep (keep_fin hb4 (grown_set2 ..) kr3)⟩, work_below (kb3.trans (hb4.mono (by omega))) (by omega) _ _⟩
set_option maxRecDepth 100000 in
set_option maxHeartbeats 3200000 in
theorem Try.mwork7_any (b n c hi : Nat) (d : Option Addr) (zs : List Int) (x : Sk) (px : Mp) (rest : List (Sk × Mp)) (w : World) (hL : LtSl w d n c zs) (hn : n ≤ 10000) (hS : StkAt w b w.heap.size ((((x, px) :: rest).map (·.2)).reverse)) (hP : Parts w n b hi ((x, px) :: rest)) (hh : hi ≤ w.heap.size) (hx : x.1 = false) (hr : rest.length ≤ 1000000) :
    Calls Try.prog 63 #[.pointer (some ⟨b, 0, none⟩), .agg #[.int .u8 7, .int .u8 0], .slice d n c] w (WorkR n b w (skT (zN zs) (7, 0) [x]) rest) := by
  have hlen : (zN zs).length = n := by rw [zN_len]; exact hL.sl.hlen
  obtain ⟨lo, hpx, hlo, hPr⟩ := hP
  obtain ⟨p1, p2⟩ := px
  rw [List.map_cons, List.reverse_cons] at hS
  dsimp only at hS
  obtain ⟨ga, av, hp1, hVa, hla, hva, _⟩ := hpx.2 hx
  dsimp only at hp1
  subst hp1
  have hw1 := below_new w (.cells #[.int .u8 7, .int .u8 0] 37)
  have hw2 := below_step hw1 (below_new (w.alloc (.cells #[.int .u8 7, .int .u8 0] 37)) (.cells #[.slice none 0 0, .slice none 0 0] 75))
  have hbox := (Below.heap_alloc (w.alloc (.cells #[.int .u8 7, .int .u8 0] 37)) (.cells #[.slice none 0 0, .slice none 0 0] 75) w.heap.size (by simp)).trans (MapKept.heap_alloc w _).1
  have hres := (MapKept.heap_alloc (w.alloc (.cells #[.int .u8 7, .int .u8 0] 37)) (.cells #[.slice none 0 0, .slice none 0 0] 75)).1
  have hsz : ((w.alloc (.cells #[.int .u8 7, .int .u8 0] 37)).alloc (.cells #[.slice none 0 0, .slice none 0 0] 75)).heap.size = w.heap.size + 2 := by simp
  rw [show (w.alloc (.cells #[.int .u8 7, .int .u8 0] 37)).heap.size = w.heap.size + 1 by simp] at hres
  clear hw1
  have HSEM : Hid (∀ i, unV n 7 x.2.1 i ↔ (skT (zN zs) (7, 0) [x]).2.1 i) := fun i => by
    show _ ↔ unV (zN zs).length 7 x.2.1 i
    rw [hlen]
  have HTY : Hid ((skT (zN zs) (7, 0) [x]).1 = false) := rfl
  generalize skT (zN zs) (7, 0) [x] = X at *
  have hone := fun W (h : ValAt W ga av) => Try.mone7_any n ga av x.2.1 W h hla hva hn
  generalize unV n 7 x.2.1 = VV at *
  have hbB := hS.lt
  have HPR : Hid (Parts w n b lo rest) := hPr
  have HVA : Hid (ValAt w ga av) := hVa
  have HS : Hid _ := hS
  clear hS hPr hVa hva hla hL hpx hlen
  go_enter Try.func63, Try.ntmps63
  go_wp2
  generalize (w.alloc (.cells #[.int .u8 7, .int .u8 0] 37)).alloc (.cells #[.slice none 0 0, .slice none 0 0] 75) = w2 at *
  have hS2 := HS.out.up hw2
  have htk := Try.mtake_any b w.heap.size _ _ w2.drew (hS2.up (Below.refl _ _).drew) (by simpa using hr)
  unfold slV at htk
  dsimp only at htk
  have hk0 := cell_row hbox 0
  simp at hk0
  have hfd := Try.fld0 (.slice (some ⟨ga, 0, none⟩) (n + 1) (n + 1)) (.slice p2.1 p2.2.1 p2.2.2)
  have hkS : ∀ W : World, W.cell? ⟨w.heap.size, 0, none⟩ = some (.int .u8 7) → ∀ u v, ((W.setCell ⟨w.heap.size + 1, 0, none⟩ u).setCell ⟨w.heap.size + 1, 1, none⟩ v).cell? ⟨w.heap.size, 0, none⟩ = some (.int .u8 7) := fun W h u v => by
    rw [World.cell?_setCell_other _ _ _ _ (by intro e; injection e; omega), World.cell?_setCell_other _ _ _ _ (by intro e; injection e; omega)]; exact h
  have HTK : Hid (∀ w3, StkAt w3 b w.heap.size ((rest.map (·.2)).reverse) → w2.drew.grownBy w3 (some b) → w3.cell? ⟨w.heap.size, 0, none⟩ = some (.int .u8 7) ∧ ValAt w3 ga av ∧ Parts w3 n b lo rest ∧ w3.heap[w.heap.size + 1]? = some (.cells #[.slice none 0 0, .slice none 0 0] 75 (0, 0)) ∧ Below b w w3) := fun w3 h1 h2 => by
    obtain ⟨v0, hv0, _⟩ := hS2.c
    have hK : KeepT w.heap.size w w3 := (KeepT.of_below hw2).trans (KeepT.of_grown (w := w2) ⟨h2.os, h2.tape, h2.output, h2.size, h2.block⟩ hv0 (by decide) (by decide) (by decide))
    refine ⟨(cell_row ((h2.block w.heap.size (by show _ < w2.heap.size; omega) (fun e => by injection e with e; omega)).trans hbox) 0).trans (by simp), (hK _ _ _ _ HVA.out (Or.inl rfl)).trans HVA.out, HPR.out.keep (hK.mono (by omega)), (h2.block _ (by show _ < w2.heap.size; omega) (fun e => by injection e with e; omega)).trans hres, ?_⟩
    exact ((hw2.mono (by omega)).trans ⟨h2.os, h2.tape, h2.output, h2.size, fun k hk => h2.block k (by show _ < w2.heap.size; omega) (fun e => by injection e with e; omega)⟩)
  have Hsz : Hid _ := hsz
  have HB2 : Hid _ := hw2
  clear hbox hS2 hsz hw2 hres
  go_region_held3 (fun w' => w'.cell? ⟨w.heap.size, 0, none⟩ = some (.int .u8 7)) (first | exact hk0 | assumption | exact hkS _ ‹_› _ _) (first | (go_at_call 64; refine htk.mono ?_; rintro e w3 ⟨rfl, hs3, hg3⟩; obtain ⟨k3, kv3, kp3, kr3, kb3⟩ := HTK.out _ hs3 hg3; clear hg3) | (go_at_call 74; refine (hone w3 kv3).mono ?_; rintro e w4 ⟨g, bs, rfl, hV, hl, hv, hb4, hge⟩; have k4 := kept_cell k3 hb4; have hr4 := (hb4.block _ (Array.getElem?_eq_some_iff.1 kr3).1).trans kr3; have c0 := cell_row hr4 0; have c1 := cell_row hr4 1; have z0 := frozen_of_row _ _ 0 _ _ hr4; have z1 := frozen_of_row _ _ 1 _ _ hr4; simp at c0 c1))
  go_wp2
  have f := set2_cells hr4 (.slice (some ⟨g, 0, none⟩) (n + 1) (n + 1)) (.slice none 0 0)
  refine bodyPost_ret (v := .agg #[.slice (some ⟨g, 0, none⟩) (n + 1) (n + 1), .slice none 0 0]) (by simp [results, Try.results63, go_sem, f.1, f.2.1]) rfl ?_
  unfold WorkR
  have q1 := HB2.out.size
  have q2 := hb4.size
  have q3 := (grown_set2 w4 (w.heap.size + 1) (.slice (some ⟨g, 0, none⟩) (n + 1) (n + 1)) (.slice none 0 0)).size
  have q4 := (Array.getElem?_eq_some_iff.1 kr3).1
  exact ⟨((some ⟨g, 0, none⟩, n + 1, n + 1), (none, 0, 0)), rfl, hs3.fin hb4 (grown_set2 ..) (by omega), ⟨lo, part_val HTY.out hV hl (fun i hi => (hv i hi).trans (HSEM.out i)) hb4 (grown_set2 ..) kr3 (by omega), by omega, kp3.keep (keep_fin hb4 (grown_set2 ..) kr3)⟩, work_below (kb3.trans (hb4.mono (by omega))) (by omega) _ _⟩
set_option maxRecDepth 100000 in
set_option maxHeartbeats 3200000 in
theorem Try.mwork8_any (b n c hi : Nat) (d : Option Addr) (zs : List Int) (x : Sk) (px : Mp) (rest : List (Sk × Mp)) (w : World) (hL : LtSl w d n c zs) (hn : n ≤ 10000) (hS : StkAt w b w.heap.size ((((x, px) :: rest).map (·.2)).reverse)) (hP : Parts w n b hi ((x, px) :: rest)) (hh : hi ≤ w.heap.size) (hx : x.1 = false) (hr : rest.length ≤ 1000000) :
    Calls Try.prog 63 #[.pointer (some ⟨b, 0, none⟩), .agg #[.int .u8 8, .int .u8 0], .slice d n c] w (WorkR n b w (skT (zN zs) (8, 0) [x]) rest) := by
  have hlen : (zN zs).length = n := by rw [zN_len]; exact hL.sl.hlen
  obtain ⟨lo, hpx, hlo, hPr⟩ := hP
  obtain ⟨p1, p2⟩ := px
  rw [List.map_cons, List.reverse_cons] at hS
  dsimp only at hS
  obtain ⟨ga, av, hp1, hVa, hla, hva, _⟩ := hpx.2 hx
  dsimp only at hp1
  subst hp1
  have hw1 := below_new w (.cells #[.int .u8 8, .int .u8 0] 37)
  have hw2 := below_step hw1 (below_new (w.alloc (.cells #[.int .u8 8, .int .u8 0] 37)) (.cells #[.slice none 0 0, .slice none 0 0] 75))
  have hbox := (Below.heap_alloc (w.alloc (.cells #[.int .u8 8, .int .u8 0] 37)) (.cells #[.slice none 0 0, .slice none 0 0] 75) w.heap.size (by simp)).trans (MapKept.heap_alloc w _).1
  have hres := (MapKept.heap_alloc (w.alloc (.cells #[.int .u8 8, .int .u8 0] 37)) (.cells #[.slice none 0 0, .slice none 0 0] 75)).1
  have hsz : ((w.alloc (.cells #[.int .u8 8, .int .u8 0] 37)).alloc (.cells #[.slice none 0 0, .slice none 0 0] 75)).heap.size = w.heap.size + 2 := by simp
  rw [show (w.alloc (.cells #[.int .u8 8, .int .u8 0] 37)).heap.size = w.heap.size + 1 by simp] at hres
  clear hw1
  have HSEM : Hid (∀ i, unV n 8 x.2.1 i ↔ (skT (zN zs) (8, 0) [x]).2.1 i) := fun i => by
    show _ ↔ unV (zN zs).length 8 x.2.1 i
    rw [hlen]
  have HTY : Hid ((skT (zN zs) (8, 0) [x]).1 = false) := rfl
  generalize skT (zN zs) (8, 0) [x] = X at *
  have hone := fun W (h : ValAt W ga av) => Try.mone8_any n ga av x.2.1 W h hla hva hn
  generalize unV n 8 x.2.1 = VV at *
  have hbB := hS.lt
  have HPR : Hid (Parts w n b lo rest) := hPr
  have HVA : Hid (ValAt w ga av) := hVa
  have HS : Hid _ := hS
  clear hS hPr hVa hva hla hL hpx hlen
  go_enter Try.func63, Try.ntmps63
  go_wp2
  generalize (w.alloc (.cells #[.int .u8 8, .int .u8 0] 37)).alloc (.cells #[.slice none 0 0, .slice none 0 0] 75) = w2 at *
  have hS2 := HS.out.up hw2
  have htk := Try.mtake_any b w.heap.size _ _ w2.drew (hS2.up (Below.refl _ _).drew) (by simpa using hr)
  unfold slV at htk
  dsimp only at htk
  have hk0 := cell_row hbox 0
  simp at hk0
  have hfd := Try.fld0 (.slice (some ⟨ga, 0, none⟩) (n + 1) (n + 1)) (.slice p2.1 p2.2.1 p2.2.2)
  have hkS : ∀ W : World, W.cell? ⟨w.heap.size, 0, none⟩ = some (.int .u8 8) → ∀ u v, ((W.setCell ⟨w.heap.size + 1, 0, none⟩ u).setCell ⟨w.heap.size + 1, 1, none⟩ v).cell? ⟨w.heap.size, 0, none⟩ = some (.int .u8 8) := fun W h u v => by
    rw [World.cell?_setCell_other _ _ _ _ (by intro e; injection e; omega), World.cell?_setCell_other _ _ _ _ (by intro e; injection e; omega)]; exact h
  have HTK : Hid (∀ w3, StkAt w3 b w.heap.size ((rest.map (·.2)).reverse) → w2.drew.grownBy w3 (some b) → w3.cell? ⟨w.heap.size, 0, none⟩ = some (.int .u8 8) ∧ ValAt w3 ga av ∧ Parts w3 n b lo rest ∧ w3.heap[w.heap.size + 1]? = some (.cells #[.slice none 0 0, .slice none 0 0] 75 (0, 0)) ∧ Below b w w3) := fun w3 h1 h2 => by
    obtain ⟨v0, hv0, _⟩ := hS2.c
    have hK : KeepT w.heap.size w w3 := (KeepT.of_below hw2).trans (KeepT.of_grown (w := w2) ⟨h2.os, h2.tape, h2.output, h2.size, h2.block⟩ hv0 (by decide) (by decide) (by decide))
    refine ⟨(cell_row ((h2.block w.heap.size (by show _ < w2.heap.size; omega) (fun e => by injection e with e; omega)).trans hbox) 0).trans (by simp), (hK _ _ _ _ HVA.out (Or.inl rfl)).trans HVA.out, HPR.out.keep (hK.mono (by omega)), (h2.block _ (by show _ < w2.heap.size; omega) (fun e => by injection e with e; omega)).trans hres, ?_⟩
    exact ((hw2.mono (by omega)).trans ⟨h2.os, h2.tape, h2.output, h2.size, fun k hk => h2.block k (by show _ < w2.heap.size; omega) (fun e => by injection e with e; omega)⟩)
  have Hsz : Hid _ := hsz
  have HB2 : Hid _ := hw2
  clear hbox hS2 hsz hw2 hres
  go_region_held3 (fun w' => w'.cell? ⟨w.heap.size, 0, none⟩ = some (.int .u8 8)) (first | exact hk0 | assumption | exact hkS _ ‹_› _ _) (first | (go_at_call 64; refine htk.mono ?_; rintro e w3 ⟨rfl, hs3, hg3⟩; obtain ⟨k3, kv3, kp3, kr3, kb3⟩ := HTK.out _ hs3 hg3; clear hg3) | (go_at_call 74; refine (hone w3 kv3).mono ?_; rintro e w4 ⟨g, bs, rfl, hV, hl, hv, hb4, hge⟩; have k4 := kept_cell k3 hb4; have hr4 := (hb4.block _ (Array.getElem?_eq_some_iff.1 kr3).1).trans kr3; have c0 := cell_row hr4 0; have c1 := cell_row hr4 1; have z0 := frozen_of_row _ _ 0 _ _ hr4; have z1 := frozen_of_row _ _ 1 _ _ hr4; simp at c0 c1))
  go_wp2
  have f := set2_cells hr4 (.slice (some ⟨g, 0, none⟩) (n + 1) (n + 1)) (.slice none 0 0)
  refine bodyPost_ret (v := .agg #[.slice (some ⟨g, 0, none⟩) (n + 1) (n + 1), .slice none 0 0]) (by simp [results, Try.results63, go_sem, f.1, f.2.1]) rfl ?_
  unfold WorkR
  have q1 := HB2.out.size
  have q2 := hb4.size
  have q3 := (grown_set2 w4 (w.heap.size + 1) (.slice (some ⟨g, 0, none⟩) (n + 1) (n + 1)) (.slice none 0 0)).size
  have q4 := (Array.getElem?_eq_some_iff.1 kr3).1
  exact ⟨((some ⟨g, 0, none⟩, n + 1, n + 1), (none, 0, 0)), rfl, hs3.fin hb4 (grown_set2 ..) (by omega), ⟨lo, part_val HTY.out hV hl (fun i hi => (hv i hi).trans (HSEM.out i)) hb4 (grown_set2 ..) kr3 (by omega), by omega, kp3.keep (keep_fin hb4 (grown_set2 ..) kr3)⟩, work_below (kb3.trans (hb4.mono (by omega))) (by omega) _ _⟩
set_option maxRecDepth 100000 in
set_option maxHeartbeats 3200000 in
theorem Try.mwork9_any (b n c hi : Nat) (d : Option Addr) (zs : List Int) (x : Sk) (px : Mp) (rest : List (Sk × Mp)) (w : World) (hL : LtSl w d n c zs) (hn : n ≤ 10000) (hS : StkAt w b w.heap.size ((((x, px) :: rest).map (·.2)).reverse)) (hP : Parts w n b hi ((x, px) :: rest)) (hh : hi ≤ w.heap.size) (hx : x.1 = false) (hr : rest.length ≤ 1000000) :
    Calls Try.prog 63 #[.pointer (some ⟨b, 0, none⟩), .agg #[.int .u8 9, .int .u8 0], .slice d n c] w (WorkR n b w (skT (zN zs) (9, 0) [x]) rest) := by
  have hlen : (zN zs).length = n := by rw [zN_len]; exact hL.sl.hlen
  obtain ⟨lo, hpx, hlo, hPr⟩ := hP
  obtain ⟨p1, p2⟩ := px
  rw [List.map_cons, List.reverse_cons] at hS
  dsimp only at hS
  obtain ⟨ga, av, hp1, hVa, hla, hva, _⟩ := hpx.2 hx
  dsimp only at hp1
  subst hp1
  have hw1 := below_new w (.cells #[.int .u8 9, .int .u8 0] 37)
  have hw2 := below_step hw1 (below_new (w.alloc (.cells #[.int .u8 9, .int .u8 0] 37)) (.cells #[.slice none 0 0, .slice none 0 0] 75))
  have hbox := (Below.heap_alloc (w.alloc (.cells #[.int .u8 9, .int .u8 0] 37)) (.cells #[.slice none 0 0, .slice none 0 0] 75) w.heap.size (by simp)).trans (MapKept.heap_alloc w _).1
  have hres := (MapKept.heap_alloc (w.alloc (.cells #[.int .u8 9, .int .u8 0] 37)) (.cells #[.slice none 0 0, .slice none 0 0] 75)).1
  have hsz : ((w.alloc (.cells #[.int .u8 9, .int .u8 0] 37)).alloc (.cells #[.slice none 0 0, .slice none 0 0] 75)).heap.size = w.heap.size + 2 := by simp
  rw [show (w.alloc (.cells #[.int .u8 9, .int .u8 0] 37)).heap.size = w.heap.size + 1 by simp] at hres
  clear hw1
  have HSEM : Hid (∀ i, unV n 9 x.2.1 i ↔ (skT (zN zs) (9, 0) [x]).2.1 i) := fun i => by
    show _ ↔ unV (zN zs).length 9 x.2.1 i
    rw [hlen]
  have HTY : Hid ((skT (zN zs) (9, 0) [x]).1 = false) := rfl
  generalize skT (zN zs) (9, 0) [x] = X at *
  have hone := fun W (h : ValAt W ga av) => Try.mone9_any n ga av x.2.1 W h hla hva hn
  generalize unV n 9 x.2.1 = VV at *
  have hbB := hS.lt
  have HPR : Hid (Parts w n b lo rest) := hPr
  have HVA : Hid (ValAt w ga av) := hVa
  have HS : Hid _ := hS
  clear hS hPr hVa hva hla hL hpx hlen
  go_enter Try.func63, Try.ntmps63
  go_wp2
  generalize (w.alloc (.cells #[.int .u8 9, .int .u8 0] 37)).alloc (.cells #[.slice none 0 0, .slice none 0 0] 75) = w2 at *
  have hS2 := HS.out.up hw2
  have htk := Try.mtake_any b w.heap.size _ _ w2.drew (hS2.up (Below.refl _ _).drew) (by simpa using hr)
  unfold slV at htk
  dsimp only at htk
  have hk0 := cell_row hbox 0
  simp at hk0
  have hfd := Try.fld0 (.slice (some ⟨ga, 0, none⟩) (n + 1) (n + 1)) (.slice p2.1 p2.2.1 p2.2.2)
  have hkS : ∀ W : World, W.cell? ⟨w.heap.size, 0, none⟩ = some (.int .u8 9) → ∀ u v, ((W.setCell ⟨w.heap.size + 1, 0, none⟩ u).setCell ⟨w.heap.size + 1, 1, none⟩ v).cell? ⟨w.heap.size, 0, none⟩ = some (.int .u8 9) := fun W h u v => by
    rw [World.cell?_setCell_other _ _ _ _ (by intro e; injection e; omega), World.cell?_setCell_other _ _ _ _ (by intro e; injection e; omega)]; exact h
  have HTK : Hid (∀ w3, StkAt w3 b w.heap.size ((rest.map (·.2)).reverse) → w2.drew.grownBy w3 (some b) → w3.cell? ⟨w.heap.size, 0, none⟩ = some (.int .u8 9) ∧ ValAt w3 ga av ∧ Parts w3 n b lo rest ∧ w3.heap[w.heap.size + 1]? = some (.cells #[.slice none 0 0, .slice none 0 0] 75 (0, 0)) ∧ Below b w w3) := fun w3 h1 h2 => by
    obtain ⟨v0, hv0, _⟩ := hS2.c
    have hK : KeepT w.heap.size w w3 := (KeepT.of_below hw2).trans (KeepT.of_grown (w := w2) ⟨h2.os, h2.tape, h2.output, h2.size, h2.block⟩ hv0 (by decide) (by decide) (by decide))
    refine ⟨(cell_row ((h2.block w.heap.size (by show _ < w2.heap.size; omega) (fun e => by injection e with e; omega)).trans hbox) 0).trans (by simp), (hK _ _ _ _ HVA.out (Or.inl rfl)).trans HVA.out, HPR.out.keep (hK.mono (by omega)), (h2.block _ (by show _ < w2.heap.size; omega) (fun e => by injection e with e; omega)).trans hres, ?_⟩
    exact ((hw2.mono (by omega)).trans ⟨h2.os, h2.tape, h2.output, h2.size, fun k hk => h2.block k (by show _ < w2.heap.size; omega) (fun e => by injection e with e; omega)⟩)
  have Hsz : Hid _ := hsz
  have HB2 : Hid _ := hw2
  clear hbox hS2 hsz hw2 hres
  go_region_held3 (fun w' => w'.cell? ⟨w.heap.size, 0, none⟩ = some (.int .u8 9)) (first | exact hk0 | assumption | exact hkS _ ‹_› _ _) (first | (go_at_call 64; refine htk.mono ?_; rintro e w3 ⟨rfl, hs3, hg3⟩; obtain ⟨k3, kv3, kp3, kr3, kb3⟩ := HTK.out _ hs3 hg3; clear hg3) | (go_at_call 74; refine (hone w3 kv3).mono ?_; rintro e w4 ⟨g, bs, rfl, hV, hl, hv, hb4, hge⟩; have k4 := kept_cell k3 hb4; have hr4 := (hb4.block _ (Array.getElem?_eq_some_iff.1 kr3).1).trans kr3; have c0 := cell_row hr4 0; have c1 := cell_row hr4 1; have z0 := frozen_of_row _ _ 0 _ _ hr4; have z1 := frozen_of_row _ _ 1 _ _ hr4; simp at c0 c1))
  go_wp2
  have f := set2_cells hr4 (.slice (some ⟨g, 0, none⟩) (n + 1) (n + 1)) (.slice none 0 0)
  refine bodyPost_ret (v := .agg #[.slice (some ⟨g, 0, none⟩) (n + 1) (n + 1), .slice none 0 0]) (by simp [results, Try.results63, go_sem, f.1, f.2.1]) rfl ?_
  unfold WorkR
  have q1 := HB2.out.size
  have q2 := hb4.size
  have q3 := (grown_set2 w4 (w.heap.size + 1) (.slice (some ⟨g, 0, none⟩) (n + 1) (n + 1)) (.slice none 0 0)).size
  have q4 := (Array.getElem?_eq_some_iff.1 kr3).1
  exact ⟨((some ⟨g, 0, none⟩, n + 1, n + 1), (none, 0, 0)), rfl, hs3.fin hb4 (grown_set2 ..) (by omega), ⟨lo, part_val HTY.out hV hl (fun i hi => (hv i hi).trans (HSEM.out i)) hb4 (grown_set2 ..) kr3 (by omega), by omega, kp3.keep (keep_fin hb4 (grown_set2 ..) kr3)⟩, work_below (kb3.trans (hb4.mono (by omega))) (by omega) _ _⟩
set_option maxRecDepth 100000 in
set_option maxHeartbeats 3200000 in
theorem Try.mwork10_any (b n c hi : Nat) (d : Option Addr) (zs : List Int) (x : Sk) (px : Mp) (rest : List (Sk × Mp)) (w : World) (hL : LtSl w d n c zs) (hn : n ≤ 10000) (hS : StkAt w b w.heap.size ((((x, px) :: rest).map (·.2)).reverse)) (hP : Parts w n b hi ((x, px) :: rest)) (hh : hi ≤ w.heap.size) (hx : x.1 = false) (hr : rest.length ≤ 1000000) :
    Calls Try.prog 63 #[.pointer (some ⟨b, 0, none⟩), .agg #[.int .u8 10, .int .u8 0], .slice d n c] w (WorkR n b w (skT (zN zs) (10, 0) [x]) rest) := by
  have hlen : (zN zs).length = n := by rw [zN_len]; exact hL.sl.hlen
  obtain ⟨lo, hpx, hlo, hPr⟩ := hP
  obtain ⟨p1, p2⟩ := px
  rw [List.map_cons, List.reverse_cons] at hS
  dsimp only at hS
  obtain ⟨ga, av, hp1, hVa, hla, hva, _⟩ := hpx.2 hx
  dsimp only at hp1
  subst hp1
  have hw1 := below_new w (.cells #[.int .u8 10, .int .u8 0] 37)
  have hw2 := below_step hw1 (below_new (w.alloc (.cells #[.int .u8 10, .int .u8 0] 37)) (.cells #[.slice none 0 0, .slice none 0 0] 75))
  have hbox := (Below.heap_alloc (w.alloc (.cells #[.int .u8 10, .int .u8 0] 37)) (.cells #[.slice none 0 0, .slice none 0 0] 75) w.heap.size (by simp)).trans (MapKept.heap_alloc w _).1
  have hres := (MapKept.heap_alloc (w.alloc (.cells #[.int .u8 10, .int .u8 0] 37)) (.cells #[.slice none 0 0, .slice none 0 0] 75)).1
  have hsz : ((w.alloc (.cells #[.int .u8 10, .int .u8 0] 37)).alloc (.cells #[.slice none 0 0, .slice none 0 0] 75)).heap.size = w.heap.size + 2 := by simp
  rw [show (w.alloc (.cells #[.int .u8 10, .int .u8 0] 37)).heap.size = w.heap.size + 1 by simp] at hres
  clear hw1
  have HSEM : Hid (∀ i, unV n 10 x.2.1 i ↔ (skT (zN zs) (10, 0) [x]).2.1 i) := fun i => by
    show _ ↔ unV (zN zs).length 10 x.2.1 i
    rw [hlen]
  have HTY : Hid ((skT (zN zs) (10, 0) [x]).1 = false) := rfl
  generalize skT (zN zs) (10, 0) [x] = X at *
  have hone := fun W (h : ValAt W ga av) => Try.mone10_any n ga av x.2.1 W h hla hva hn
  generalize unV n 10 x.2.1 = VV at *
  have hbB := hS.lt
  have HPR : Hid (Parts w n b lo rest) := hPr
  have HVA : Hid (ValAt w ga av) := hVa
  have HS : Hid _ := hS
  clear hS hPr hVa hva hla hL hpx hlen
  go_enter Try.func63, Try.ntmps63
  go_wp2
  generalize (w.alloc (.cells #[.int .u8 10, .int .u8 0] 37)).alloc (.cells #[.slice none 0 0, .slice none 0 0] 75) = w2 at *
  have hS2 := HS.out.up hw2
  have htk := Try.mtake_any b w.heap.size _ _ w2.drew (hS2.up (Below.refl _ _).drew) (by simpa using hr)
  unfold slV at htk
  dsimp only at htk
  have hk0 := cell_row hbox 0
  simp at hk0
  have hfd := Try.fld0 (.slice (some ⟨ga, 0, none⟩) (n + 1) (n + 1)) (.slice p2.1 p2.2.1 p2.2.2)
  have hkS : ∀ W : World, W.cell? ⟨w.heap.size, 0, none⟩ = some (.int .u8 10) → ∀ u v, ((W.setCell ⟨w.heap.size + 1, 0, none⟩ u).setCell ⟨w.heap.size + 1, 1, none⟩ v).cell? ⟨w.heap.size, 0, none⟩ = some (.int .u8 10) := fun W h u v => by
    rw [World.cell?_setCell_other _ _ _ _ (by intro e; injection e; omega), World.cell?_setCell_other _ _ _ _ (by intro e; injection e; omega)]; exact h
  have HTK : Hid (∀ w3, StkAt w3 b w.heap.size ((rest.map (·.2)).reverse) → w2.drew.grownBy w3 (some b) → w3.cell? ⟨w.heap.size, 0, none⟩ = some (.int .u8 10) ∧ ValAt w3 ga av ∧ Parts w3 n b lo rest ∧ w3.heap[w.heap.size + 1]? = some (.cells #[.slice none 0 0, .slice none 0 0] 75 (0, 0)) ∧ Below b w w3) := fun w3 h1 h2 => by
    obtain ⟨v0, hv0, _⟩ := hS2.c
    have hK : KeepT w.heap.size w w3 := (KeepT.of_below hw2).trans (KeepT.of_grown (w := w2) ⟨h2.os, h2.tape, h2.output, h2.size, h2.block⟩ hv0 (by decide) (by decide) (by decide))
    refine ⟨(cell_row ((h2.block w.heap.size (by show _ < w2.heap.size; omega) (fun e => by injection e with e; omega)).trans hbox) 0).trans (by simp), (hK _ _ _ _ HVA.out (Or.inl rfl)).trans HVA.out, HPR.out.keep (hK.mono (by omega)), (h2.block _ (by show _ < w2.heap.size; omega) (fun e => by injection e with e; omega)).trans hres, ?_⟩
    exact ((hw2.mono (by omega)).trans ⟨h2.os, h2.tape, h2.output, h2.size, fun k hk => h2.block k (by show _ < w2.heap.size; omega) (fun e => by injection e with e; omega)⟩)
  have Hsz : Hid _ := hsz
  have HB2 : Hid _ := hw2
  clear hbox hS2 hsz hw2 hres
  go_region_held3 (fun w' => w'.cell? ⟨w.heap.size, 0, none⟩ = some (.int .u8 10)) (first | exact hk0 | assumption | exact hkS _ ‹_› _ _) (first | (go_at_call 64; refine htk.mono ?_; rintro e w3 ⟨rfl, hs3, hg3⟩; obtain ⟨k3, kv3, kp3, kr3, kb3⟩ := HTK.out _ hs3 hg3; clear hg3) | (go_at_call 74; refine (hone w3 kv3).mono ?_; rintro e w4 ⟨g, bs, rfl, hV, hl, hv, hb4, hge⟩; have k4 := kept_cell k3 hb4; have hr4 := (hb4.block _ (Array.getElem?_eq_some_iff.1 kr3).1).trans kr3; have c0 := cell_row hr4 0; have c1 := cell_row hr4 1; have z0 := frozen_of_row _ _ 0 _ _ hr4; have z1 := frozen_of_row _ _ 1 _ _ hr4; simp at c0 c1))
  go_wp2
  have f := set2_cells hr4 (.slice (some ⟨g, 0, none⟩) (n + 1) (n + 1)) (.slice none 0 0)
  refine bodyPost_ret (v := .agg #[.slice (some ⟨g, 0, none⟩) (n + 1) (n + 1), .slice none 0 0]) (by simp [results, Try.results63, go_sem, f.1, f.2.1]) rfl ?_
  unfold WorkR
  have q1 := HB2.out.size
  have q2 := hb4.size
  have q3 := (grown_set2 w4 (w.heap.size + 1) (.slice (some ⟨g, 0, none⟩) (n + 1) (n + 1)) (.slice none 0 0)).size
  have q4 := (Array.getElem?_eq_some_iff.1 kr3).1
  exact ⟨((some ⟨g, 0, none⟩, n + 1, n + 1), (none, 0, 0)), rfl, hs3.fin hb4 (grown_set2 ..) (by omega), ⟨lo, part_val HTY.out hV hl (fun i hi => (hv i hi).trans (HSEM.out i)) hb4 (grown_set2 ..) kr3 (by omega), by omega, kp3.keep (keep_fin hb4 (grown_set2 ..) kr3)⟩, work_below (kb3.trans (hb4.mono (by omega))) (by omega) _ _⟩
end Go.Proofs.Ytfgaieefejdkbaa
