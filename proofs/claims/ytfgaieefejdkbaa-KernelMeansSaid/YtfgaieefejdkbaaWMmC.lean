/- Package mean: work. Written by mkwork.py. -/
import Derived.Test.YtfgaieefejdkbaaWMmB
import Derived.Deep.RegionHeld3
namespace Go.Proofs.Ytfgaieefejdkbaa
open Go.RowKit Go.Maps

set_option maxRecDepth 100000 in
set_option maxHeartbeats 1600000 in
theorem Try.mwork0_any (b n c hi : Nat) (d : Option Addr) (zs : List Int) (rest : List (Sk × Mp)) (w : World) (hL : LtSl w d n c zs) (hn : n ≤ 10000) (hS : StkAt w b w.heap.size ((rest.map (·.2)).reverse)) (hP : Parts w n b hi rest) (hh : hi ≤ w.heap.size) :
    Calls Try.prog 63 #[.pointer (some ⟨b, 0, none⟩), .agg #[.int .u8 0, .int .u8 0], .slice d n c] w (WorkR n b w (skT (zN zs) (0, 0) []) rest) := by
  have hlen : (zN zs).length = n := by rw [zN_len]; exact hL.sl.hlen
  have hw1 := below_new w (.cells #[.int .u8 0, .int .u8 0] 37)
  have hw2 := below_step hw1 (below_new (w.alloc (.cells #[.int .u8 0, .int .u8 0] 37)) (.cells #[.slice none 0 0, .slice none 0 0] 75))
  have hbox := (Below.heap_alloc (w.alloc (.cells #[.int .u8 0, .int .u8 0] 37)) (.cells #[.slice none 0 0, .slice none 0 0] 75) w.heap.size (by simp)).trans (MapKept.heap_alloc w _).1
  have hres := (MapKept.heap_alloc (w.alloc (.cells #[.int .u8 0, .int .u8 0] 37)) (.cells #[.slice none 0 0, .slice none 0 0] 75)).1
  have hsz : ((w.alloc (.cells #[.int .u8 0, .int .u8 0] 37)).alloc (.cells #[.slice none 0 0, .slice none 0 0] 75)).heap.size = w.heap.size + 2 := by simp
  rw [show (w.alloc (.cells #[.int .u8 0, .int .u8 0] 37)).heap.size = w.heap.size + 1 by simp] at hres
  clear hw1
  have hcall := fun W (h : Below w.heap.size w W) => Try.malone0_any n c d zs W (hL.up h) hn
  have HS : Hid _ := hS
  have HP : Hid _ := hP
  have hbB := hS.lt
  clear hS hP hL
  go_enter Try.func63, Try.ntmps63
  go_wp2_with fail
  generalize (w.alloc (.cells #[.int .u8 0, .int .u8 0] 37)).alloc (.cells #[.slice none 0 0, .slice none 0 0] 75) = w2 at *
  refine (hcall w2 hw2).mono ?_
  rintro e w3 ⟨g, bs, rfl, hV, hl, hv, hb3, hge⟩
  have Hge : Hid (b ≤ g) := by show _ ≤ _; omega
  clear hge
  have hr3 := (hb3.block (w.heap.size + 1) (by omega)).trans hres
  have c0 := cell_row hr3 0
  have c1 := cell_row hr3 1
  have z0 := frozen_of_row _ _ 0 _ _ hr3
  have z1 := frozen_of_row _ _ 1 _ _ hr3
  simp at c0 c1
  have HV : Hid (ValAt w3 g bs) := hV
  have Hl : Hid (bs.length = n + 1) := hl
  have Hv : Hid _ := hv
  have HB2 : Hid _ := hw2
  have HB3 : Hid _ := hb3
  have HR : Hid _ := hres
  have HRR : Hid _ := hr3
  have Hsz : Hid _ := hsz
  clear hcall hbox hV hl hv hw2 hb3 hres hr3 hsz
  go_wp2
  have f := set2_cells HRR.out (.slice (some ⟨g, 0, none⟩) (n + 1) (n + 1)) (.slice none 0 0)
  refine bodyPost_ret (v := .agg #[.slice (some ⟨g, 0, none⟩) (n + 1) (n + 1), .slice none 0 0]) (by simp [results, Try.results63, go_sem, f.1, f.2.1]) rfl ?_
  unfold WorkR
  have q1 := HB2.out.size
  have q2 := HB3.out.size
  have q3 := (grown_set2 w3 (w.heap.size + 1) (.slice (some ⟨g, 0, none⟩) (n + 1) (n + 1)) (.slice none 0 0)).size
  exact ⟨((some ⟨g, 0, none⟩, n + 1, n + 1), (none, 0, 0)), rfl, (HS.out.up HB2.out).fin HB3.out (grown_set2 ..) (by omega), ⟨hi, part_val rfl HV.out Hl.out Hv.out HB3.out (grown_set2 ..) HR.out Hge.out, by omega, (HP.out.keep (KeepT.of_below HB2.out)).keep (keep_fin HB3.out (grown_set2 ..) HR.out)⟩, work_below ((below_step HB2.out HB3.out).mono (by omega)) (by omega) _ _⟩
set_option maxRecDepth 100000 in
set_option maxHeartbeats 1600000 in
theorem Try.mwork1_any (b n c hi : Nat) (d : Option Addr) (zs : List Int) (rest : List (Sk × Mp)) (w : World) (hL : LtSl w d n c zs) (hn : n ≤ 10000) (hS : StkAt w b w.heap.size ((rest.map (·.2)).reverse)) (hP : Parts w n b hi rest) (hh : hi ≤ w.heap.size) :
    Calls Try.prog 63 #[.pointer (some ⟨b, 0, none⟩), .agg #[.int .u8 1, .int .u8 0], .slice d n c] w (WorkR n b w (skT (zN zs) (1, 0) []) rest) := by
  have hlen : (zN zs).length = n := by rw [zN_len]; exact hL.sl.hlen
  have hw1 := below_new w (.cells #[.int .u8 1, .int .u8 0] 37)
  have hw2 := below_step hw1 (below_new (w.alloc (.cells #[.int .u8 1, .int .u8 0] 37)) (.cells #[.slice none 0 0, .slice none 0 0] 75))
  have hbox := (Below.heap_alloc (w.alloc (.cells #[.int .u8 1, .int .u8 0] 37)) (.cells #[.slice none 0 0, .slice none 0 0] 75) w.heap.size (by simp)).trans (MapKept.heap_alloc w _).1
  have hres := (MapKept.heap_alloc (w.alloc (.cells #[.int .u8 1, .int .u8 0] 37)) (.cells #[.slice none 0 0, .slice none 0 0] 75)).1
  have hsz : ((w.alloc (.cells #[.int .u8 1, .int .u8 0] 37)).alloc (.cells #[.slice none 0 0, .slice none 0 0] 75)).heap.size = w.heap.size + 2 := by simp
  rw [show (w.alloc (.cells #[.int .u8 1, .int .u8 0] 37)).heap.size = w.heap.size + 1 by simp] at hres
  clear hw1
  have hcall := fun W (h : Below w.heap.size w W) => Try.malone1_any n c d zs W (hL.up h) hn
  have HS : Hid _ := hS
  have HP : Hid _ := hP
  have hbB := hS.lt
  clear hS hP hL
  go_enter Try.func63, Try.ntmps63
  go_wp2_with fail
  generalize (w.alloc (.cells #[.int .u8 1, .int .u8 0] 37)).alloc (.cells #[.slice none 0 0, .slice none 0 0] 75) = w2 at *
  refine (hcall w2 hw2).mono ?_
  rintro e w3 ⟨g, bs, rfl, hV, hl, hv, hb3, hge⟩
  have Hge : Hid (b ≤ g) := by show _ ≤ _; omega
  clear hge
  have hr3 := (hb3.block (w.heap.size + 1) (by omega)).trans hres
  have c0 := cell_row hr3 0
  have c1 := cell_row hr3 1
  have z0 := frozen_of_row _ _ 0 _ _ hr3
  have z1 := frozen_of_row _ _ 1 _ _ hr3
  simp at c0 c1
  have HV : Hid (ValAt w3 g bs) := hV
  have Hl : Hid (bs.length = n + 1) := hl
  have Hv : Hid _ := hv
  have HB2 : Hid _ := hw2
  have HB3 : Hid _ := hb3
  have HR : Hid _ := hres
  have HRR : Hid _ := hr3
  have Hsz : Hid _ := hsz
  clear hcall hbox hV hl hv hw2 hb3 hres hr3 hsz
  go_wp2
  have f := set2_cells HRR.out (.slice (some ⟨g, 0, none⟩) (n + 1) (n + 1)) (.slice none 0 0)
  refine bodyPost_ret (v := .agg #[.slice (some ⟨g, 0, none⟩) (n + 1) (n + 1), .slice none 0 0]) (by simp [results, Try.results63, go_sem, f.1, f.2.1]) rfl ?_
  unfold WorkR
  have q1 := HB2.out.size
  have q2 := HB3.out.size
  have q3 := (grown_set2 w3 (w.heap.size + 1) (.slice (some ⟨g, 0, none⟩) (n + 1) (n + 1)) (.slice none 0 0)).size
  exact ⟨((some ⟨g, 0, none⟩, n + 1, n + 1), (none, 0, 0)), rfl, (HS.out.up HB2.out).fin HB3.out (grown_set2 ..) (by omega), ⟨hi, part_val rfl HV.out Hl.out Hv.out HB3.out (grown_set2 ..) HR.out Hge.out, by omega, (HP.out.keep (KeepT.of_below HB2.out)).keep (keep_fin HB3.out (grown_set2 ..) HR.out)⟩, work_below ((below_step HB2.out HB3.out).mono (by omega)) (by omega) _ _⟩
set_option maxRecDepth 100000 in
set_option maxHeartbeats 1600000 in
theorem Try.mwork2_any (b n c hi p : Nat) (d : Option Addr) (zs : List Int) (rest : List (Sk × Mp)) (w : World) (hL : LtSl w d n c zs) (hn : n ≤ 10000) (hp : p ≤ 7) (hS : StkAt w b w.heap.size ((rest.map (·.2)).reverse)) (hP : Parts w n b hi rest) (hh : hi ≤ w.heap.size) :
    Calls Try.prog 63 #[.pointer (some ⟨b, 0, none⟩), .agg #[.int .u8 2, .int .u8 (p : Int)], .slice d n c] w (WorkR n b w (skT (zN zs) (2, p) []) rest) := by
  have hlen : (zN zs).length = n := by rw [zN_len]; exact hL.sl.hlen
  have hw1 := below_new w (.cells #[.int .u8 2, .int .u8 (p : Int)] 37)
  have hw2 := below_step hw1 (below_new (w.alloc (.cells #[.int .u8 2, .int .u8 (p : Int)] 37)) (.cells #[.slice none 0 0, .slice none 0 0] 75))
  have hbox := (Below.heap_alloc (w.alloc (.cells #[.int .u8 2, .int .u8 (p : Int)] 37)) (.cells #[.slice none 0 0, .slice none 0 0] 75) w.heap.size (by simp)).trans (MapKept.heap_alloc w _).1
  have hres := (MapKept.heap_alloc (w.alloc (.cells #[.int .u8 2, .int .u8 (p : Int)] 37)) (.cells #[.slice none 0 0, .slice none 0 0] 75)).1
  have hsz : ((w.alloc (.cells #[.int .u8 2, .int .u8 (p : Int)] 37)).alloc (.cells #[.slice none 0 0, .slice none 0 0] 75)).heap.size = w.heap.size + 2 := by simp
  rw [show (w.alloc (.cells #[.int .u8 2, .int .u8 (p : Int)] 37)).heap.size = w.heap.size + 1 by simp] at hres
  clear hw1
  have hcall := fun W (h : Below w.heap.size w W) => Try.malone2_any n c p d zs W (hL.up h) hn hp
  have HS : Hid _ := hS
  have HP : Hid _ := hP
  have hbB := hS.lt
  clear hS hP hL
  go_enter Try.func63, Try.ntmps63
  go_wp2_with fail
  generalize (w.alloc (.cells #[.int .u8 2, .int .u8 (p : Int)] 37)).alloc (.cells #[.slice none 0 0, .slice none 0 0] 75) = w2 at *
  refine (hcall w2 hw2).mono ?_
  rintro e w3 ⟨g, bs, rfl, hV, hl, hv, hb3, hge⟩
  have Hge : Hid (b ≤ g) := by show _ ≤ _; omega
  clear hge
  have hr3 := (hb3.block (w.heap.size + 1) (by omega)).trans hres
  have c0 := cell_row hr3 0
  have c1 := cell_row hr3 1
  have z0 := frozen_of_row _ _ 0 _ _ hr3
  have z1 := frozen_of_row _ _ 1 _ _ hr3
  simp at c0 c1
  have HV : Hid (ValAt w3 g bs) := hV
  have Hl : Hid (bs.length = n + 1) := hl
  have Hv : Hid _ := hv
  have HB2 : Hid _ := hw2
  have HB3 : Hid _ := hb3
  have HR : Hid _ := hres
  have HRR : Hid _ := hr3
  have Hsz : Hid _ := hsz
  clear hcall hbox hV hl hv hw2 hb3 hres hr3 hsz
  go_wp2
  have f := set2_cells HRR.out (.slice (some ⟨g, 0, none⟩) (n + 1) (n + 1)) (.slice none 0 0)
  refine bodyPost_ret (v := .agg #[.slice (some ⟨g, 0, none⟩) (n + 1) (n + 1), .slice none 0 0]) (by simp [results, Try.results63, go_sem, f.1, f.2.1]) rfl ?_
  unfold WorkR
  have q1 := HB2.out.size
  have q2 := HB3.out.size
  have q3 := (grown_set2 w3 (w.heap.size + 1) (.slice (some ⟨g, 0, none⟩) (n + 1) (n + 1)) (.slice none 0 0)).size
  exact ⟨((some ⟨g, 0, none⟩, n + 1, n + 1), (none, 0, 0)), rfl, (HS.out.up HB2.out).fin HB3.out (grown_set2 ..) (by omega), ⟨hi, part_val rfl HV.out Hl.out Hv.out HB3.out (grown_set2 ..) HR.out Hge.out, by omega, (HP.out.keep (KeepT.of_below HB2.out)).keep (keep_fin HB3.out (grown_set2 ..) HR.out)⟩, work_below ((below_step HB2.out HB3.out).mono (by omega)) (by omega) _ _⟩
set_option maxRecDepth 100000 in
set_option maxHeartbeats 1600000 in
theorem Try.mwork3_any (b n c hi : Nat) (d : Option Addr) (zs : List Int) (rest : List (Sk × Mp)) (w : World) (hL : LtSl w d n c zs) (hn : n ≤ 10000) (hS : StkAt w b w.heap.size ((rest.map (·.2)).reverse)) (hP : Parts w n b hi rest) (hh : hi ≤ w.heap.size) :
    Calls Try.prog 63 #[.pointer (some ⟨b, 0, none⟩), .agg #[.int .u8 3, .int .u8 0], .slice d n c] w (WorkR n b w (skT (zN zs) (3, 0) []) rest) := by
  have hlen : (zN zs).length = n := by rw [zN_len]; exact hL.sl.hlen
  have hw1 := below_new w (.cells #[.int .u8 3, .int .u8 0] 37)
  have hw2 := below_step hw1 (below_new (w.alloc (.cells #[.int .u8 3, .int .u8 0] 37)) (.cells #[.slice none 0 0, .slice none 0 0] 75))
  have hbox := (Below.heap_alloc (w.alloc (.cells #[.int .u8 3, .int .u8 0] 37)) (.cells #[.slice none 0 0, .slice none 0 0] 75) w.heap.size (by simp)).trans (MapKept.heap_alloc w _).1
  have hres := (MapKept.heap_alloc (w.alloc (.cells #[.int .u8 3, .int .u8 0] 37)) (.cells #[.slice none 0 0, .slice none 0 0] 75)).1
  have hsz : ((w.alloc (.cells #[.int .u8 3, .int .u8 0] 37)).alloc (.cells #[.slice none 0 0, .slice none 0 0] 75)).heap.size = w.heap.size + 2 := by simp
  rw [show (w.alloc (.cells #[.int .u8 3, .int .u8 0] 37)).heap.size = w.heap.size + 1 by simp] at hres
  clear hw1
  have hcall := fun W (h : Below w.heap.size w W) => Try.malone3_any n c d zs W (hL.up h) hn
  have HS : Hid _ := hS
  have HP : Hid _ := hP
  have hbB := hS.lt
  clear hS hP hL
  go_enter Try.func63, Try.ntmps63
  go_wp2_with fail
  generalize (w.alloc (.cells #[.int .u8 3, .int .u8 0] 37)).alloc (.cells #[.slice none 0 0, .slice none 0 0] 75) = w2 at *
  refine (hcall w2 hw2).mono ?_
  rintro e w3 ⟨g, bs, rfl, hV, hl, hv, hb3, hge⟩
  have Hge : Hid (b ≤ g) := by show _ ≤ _; omega
  clear hge
  have hr3 := (hb3.block (w.heap.size + 1) (by omega)).trans hres
  have c0 := cell_row hr3 0
  have c1 := cell_row hr3 1
  have z0 := frozen_of_row _ _ 0 _ _ hr3
  have z1 := frozen_of_row _ _ 1 _ _ hr3
  simp at c0 c1
  have HV : Hid (ValAt w3 g bs) := hV
  have Hl : Hid (bs.length = n + 1) := hl
  have Hv : Hid _ := hv
  have HB2 : Hid _ := hw2
  have HB3 : Hid _ := hb3
  have HR : Hid _ := hres
  have HRR : Hid _ := hr3
  have Hsz : Hid _ := hsz
  clear hcall hbox hV hl hv hw2 hb3 hres hr3 hsz
  go_wp2
  have f := set2_cells HRR.out (.slice (some ⟨g, 0, none⟩) (n + 1) (n + 1)) (.slice none 0 0)
  refine bodyPost_ret (v := .agg #[.slice (some ⟨g, 0, none⟩) (n + 1) (n + 1), .slice none 0 0]) (by simp [results, Try.results63, go_sem, f.1, f.2.1]) rfl ?_
  unfold WorkR
  have q1 := HB2.out.size
  have q2 := HB3.out.size
  have q3 := (grown_set2 w3 (w.heap.size + 1) (.slice (some ⟨g, 0, none⟩) (n + 1) (n + 1)) (.slice none 0 0)).size
  exact ⟨((some ⟨g, 0, none⟩, n + 1, n + 1), (none, 0, 0)), rfl, (HS.out.up HB2.out).fin HB3.out (grown_set2 ..) (by omega), ⟨hi, part_val rfl HV.out Hl.out Hv.out HB3.out (grown_set2 ..) HR.out Hge.out, by omega, (HP.out.keep (KeepT.of_below HB2.out)).keep (keep_fin HB3.out (grown_set2 ..) HR.out)⟩, work_below ((below_step HB2.out HB3.out).mono (by omega)) (by omega) _ _⟩
set_option maxRecDepth 100000 in
set_option maxHeartbeats 1600000 in
theorem Try.mwork4_any (b n c hi : Nat) (d : Option Addr) (zs : List Int) (rest : List (Sk × Mp)) (w : World) (hL : LtSl w d n c zs) (hn : n ≤ 10000) (hS : StkAt w b w.heap.size ((rest.map (·.2)).reverse)) (hP : Parts w n b hi rest) (hh : hi ≤ w.heap.size) :
    Calls Try.prog 63 #[.pointer (some ⟨b, 0, none⟩), .agg #[.int .u8 4, .int .u8 0], .slice d n c] w (WorkR n b w (skT (zN zs) (4, 0) []) rest) := by
  have hlen : (zN zs).length = n := by rw [zN_len]; exact hL.sl.hlen
  have hw1 := below_new w (.cells #[.int .u8 4, .int .u8 0] 37)
  have hw2 := below_step hw1 (below_new (w.alloc (.cells #[.int .u8 4, .int .u8 0] 37)) (.cells #[.slice none 0 0, .slice none 0 0] 75))
  have hbox := (Below.heap_alloc (w.alloc (.cells #[.int .u8 4, .int .u8 0] 37)) (.cells #[.slice none 0 0, .slice none 0 0] 75) w.heap.size (by simp)).trans (MapKept.heap_alloc w _).1
  have hres := (MapKept.heap_alloc (w.alloc (.cells #[.int .u8 4, .int .u8 0] 37)) (.cells #[.slice none 0 0, .slice none 0 0] 75)).1
  have hsz : ((w.alloc (.cells #[.int .u8 4, .int .u8 0] 37)).alloc (.cells #[.slice none 0 0, .slice none 0 0] 75)).heap.size = w.heap.size + 2 := by simp
  rw [show (w.alloc (.cells #[.int .u8 4, .int .u8 0] 37)).heap.size = w.heap.size + 1 by simp] at hres
  clear hw1
  have hcall := fun W (h : Below w.heap.size w W) => Try.malone4_any n c d zs W (hL.up h) hn
  have HS : Hid _ := hS
  have HP : Hid _ := hP
  have hbB := hS.lt
  clear hS hP hL
  go_enter Try.func63, Try.ntmps63
  go_wp2_with fail
  generalize (w.alloc (.cells #[.int .u8 4, .int .u8 0] 37)).alloc (.cells #[.slice none 0 0, .slice none 0 0] 75) = w2 at *
  refine (hcall w2 hw2).mono ?_
  rintro e w3 ⟨g, bs, rfl, hV, hl, hv, hb3, hge⟩
  have Hge : Hid (b ≤ g) := by show _ ≤ _; omega
  clear hge
  have hr3 := (hb3.block (w.heap.size + 1) (by omega)).trans hres
  have c0 := cell_row hr3 0
  have c1 := cell_row hr3 1
  have z0 := frozen_of_row _ _ 0 _ _ hr3
  have z1 := frozen_of_row _ _ 1 _ _ hr3
  simp at c0 c1
  have HV : Hid (ValAt w3 g bs) := hV
  have Hl : Hid (bs.length = n + 1) := hl
  have Hv : Hid _ := hv
  have HB2 : Hid _ := hw2
  have HB3 : Hid _ := hb3
  have HR : Hid _ := hres
  have HRR : Hid _ := hr3
  have Hsz : Hid _ := hsz
  clear hcall hbox hV hl hv hw2 hb3 hres hr3 hsz
  go_wp2
  have f := set2_cells HRR.out (.slice (some ⟨g, 0, none⟩) (n + 1) (n + 1)) (.slice none 0 0)
  refine bodyPost_ret (v := .agg #[.slice (some ⟨g, 0, none⟩) (n + 1) (n + 1), .slice none 0 0]) (by simp [results, Try.results63, go_sem, f.1, f.2.1]) rfl ?_
  unfold WorkR
  have q1 := HB2.out.size
  have q2 := HB3.out.size
  have q3 := (grown_set2 w3 (w.heap.size + 1) (.slice (some ⟨g, 0, none⟩) (n + 1) (n + 1)) (.slice none 0 0)).size
  exact ⟨((some ⟨g, 0, none⟩, n + 1, n + 1), (none, 0, 0)), rfl, (HS.out.up HB2.out).fin HB3.out (grown_set2 ..) (by omega), ⟨hi, part_val rfl HV.out Hl.out Hv.out HB3.out (grown_set2 ..) HR.out Hge.out, by omega, (HP.out.keep (KeepT.of_below HB2.out)).keep (keep_fin HB3.out (grown_set2 ..) HR.out)⟩, work_below ((below_step HB2.out HB3.out).mono (by omega)) (by omega) _ _⟩
set_option maxRecDepth 100000 in
set_option maxHeartbeats 1600000 in
theorem Try.mwork5_any (b n c hi : Nat) (d : Option Addr) (zs : List Int) (rest : List (Sk × Mp)) (w : World) (hL : LtSl w d n c zs) (hn : n ≤ 10000) (hS : StkAt w b w.heap.size ((rest.map (·.2)).reverse)) (hP : Parts w n b hi rest) (hh : hi ≤ w.heap.size) :
    Calls Try.prog 63 #[.pointer (some ⟨b, 0, none⟩), .agg #[.int .u8 5, .int .u8 0], .slice d n c] w (WorkR n b w (skT (zN zs) (5, 0) []) rest) := by
  have hlen : (zN zs).length = n := by rw [zN_len]; exact hL.sl.hlen
  have hw1 := below_new w (.cells #[.int .u8 5, .int .u8 0] 37)
  have hw2 := below_step hw1 (below_new (w.alloc (.cells #[.int .u8 5, .int .u8 0] 37)) (.cells #[.slice none 0 0, .slice none 0 0] 75))
  have hbox := (Below.heap_alloc (w.alloc (.cells #[.int .u8 5, .int .u8 0] 37)) (.cells #[.slice none 0 0, .slice none 0 0] 75) w.heap.size (by simp)).trans (MapKept.heap_alloc w _).1
  have hres := (MapKept.heap_alloc (w.alloc (.cells #[.int .u8 5, .int .u8 0] 37)) (.cells #[.slice none 0 0, .slice none 0 0] 75)).1
  have hsz : ((w.alloc (.cells #[.int .u8 5, .int .u8 0] 37)).alloc (.cells #[.slice none 0 0, .slice none 0 0] 75)).heap.size = w.heap.size + 2 := by simp
  rw [show (w.alloc (.cells #[.int .u8 5, .int .u8 0] 37)).heap.size = w.heap.size + 1 by simp] at hres
  clear hw1
  have hcall := fun W (h : Below w.heap.size w W) => Try.malone5_any n c d zs W (hL.up h) hn
  have HS : Hid _ := hS
  have HP : Hid _ := hP
  have hbB := hS.lt
  clear hS hP hL
  go_enter Try.func63, Try.ntmps63
  go_wp2_with fail
  generalize (w.alloc (.cells #[.int .u8 5, .int .u8 0] 37)).alloc (.cells #[.slice none 0 0, .slice none 0 0] 75) = w2 at *
  refine (hcall w2 hw2).mono ?_
  rintro e w3 ⟨g, bs, rfl, hV, hl, hv, hb3, hge⟩
  have Hge : Hid (b ≤ g) := by show _ ≤ _; omega
  clear hge
  have hr3 := (hb3.block (w.heap.size + 1) (by omega)).trans hres
  have c0 := cell_row hr3 0
  have c1 := cell_row hr3 1
  have z0 := frozen_of_row _ _ 0 _ _ hr3
  have z1 := frozen_of_row _ _ 1 _ _ hr3
  simp at c0 c1
  have HV : Hid (ValAt w3 g bs) := hV
  have Hl : Hid (bs.length = n + 1) := hl
  have Hv : Hid _ := hv
  have HB2 : Hid _ := hw2
  have HB3 : Hid _ := hb3
  have HR : Hid _ := hres
  have HRR : Hid _ := hr3
  have Hsz : Hid _ := hsz
  clear hcall hbox hV hl hv hw2 hb3 hres hr3 hsz
  go_wp2
  have f := set2_cells HRR.out (.slice (some ⟨g, 0, none⟩) (n + 1) (n + 1)) (.slice none 0 0)
  refine bodyPost_ret (v := .agg #[.slice (some ⟨g, 0, none⟩) (n + 1) (n + 1), .slice none 0 0]) (by simp [results, Try.results63, go_sem, f.1, f.2.1]) rfl ?_
  unfold WorkR
  have q1 := HB2.out.size
  have q2 := HB3.out.size
  have q3 := (grown_set2 w3 (w.heap.size + 1) (.slice (some ⟨g, 0, none⟩) (n + 1) (n + 1)) (.slice none 0 0)).size
  exact ⟨((some ⟨g, 0, none⟩, n + 1, n + 1), (none, 0, 0)), rfl, (HS.out.up HB2.out).fin HB3.out (grown_set2 ..) (by omega), ⟨hi, part_val rfl HV.out Hl.out Hv.out HB3.out (grown_set2 ..) HR.out Hge.out, by omega, (HP.out.keep (KeepT.of_below HB2.out)).keep (keep_fin HB3.out (grown_set2 ..) HR.out)⟩, work_below ((below_step HB2.out HB3.out).mono (by omega)) (by omega) _ _⟩
end Go.Proofs.Ytfgaieefejdkbaa
