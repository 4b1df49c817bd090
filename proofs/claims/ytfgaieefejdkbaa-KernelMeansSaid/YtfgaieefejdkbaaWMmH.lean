/- Package mean: work. Written by mkwork.py. -/
import Derived.Test.YtfgaieefejdkbaaWMmE
import Derived.Deep.RegionHeld3
namespace Go.Proofs.Ytfgaieefejdkbaa
open Go.RowKit Go.Maps

set_option maxRecDepth 100000 in
set_option maxHeartbeats 6400000 in
theorem Try.mwork17_any (b n c hi : Nat) (d : Option Addr) (zs : List Int) (x y : Sk) (px py : Mp) (rest : List (Sk × Mp)) (w : World) (hL : LtSl w d n c zs) (hn : n ≤ 10000) (hS : StkAt w b w.heap.size ((((y, py) :: (x, px) :: rest).map (·.2)).reverse)) (hP : Parts w n b hi ((y, py) :: (x, px) :: rest)) (hh : hi ≤ w.heap.size) (hx : x.1 = true) (hy : y.1 = false) (hI : InW n x) (hr : rest.length ≤ 999999) :
    Calls Try.prog 63 #[.pointer (some ⟨b, 0, none⟩), .agg #[.int .u8 17, .int .u8 0], .slice d n c] w (WorkR n b w (skT (zN zs) (17, 0) [x, y]) rest) := by
  have hlen : (zN zs).length = n := by rw [zN_len]; exact hL.sl.hlen
  obtain ⟨lo2, hpy, hlo2, lo, hpx, hlo, hPr⟩ := hP
  have hblo := Parts.low hPr
  obtain ⟨p1, p2⟩ := px
  obtain ⟨q1, q2⟩ := py
  rw [List.map_cons, List.reverse_cons, List.map_cons, List.reverse_cons] at hS
  dsimp only at hS
  obtain ⟨ga, rs, hp1, hEa, hva, hga1, hga2⟩ := hpx.1 hx
  dsimp only at hp1
  subst hp1
  obtain ⟨gb, bv, hq1, hVb, hlb, hvb, _⟩ := hpy.2 hy
  dsimp only at hq1
  subst hq1
  have hw1 := below_new w (.cells #[.int .u8 17, .int .u8 0] 37)
  have hw2 := below_step hw1 (below_new (w.alloc (.cells #[.int .u8 17, .int .u8 0] 37)) (.cells #[.slice none 0 0, .slice none 0 0] 75))
  have hbox := (Below.heap_alloc (w.alloc (.cells #[.int .u8 17, .int .u8 0] 37)) (.cells #[.slice none 0 0, .slice none 0 0] 75) w.heap.size (by simp)).trans (MapKept.heap_alloc w _).1
  have hres := (MapKept.heap_alloc (w.alloc (.cells #[.int .u8 17, .int .u8 0] 37)) (.cells #[.slice none 0 0, .slice none 0 0] 75)).1
  have hsz : ((w.alloc (.cells #[.int .u8 17, .int .u8 0] 37)).alloc (.cells #[.slice none 0 0, .slice none 0 0] 75)).heap.size = w.heap.size + 2 := by simp
  rw [show (w.alloc (.cells #[.int .u8 17, .int .u8 0] 37)).heap.size = w.heap.size + 1 by simp] at hres
  clear hw1
  have HSEM : Hid (∀ i, i ≤ n → (someP rs bv i (n + 1) ↔ (skT (zN zs) (17, 0) [x, y]).2.1 i)) := sem_dia hI hva hvb
  have hcall := fun W (h1 : EndAt W ga (n + 1) rs) (h2 : ValAt W gb bv) => Try.msomeWay_any n ga gb rs bv W h1 h2 hlb hn
  have HTY : Hid ((skT (zN zs) (17, 0) [x, y]).1 = false) := rfl
  generalize skT (zN zs) (17, 0) [x, y] = X at *
  have hbB := hS.lt
  have HPR : Hid (Parts w n b lo rest) := hPr
  have HVA : Hid (EndAt w ga (n + 1) rs) := hEa
  have HVB : Hid (ValAt w gb bv) := hVb
  have HS : Hid _ := hS
  clear hS hPr hEa hVb hva hvb hlb hL hpx hpy hlen
  go_enter Try.func63, Try.ntmps63
  go_wp2_with fail
  generalize (w.alloc (.cells #[.int .u8 17, .int .u8 0] 37)).alloc (.cells #[.slice none 0 0, .slice none 0 0] 75) = w2 at *
  have hS2 := HS.out.up hw2
  have htk := Try.mtake_any b w.heap.size _ _ w2 hS2 (by simp; omega)
  unfold slV at htk
  dsimp only at htk
  have Hsz : Hid _ := hsz
  have HB2 : Hid _ := hw2
  have HBX : Hid _ := hbox
  have HRS : Hid _ := hres
  have HS2 : Hid _ := hS2
  clear hbox hS2 hsz hw2 hres
  refine htk.mono ?_
  rintro e w3 ⟨rfl, hs3, hg3⟩
  have htk2 := Try.mtake_any b w.heap.size _ _ (w3.alloc (.cells #[.slice (some ⟨gb, 0, none⟩) (n + 1) (n + 1), .slice q2.1 q2.2.1 q2.2.2] 75)) (hs3.up (below_new _ _)) (by simp; omega)
  unfold slV at htk2
  dsimp only at htk2
  have HG3 : Hid _ := hg3
  have HS3 : Hid _ := hs3
  clear htk hs3 hg3
  go_wp2_with fail
  refine htk2.mono ?_
  rintro e w4 ⟨rfl, hs4, hg4⟩
  have hz2 := Hsz.out
  have hz3 := HG3.out.size
  have hz4 := hg4.size
  have hz4' : w3.heap.size + 1 ≤ w4.heap.size := by simpa using hz4
  have hbx3 := (HG3.out.block w.heap.size (by omega) (fun e => by injection e with e; omega)).trans HBX.out
  have hbx4 := (hg4.block w.heap.size (by simp; omega) (fun e => by injection e with e; omega)).trans ((Below.heap_alloc w3 (.cells #[.slice (some ⟨gb, 0, none⟩) (n + 1) (n + 1), .slice q2.1 q2.2.1 q2.2.2] 75) _ (by omega)).trans hbx3)
  have hrs3 := (HG3.out.block (w.heap.size + 1) (by omega) (fun e => by injection e with e; omega)).trans HRS.out
  have hrs4 := (hg4.block (w.heap.size + 1) (by simp; omega) (fun e => by injection e with e; omega)).trans ((Below.heap_alloc w3 (.cells #[.slice (some ⟨gb, 0, none⟩) (n + 1) (n + 1), .slice q2.1 q2.2.1 q2.2.2] 75) _ (by omega)).trans hrs3)
  have hvb4 := (hg4.block w3.heap.size (by simp) (fun e => by injection e with e; omega)).trans (MapKept.heap_alloc w3 (.cells #[.slice (some ⟨gb, 0, none⟩) (n + 1) (n + 1), .slice q2.1 q2.2.1 q2.2.2] 75)).1
  have hK : KeepT w.heap.size w w4 := by
    obtain ⟨v0, hv0, _⟩ := HS2.out.c
    obtain ⟨v1, hv1, _⟩ := (HS3.out.up (below_new w3 (.cells #[.slice (some ⟨gb, 0, none⟩) (n + 1) (n + 1), .slice q2.1 q2.2.1 q2.2.2] 75))).c
    exact (((KeepT.of_below HB2.out).trans (KeepT.of_grown HG3.out hv0 (by decide) (by decide) (by decide))).trans (KeepT.of_below (below_new _ (.cells #[.slice (some ⟨gb, 0, none⟩) (n + 1) (n + 1), .slice q2.1 q2.2.1 q2.2.2] 75)))).trans (KeepT.of_grown hg4 hv1 (by decide) (by decide) (by decide))
  have hbl : Below b w w4 := by
    have h1 : Below b w2 w3 := ⟨HG3.out.os, HG3.out.tape, HG3.out.output, HG3.out.size, fun k hk => HG3.out.block k (by omega) (fun e => by injection e with e; omega)⟩
    have h2 : Below b (w3.alloc (.cells #[.slice (some ⟨gb, 0, none⟩) (n + 1) (n + 1), .slice q2.1 q2.2.1 q2.2.2] 75)) w4 := ⟨hg4.os, hg4.tape, hg4.output, hg4.size, fun k hk => hg4.block k (by simp; omega) (fun e => by injection e with e; omega)⟩
    exact (((HB2.out.mono (by omega)).trans h1).trans ((below_new _ _).mono (by omega))).trans h2
  have KA : Hid (EndAt w4 ga (n + 1) rs) := HVA.out.keep (fun k c t z hc ht h1 h2 => hK k c t z hc (Or.inr ⟨ht, by omega⟩))
  have KBv : Hid (ValAt w4 gb bv) := (hK _ _ _ _ HVB.out (Or.inl rfl)).trans HVB.out
  have KP : Hid (Parts w4 n b lo rest) := HPR.out.keep (hK.mono (by omega))
  have KB : Hid (Below b w w4) := hbl
  have KS : Hid _ := hs4
  have KR : Hid _ := hrs4
  have cx := cell_row ((Below.heap_alloc w4 (.cells #[.slice p1.1 p1.2.1 p1.2.2, .slice (some ⟨ga, 0, none⟩) (n + 1) (n + 1)] 75) _ (by omega)).trans hbx4) 0
  have cb0 := cell_row ((Below.heap_alloc w4 (.cells #[.slice p1.1 p1.2.1 p1.2.2, .slice (some ⟨ga, 0, none⟩) (n + 1) (n + 1)] 75) _ (by omega)).trans hvb4) 0
  have cb1 := cell_row ((Below.heap_alloc w4 (.cells #[.slice p1.1 p1.2.1 p1.2.2, .slice (some ⟨ga, 0, none⟩) (n + 1) (n + 1)] 75) _ (by omega)).trans hvb4) 1
  simp at cx cb0 cb1
  have hcl := hcall (w4.alloc (.cells #[.slice p1.1 p1.2.1 p1.2.2, .slice (some ⟨ga, 0, none⟩) (n + 1) (n + 1)] 75)) (KA.out.up (below_new _ _)) (KBv.out.up (below_new _ _))
  have HZ : Hid (w.heap.size + 2 ≤ w4.heap.size) := by show _ ≤ _; omega
  clear hbx3 hbx4 hrs3 hrs4 hvb4 hK hbl hs4 hg4 hz2 hz3 hz4 hz4' htk2 hcall HG3 HS3 HS2 HRS HBX HB2 Hsz HPR HVA HVB HS KA KBv
  go_wp2_with fail
  refine hcl.mono ?_
  rintro e w6 ⟨g, bs, rfl, hV, hl, hv, hb6, hge⟩
  have hr6 := (hb6.block (w.heap.size + 1) (by have := HZ.out; simp; omega)).trans ((Below.heap_alloc w4 (.cells #[.slice p1.1 p1.2.1 p1.2.2, .slice (some ⟨ga, 0, none⟩) (n + 1) (n + 1)] 75) _ (by have := HZ.out; omega)).trans KR.out)
  have K6 := below_step (below_new w4 (.cells #[.slice p1.1 p1.2.1 p1.2.2, .slice (some ⟨ga, 0, none⟩) (n + 1) (n + 1)] 75)) hb6
  have c0 := cell_row hr6 0
  have c1 := cell_row hr6 1
  have z0 := frozen_of_row _ _ 0 _ _ hr6
  have z1 := frozen_of_row _ _ 1 _ _ hr6
  simp at c0 c1
  have HR6 : Hid _ := hr6
  have HF : Hid (WorkR n b w X rest (.returned (.agg #[.slice (some ⟨g, 0, none⟩) (n + 1) (n + 1), .slice none 0 0])) ((w6.setCell ⟨w.heap.size + 1, 0, none⟩ (.slice (some ⟨g, 0, none⟩) (n + 1) (n + 1))).setCell ⟨w.heap.size + 1, 1, none⟩ (.slice none 0 0))) :=
    fin_val (KS.out.up K6) (KP.out.keep (KeepT.of_below K6)) hr6 (KB.out.trans (K6.mono (by have := HZ.out; omega))) hV hl HTY.out (fun i hi => (hv i hi).trans (HSEM.out i hi)) (by have := HZ.out; have := K6.size; omega) (by have := HZ.out; simp at hge; omega)
  clear hge hV hl hv hb6 hr6 K6 hcl KS KP KR KB cx cb0 cb1
  go_wp2
  have f := set2_cells HR6.out (.slice (some ⟨g, 0, none⟩) (n + 1) (n + 1)) (.slice none 0 0)
  refine bodyPost_ret (v := .agg #[.slice (some ⟨g, 0, none⟩) (n + 1) (n + 1), .slice none 0 0]) (by simp [results, Try.results63, go_sem, f.1, f.2.1]) rfl ?_
  exact HF.out
set_option maxRecDepth 100000 in
set_option maxHeartbeats 6400000 in
theorem Try.mwork18_any (b n c hi : Nat) (d : Option Addr) (zs : List Int) (x y : Sk) (px py : Mp) (rest : List (Sk × Mp)) (w : World) (hL : LtSl w d n c zs) (hn : n ≤ 10000) (hS : StkAt w b w.heap.size ((((y, py) :: (x, px) :: rest).map (·.2)).reverse)) (hP : Parts w n b hi ((y, py) :: (x, px) :: rest)) (hh : hi ≤ w.heap.size) (hx : x.1 = true) (hy : y.1 = false) (hI : InW n x) (hr : rest.length ≤ 999999) :
    Calls Try.prog 63 #[.pointer (some ⟨b, 0, none⟩), .agg #[.int .u8 18, .int .u8 0], .slice d n c] w (WorkR n b w (skT (zN zs) (18, 0) [x, y]) rest) := by
  have hlen : (zN zs).length = n := by rw [zN_len]; exact hL.sl.hlen
  obtain ⟨lo2, hpy, hlo2, lo, hpx, hlo, hPr⟩ := hP
  have hblo := Parts.low hPr
  obtain ⟨p1, p2⟩ := px
  obtain ⟨q1, q2⟩ := py
  rw [List.map_cons, List.reverse_cons, List.map_cons, List.reverse_cons] at hS
  dsimp only at hS
  obtain ⟨ga, rs, hp1, hEa, hva, hga1, hga2⟩ := hpx.1 hx
  dsimp only at hp1
  subst hp1
  obtain ⟨gb, bv, hq1, hVb, hlb, hvb, _⟩ := hpy.2 hy
  dsimp only at hq1
  subst hq1
  have hw1 := below_new w (.cells #[.int .u8 18, .int .u8 0] 37)
  have hw2 := below_step hw1 (below_new (w.alloc (.cells #[.int .u8 18, .int .u8 0] 37)) (.cells #[.slice none 0 0, .slice none 0 0] 75))
  have hbox := (Below.heap_alloc (w.alloc (.cells #[.int .u8 18, .int .u8 0] 37)) (.cells #[.slice none 0 0, .slice none 0 0] 75) w.heap.size (by simp)).trans (MapKept.heap_alloc w _).1
  have hres := (MapKept.heap_alloc (w.alloc (.cells #[.int .u8 18, .int .u8 0] 37)) (.cells #[.slice none 0 0, .slice none 0 0] 75)).1
  have hsz : ((w.alloc (.cells #[.int .u8 18, .int .u8 0] 37)).alloc (.cells #[.slice none 0 0, .slice none 0 0] 75)).heap.size = w.heap.size + 2 := by simp
  rw [show (w.alloc (.cells #[.int .u8 18, .int .u8 0] 37)).heap.size = w.heap.size + 1 by simp] at hres
  clear hw1
  have HSEM : Hid (∀ i, i ≤ n → (everyP rs bv i (n + 1) ↔ (skT (zN zs) (18, 0) [x, y]).2.1 i)) := sem_box hI hva hvb
  have hcall := fun W (h1 : EndAt W ga (n + 1) rs) (h2 : ValAt W gb bv) => Try.meveryWay_any n ga gb rs bv W h1 h2 hlb hn
  have HTY : Hid ((skT (zN zs) (18, 0) [x, y]).1 = false) := rfl
  generalize skT (zN zs) (18, 0) [x, y] = X at *
  have hbB := hS.lt
  have HPR : Hid (Parts w n b lo rest) := hPr
  have HVA : Hid (EndAt w ga (n + 1) rs) := hEa
  have HVB : Hid (ValAt w gb bv) := hVb
  have HS : Hid _ := hS
  clear hS hPr hEa hVb hva hvb hlb hL hpx hpy hlen
  go_enter Try.func63, Try.ntmps63
  go_wp2_with fail
  generalize (w.alloc (.cells #[.int .u8 18, .int .u8 0] 37)).alloc (.cells #[.slice none 0 0, .slice none 0 0] 75) = w2 at *
  have hS2 := HS.out.up hw2
  have htk := Try.mtake_any b w.heap.size _ _ w2 hS2 (by simp; omega)
  unfold slV at htk
  dsimp only at htk
  have Hsz : Hid _ := hsz
  have HB2 : Hid _ := hw2
  have HBX : Hid _ := hbox
  have HRS : Hid _ := hres
  have HS2 : Hid _ := hS2
  clear hbox hS2 hsz hw2 hres
  refine htk.mono ?_
  rintro e w3 ⟨rfl, hs3, hg3⟩
  have htk2 := Try.mtake_any b w.heap.size _ _ (w3.alloc (.cells #[.slice (some ⟨gb, 0, none⟩) (n + 1) (n + 1), .slice q2.1 q2.2.1 q2.2.2] 75)) (hs3.up (below_new _ _)) (by simp; omega)
  unfold slV at htk2
  dsimp only at htk2
  have HG3 : Hid _ := hg3
  have HS3 : Hid _ := hs3
  clear htk hs3 hg3
  go_wp2_with fail
  refine htk2.mono ?_
  rintro e w4 ⟨rfl, hs4, hg4⟩
  have hz2 := Hsz.out
  have hz3 := HG3.out.size
  have hz4 := hg4.size
  have hz4' : w3.heap.size + 1 ≤ w4.heap.size := by simpa using hz4
  have hbx3 := (HG3.out.block w.heap.size (by omega) (fun e => by injection e with e; omega)).trans HBX.out
  have hbx4 := (hg4.block w.heap.size (by simp; omega) (fun e => by injection e with e; omega)).trans ((Below.heap_alloc w3 (.cells #[.slice (some ⟨gb, 0, none⟩) (n + 1) (n + 1), .slice q2.1 q2.2.1 q2.2.2] 75) _ (by omega)).trans hbx3)
  have hrs3 := (HG3.out.block (w.heap.size + 1) (by omega) (fun e => by injection e with e; omega)).trans HRS.out
  have hrs4 := (hg4.block (w.heap.size + 1) (by simp; omega) (fun e => by injection e with e; omega)).trans ((Below.heap_alloc w3 (.cells #[.slice (some ⟨gb, 0, none⟩) (n + 1) (n + 1), .slice q2.1 q2.2.1 q2.2.2] 75) _ (by omega)).trans hrs3)
  have hvb4 := (hg4.block w3.heap.size (by simp) (fun e => by injection e with e; omega)).trans (MapKept.heap_alloc w3 (.cells #[.slice (some ⟨gb, 0, none⟩) (n + 1) (n + 1), .slice q2.1 q2.2.1 q2.2.2] 75)).1
  have hK : KeepT w.heap.size w w4 := by
    obtain ⟨v0, hv0, _⟩ := HS2.out.c
    obtain ⟨v1, hv1, _⟩ := (HS3.out.up (below_new w3 (.cells #[.slice (some ⟨gb, 0, none⟩) (n + 1) (n + 1), .slice q2.1 q2.2.1 q2.2.2] 75))).c
    exact (((KeepT.of_below HB2.out).trans (KeepT.of_grown HG3.out hv0 (by decide) (by decide) (by decide))).trans (KeepT.of_below (below_new _ (.cells #[.slice (some ⟨gb, 0, none⟩) (n + 1) (n + 1), .slice q2.1 q2.2.1 q2.2.2] 75)))).trans (KeepT.of_grown hg4 hv1 (by decide) (by decide) (by decide))
  have hbl : Below b w w4 := by
    have h1 : Below b w2 w3 := ⟨HG3.out.os, HG3.out.tape, HG3.out.output, HG3.out.size, fun k hk => HG3.out.block k (by omega) (fun e => by injection e with e; omega)⟩
    have h2 : Below b (w3.alloc (.cells #[.slice (some ⟨gb, 0, none⟩) (n + 1) (n + 1), .slice q2.1 q2.2.1 q2.2.2] 75)) w4 := ⟨hg4.os, hg4.tape, hg4.output, hg4.size, fun k hk => hg4.block k (by simp; omega) (fun e => by injection e with e; omega)⟩
    exact (((HB2.out.mono (by omega)).trans h1).trans ((below_new _ _).mono (by omega))).trans h2
  have KA : Hid (EndAt w4 ga (n + 1) rs) := HVA.out.keep (fun k c t z hc ht h1 h2 => hK k c t z hc (Or.inr ⟨ht, by omega⟩))
  have KBv : Hid (ValAt w4 gb bv) := (hK _ _ _ _ HVB.out (Or.inl rfl)).trans HVB.out
  have KP : Hid (Parts w4 n b lo rest) := HPR.out.keep (hK.mono (by omega))
  have KB : Hid (Below b w w4) := hbl
  have KS : Hid _ := hs4
  have KR : Hid _ := hrs4
  have cx := cell_row ((Below.heap_alloc w4 (.cells #[.slice p1.1 p1.2.1 p1.2.2, .slice (some ⟨ga, 0, none⟩) (n + 1) (n + 1)] 75) _ (by omega)).trans hbx4) 0
  have cb0 := cell_row ((Below.heap_alloc w4 (.cells #[.slice p1.1 p1.2.1 p1.2.2, .slice (some ⟨ga, 0, none⟩) (n + 1) (n + 1)] 75) _ (by omega)).trans hvb4) 0
  have cb1 := cell_row ((Below.heap_alloc w4 (.cells #[.slice p1.1 p1.2.1 p1.2.2, .slice (some ⟨ga, 0, none⟩) (n + 1) (n + 1)] 75) _ (by omega)).trans hvb4) 1
  simp at cx cb0 cb1
  have hcl := hcall (w4.alloc (.cells #[.slice p1.1 p1.2.1 p1.2.2, .slice (some ⟨ga, 0, none⟩) (n + 1) (n + 1)] 75)) (KA.out.up (below_new _ _)) (KBv.out.up (below_new _ _))
  have HZ : Hid (w.heap.size + 2 ≤ w4.heap.size) := by show _ ≤ _; omega
  clear hbx3 hbx4 hrs3 hrs4 hvb4 hK hbl hs4 hg4 hz2 hz3 hz4 hz4' htk2 hcall HG3 HS3 HS2 HRS HBX HB2 Hsz HPR HVA HVB HS KA KBv
  go_wp2_with fail
  refine hcl.mono ?_
  rintro e w6 ⟨g, bs, rfl, hV, hl, hv, hb6, hge⟩
  have hr6 := (hb6.block (w.heap.size + 1) (by have := HZ.out; simp; omega)).trans ((Below.heap_alloc w4 (.cells #[.slice p1.1 p1.2.1 p1.2.2, .slice (some ⟨ga, 0, none⟩) (n + 1) (n + 1)] 75) _ (by have := HZ.out; omega)).trans KR.out)
  have K6 := below_step (below_new w4 (.cells #[.slice p1.1 p1.2.1 p1.2.2, .slice (some ⟨ga, 0, none⟩) (n + 1) (n + 1)] 75)) hb6
  have c0 := cell_row hr6 0
  have c1 := cell_row hr6 1
  have z0 := frozen_of_row _ _ 0 _ _ hr6
  have z1 := frozen_of_row _ _ 1 _ _ hr6
  simp at c0 c1
  have HR6 : Hid _ := hr6
  have HF : Hid (WorkR n b w X rest (.returned (.agg #[.slice (some ⟨g, 0, none⟩) (n + 1) (n + 1), .slice none 0 0])) ((w6.setCell ⟨w.heap.size + 1, 0, none⟩ (.slice (some ⟨g, 0, none⟩) (n + 1) (n + 1))).setCell ⟨w.heap.size + 1, 1, none⟩ (.slice none 0 0))) :=
    fin_val (KS.out.up K6) (KP.out.keep (KeepT.of_below K6)) hr6 (KB.out.trans (K6.mono (by have := HZ.out; omega))) hV hl HTY.out (fun i hi => (hv i hi).trans (HSEM.out i hi)) (by have := HZ.out; have := K6.size; omega) (by have := HZ.out; simp at hge; omega)
  clear hge hV hl hv hb6 hr6 K6 hcl KS KP KR KB cx cb0 cb1
  go_wp2
  have f := set2_cells HR6.out (.slice (some ⟨g, 0, none⟩) (n + 1) (n + 1)) (.slice none 0 0)
  refine bodyPost_ret (v := .agg #[.slice (some ⟨g, 0, none⟩) (n + 1) (n + 1), .slice none 0 0]) (by simp [results, Try.results63, go_sem, f.1, f.2.1]) rfl ?_
  exact HF.out
set_option maxRecDepth 100000 in
set_option maxHeartbeats 6400000 in
theorem Try.mwork21_any (b n c hi : Nat) (d : Option Addr) (zs : List Int) (x y : Sk) (px py : Mp) (rest : List (Sk × Mp)) (w : World) (hL : LtSl w d n c zs) (hn : n ≤ 10000) (hS : StkAt w b w.heap.size ((((y, py) :: (x, px) :: rest).map (·.2)).reverse)) (hP : Parts w n b hi ((y, py) :: (x, px) :: rest)) (hh : hi ≤ w.heap.size) (hx : x.1 = true) (hy : y.1 = true) (hJ : InW n y) (hr : rest.length ≤ 999999) :
    Calls Try.prog 63 #[.pointer (some ⟨b, 0, none⟩), .agg #[.int .u8 21, .int .u8 0], .slice d n c] w (WorkR n b w (skT (zN zs) (21, 0) [x, y]) rest) := by
  have hlen : (zN zs).length = n := by rw [zN_len]; exact hL.sl.hlen
  obtain ⟨lo2, hpy, hlo2, lo, hpx, hlo, hPr⟩ := hP
  have hblo := Parts.low hPr
  obtain ⟨p1, p2⟩ := px
  obtain ⟨q1, q2⟩ := py
  rw [List.map_cons, List.reverse_cons, List.map_cons, List.reverse_cons] at hS
  dsimp only at hS
  obtain ⟨ga, rs, hp1, hEa, hva, hga1, hga2⟩ := hpx.1 hx
  dsimp only at hp1
  subst hp1
  obtain ⟨gb, us, hq1, hEb, hvb, hgb1, hgb2⟩ := hpy.1 hy
  dsimp only at hq1
  subst hq1
  have hw1 := below_new w (.cells #[.int .u8 21, .int .u8 0] 37)
  have hw2 := below_step hw1 (below_new (w.alloc (.cells #[.int .u8 21, .int .u8 0] 37)) (.cells #[.slice none 0 0, .slice none 0 0] 75))
  have hbox := (Below.heap_alloc (w.alloc (.cells #[.int .u8 21, .int .u8 0] 37)) (.cells #[.slice none 0 0, .slice none 0 0] 75) w.heap.size (by simp)).trans (MapKept.heap_alloc w _).1
  have hres := (MapKept.heap_alloc (w.alloc (.cells #[.int .u8 21, .int .u8 0] 37)) (.cells #[.slice none 0 0, .slice none 0 0] 75)).1
  have hsz : ((w.alloc (.cells #[.int .u8 21, .int .u8 0] 37)).alloc (.cells #[.slice none 0 0, .slice none 0 0] 75)).heap.size = w.heap.size + 2 := by simp
  rw [show (w.alloc (.cells #[.int .u8 21, .int .u8 0] 37)).heap.size = w.heap.size + 1 by simp] at hres
  clear hw1
  have HSEM : Hid (∀ i, i ≤ n → ∀ k, hasW (plusTo rs us (n + 1) i) k = true ↔ (skT (zN zs) (21, 0) [x, y]).2.2 i k) := sem_plus hJ hva hvb hEa.ok hEb.ok
  have hcall := fun W (h1 : EndAt W ga (n + 1) rs) (h2 : EndAt W gb (n + 1) us) => Try.mplus_any ga gb (n + 1) rs us W (by omega) h1 h2 (by omega)
  have HTY : Hid ((skT (zN zs) (21, 0) [x, y]).1 = true) := rfl
  generalize skT (zN zs) (21, 0) [x, y] = X at *
  have hbB := hS.lt
  have HPR : Hid (Parts w n b lo rest) := hPr
  have HVA : Hid (EndAt w ga (n + 1) rs) := hEa
  have HVB : Hid (EndAt w gb (n + 1) us) := hEb
  have HS : Hid _ := hS
  clear hS hPr hEa hEb hva hvb hL hpx hpy hlen
  go_enter Try.func63, Try.ntmps63
  go_wp2_with fail
  generalize (w.alloc (.cells #[.int .u8 21, .int .u8 0] 37)).alloc (.cells #[.slice none 0 0, .slice none 0 0] 75) = w2 at *
  have hS2 := HS.out.up hw2
  have htk := Try.mtake_any b w.heap.size _ _ w2 hS2 (by simp; omega)
  unfold slV at htk
  dsimp only at htk
  have Hsz : Hid _ := hsz
  have HB2 : Hid _ := hw2
  have HBX : Hid _ := hbox
  have HRS : Hid _ := hres
  have HS2 : Hid _ := hS2
  clear hbox hS2 hsz hw2 hres
  refine htk.mono ?_
  rintro e w3 ⟨rfl, hs3, hg3⟩
  have htk2 := Try.mtake_any b w.heap.size _ _ (w3.alloc (.cells #[.slice q1.1 q1.2.1 q1.2.2, .slice (some ⟨gb, 0, none⟩) (n + 1) (n + 1)] 75)) (hs3.up (below_new _ _)) (by simp; omega)
  unfold slV at htk2
  dsimp only at htk2
  have HG3 : Hid _ := hg3
  have HS3 : Hid _ := hs3
  clear htk hs3 hg3
  go_wp2_with fail
  refine htk2.mono ?_
  rintro e w4 ⟨rfl, hs4, hg4⟩
  have hz2 := Hsz.out
  have hz3 := HG3.out.size
  have hz4 := hg4.size
  have hz4' : w3.heap.size + 1 ≤ w4.heap.size := by simpa using hz4
  have hbx3 := (HG3.out.block w.heap.size (by omega) (fun e => by injection e with e; omega)).trans HBX.out
  have hbx4 := (hg4.block w.heap.size (by simp; omega) (fun e => by injection e with e; omega)).trans ((Below.heap_alloc w3 (.cells #[.slice q1.1 q1.2.1 q1.2.2, .slice (some ⟨gb, 0, none⟩) (n + 1) (n + 1)] 75) _ (by omega)).trans hbx3)
  have hrs3 := (HG3.out.block (w.heap.size + 1) (by omega) (fun e => by injection e with e; omega)).trans HRS.out
  have hrs4 := (hg4.block (w.heap.size + 1) (by simp; omega) (fun e => by injection e with e; omega)).trans ((Below.heap_alloc w3 (.cells #[.slice q1.1 q1.2.1 q1.2.2, .slice (some ⟨gb, 0, none⟩) (n + 1) (n + 1)] 75) _ (by omega)).trans hrs3)
  have hvb4 := (hg4.block w3.heap.size (by simp) (fun e => by injection e with e; omega)).trans (MapKept.heap_alloc w3 (.cells #[.slice q1.1 q1.2.1 q1.2.2, .slice (some ⟨gb, 0, none⟩) (n + 1) (n + 1)] 75)).1
  have hK : KeepT w.heap.size w w4 := by
    obtain ⟨v0, hv0, _⟩ := HS2.out.c
    obtain ⟨v1, hv1, _⟩ := (HS3.out.up (below_new w3 (.cells #[.slice q1.1 q1.2.1 q1.2.2, .slice (some ⟨gb, 0, none⟩) (n + 1) (n + 1)] 75))).c
    exact (((KeepT.of_below HB2.out).trans (KeepT.of_grown HG3.out hv0 (by decide) (by decide) (by decide))).trans (KeepT.of_below (below_new _ (.cells #[.slice q1.1 q1.2.1 q1.2.2, .slice (some ⟨gb, 0, none⟩) (n + 1) (n + 1)] 75)))).trans (KeepT.of_grown hg4 hv1 (by decide) (by decide) (by decide))
  have hbl : Below b w w4 := by
    have h1 : Below b w2 w3 := ⟨HG3.out.os, HG3.out.tape, HG3.out.output, HG3.out.size, fun k hk => HG3.out.block k (by omega) (fun e => by injection e with e; omega)⟩
    have h2 : Below b (w3.alloc (.cells #[.slice q1.1 q1.2.1 q1.2.2, .slice (some ⟨gb, 0, none⟩) (n + 1) (n + 1)] 75)) w4 := ⟨hg4.os, hg4.tape, hg4.output, hg4.size, fun k hk => hg4.block k (by simp; omega) (fun e => by injection e with e; omega)⟩
    exact (((HB2.out.mono (by omega)).trans h1).trans ((below_new _ _).mono (by omega))).trans h2
  have KA : Hid (EndAt w4 ga (n + 1) rs) := HVA.out.keep (fun k c t z hc ht h1 h2 => hK k c t z hc (Or.inr ⟨ht, by omega⟩))
  have KBv : Hid (EndAt w4 gb (n + 1) us) := HVB.out.keep (fun k c t z hc ht h1 h2 => hK k c t z hc (Or.inr ⟨ht, by omega⟩))
  have KP : Hid (Parts w4 n b lo rest) := HPR.out.keep (hK.mono (by omega))
  have KB : Hid (Below b w w4) := hbl
  have KS : Hid _ := hs4
  have KR : Hid _ := hrs4
  have cx := cell_row ((Below.heap_alloc w4 (.cells #[.slice p1.1 p1.2.1 p1.2.2, .slice (some ⟨ga, 0, none⟩) (n + 1) (n + 1)] 75) _ (by omega)).trans hbx4) 0
  have cb0 := cell_row ((Below.heap_alloc w4 (.cells #[.slice p1.1 p1.2.1 p1.2.2, .slice (some ⟨ga, 0, none⟩) (n + 1) (n + 1)] 75) _ (by omega)).trans hvb4) 0
  have cb1 := cell_row ((Below.heap_alloc w4 (.cells #[.slice p1.1 p1.2.1 p1.2.2, .slice (some ⟨ga, 0, none⟩) (n + 1) (n + 1)] 75) _ (by omega)).trans hvb4) 1
  simp at cx cb0 cb1
  have hcl := hcall (w4.alloc (.cells #[.slice p1.1 p1.2.1 p1.2.2, .slice (some ⟨ga, 0, none⟩) (n + 1) (n + 1)] 75)) (KA.out.up (below_new _ _)) (KBv.out.up (below_new _ _))
  have HZ : Hid (w.heap.size + 2 ≤ w4.heap.size) := by show _ ≤ _; omega
  clear hbx3 hbx4 hrs3 hrs4 hvb4 hK hbl hs4 hg4 hz2 hz3 hz4 hz4' htk2 hcall HG3 HS3 HS2 HRS HBX HB2 Hsz HPR HVA HVB HS KA KBv
  go_wp2_with fail
  refine hcl.mono ?_
  rintro e w6 ⟨rfl, hE, ho6⟩
  have hr6 := (ho6.block (w.heap.size + 1) (by have := HZ.out; simp; omega) (Or.inr fun c z e => by
    rw [(Below.heap_alloc w4 (.cells #[.slice p1.1 p1.2.1 p1.2.2, .slice (some ⟨ga, 0, none⟩) (n + 1) (n + 1)] 75) _ (by have := HZ.out; omega)).trans KR.out] at e
    injection e with e
    injection e with _ e _
    exact absurd e (by decide))).trans ((Below.heap_alloc w4 (.cells #[.slice p1.1 p1.2.1 p1.2.2, .slice (some ⟨ga, 0, none⟩) (n + 1) (n + 1)] 75) _ (by have := HZ.out; omega)).trans KR.out)
  have c0 := cell_row hr6 0
  have c1 := cell_row hr6 1
  have z0 := frozen_of_row _ _ 0 _ _ hr6
  have z1 := frozen_of_row _ _ 1 _ _ hr6
  simp at c0 c1
  have HR6 : Hid _ := hr6
  have HF : Hid (WorkR n b w X rest (.returned (.agg #[.slice none 0 0, .slice (some ⟨ga, 0, none⟩) (n + 1) (n + 1)])) ((w6.setCell ⟨w.heap.size + 1, 0, none⟩ (.slice none 0 0)).setCell ⟨w.heap.size + 1, 1, none⟩ (.slice (some ⟨ga, 0, none⟩) (n + 1) (n + 1)))) :=
    fin_end ((KS.out.up (below_new _ (.cells #[.slice p1.1 p1.2.1 p1.2.2, .slice (some ⟨ga, 0, none⟩) (n + 1) (n + 1)] 75))).only ho6) ((KP.out.keep (KeepT.of_below (below_new _ (.cells #[.slice p1.1 p1.2.1 p1.2.2, .slice (some ⟨ga, 0, none⟩) (n + 1) (n + 1)] 75)))).keep ((KeepT.of_only ho6).mono (by omega))) hr6 ((KB.out.trans ((below_new _ (.cells #[.slice p1.1 p1.2.1 p1.2.2, .slice (some ⟨ga, 0, none⟩) (n + 1) (n + 1)] 75)).mono (by have := HZ.out; omega))).trans (ho6.below (by omega) (by have := HZ.out; simp; omega))) hE HTY.out HSEM.out (by omega)
  clear hE ho6 hr6 hcl KS KP KR KB cx cb0 cb1
  go_wp2
  have f := set2_cells HR6.out (.slice none 0 0) (.slice (some ⟨ga, 0, none⟩) (n + 1) (n + 1))
  refine bodyPost_ret (v := .agg #[.slice none 0 0, .slice (some ⟨ga, 0, none⟩) (n + 1) (n + 1)]) (by simp [results, Try.results63, go_sem, f.1, f.2.1]) rfl ?_
  exact HF.out
set_option maxRecDepth 100000 in
set_option maxHeartbeats 6400000 in
theorem Try.mwork22_any (b n c hi : Nat) (d : Option Addr) (zs : List Int) (x y : Sk) (px py : Mp) (rest : List (Sk × Mp)) (w : World) (hL : LtSl w d n c zs) (hn : n ≤ 10000) (hS : StkAt w b w.heap.size ((((y, py) :: (x, px) :: rest).map (·.2)).reverse)) (hP : Parts w n b hi ((y, py) :: (x, px) :: rest)) (hh : hi ≤ w.heap.size) (hx : x.1 = true) (hy : y.1 = true) (hI : InW n x) (hJ : InW n y) (hr : rest.length ≤ 999999) :
    Calls Try.prog 63 #[.pointer (some ⟨b, 0, none⟩), .agg #[.int .u8 22, .int .u8 0], .slice d n c] w (WorkR n b w (skT (zN zs) (22, 0) [x, y]) rest) := by
  have hlen : (zN zs).length = n := by rw [zN_len]; exact hL.sl.hlen
  obtain ⟨lo2, hpy, hlo2, lo, hpx, hlo, hPr⟩ := hP
  have hblo := Parts.low hPr
  obtain ⟨p1, p2⟩ := px
  obtain ⟨q1, q2⟩ := py
  rw [List.map_cons, List.reverse_cons, List.map_cons, List.reverse_cons] at hS
  dsimp only at hS
  obtain ⟨ga, rs, hp1, hEa, hva, hga1, hga2⟩ := hpx.1 hx
  dsimp only at hp1
  subst hp1
  obtain ⟨gb, us, hq1, hEb, hvb, hgb1, hgb2⟩ := hpy.1 hy
  dsimp only at hq1
  subst hq1
  have hw1 := below_new w (.cells #[.int .u8 22, .int .u8 0] 37)
  have hw2 := below_step hw1 (below_new (w.alloc (.cells #[.int .u8 22, .int .u8 0] 37)) (.cells #[.slice none 0 0, .slice none 0 0] 75))
  have hbox := (Below.heap_alloc (w.alloc (.cells #[.int .u8 22, .int .u8 0] 37)) (.cells #[.slice none 0 0, .slice none 0 0] 75) w.heap.size (by simp)).trans (MapKept.heap_alloc w _).1
  have hres := (MapKept.heap_alloc (w.alloc (.cells #[.int .u8 22, .int .u8 0] 37)) (.cells #[.slice none 0 0, .slice none 0 0] 75)).1
  have hsz : ((w.alloc (.cells #[.int .u8 22, .int .u8 0] 37)).alloc (.cells #[.slice none 0 0, .slice none 0 0] 75)).heap.size = w.heap.size + 2 := by simp
  rw [show (w.alloc (.cells #[.int .u8 22, .int .u8 0] 37)).heap.size = w.heap.size + 1 by simp] at hres
  clear hw1
  have HSEM : Hid (∀ xs : Nat → List Nat, (∀ i, i < n + 1 → SeqTo rs us i (n + 1) (xs i)) → ∀ i, i ≤ n → ∀ k, hasW (xs i) k = true ↔ (skT (zN zs) (22, 0) [x, y]).2.2 i k) := fun xs hd => sem_seq hI hva hvb hd
  have hcall := fun W (h1 : EndAt W ga (n + 1) rs) (h2 : EndAt W gb (n + 1) us) => Try.mseq_any ga gb (n + 1) rs us W (by omega) h1 h2 (fun j hj k hk => (hJ j k (by omega) ((hvb j (by omega) k).1 hk)).1)
  have HTY : Hid ((skT (zN zs) (22, 0) [x, y]).1 = true) := rfl
  generalize skT (zN zs) (22, 0) [x, y] = X at *
  have hbB := hS.lt
  have HPR : Hid (Parts w n b lo rest) := hPr
  have HVA : Hid (EndAt w ga (n + 1) rs) := hEa
  have HVB : Hid (EndAt w gb (n + 1) us) := hEb
  have HS : Hid _ := hS
  clear hS hPr hEa hEb hva hvb hL hpx hpy hlen
  go_enter Try.func63, Try.ntmps63
  go_wp2_with fail
  generalize (w.alloc (.cells #[.int .u8 22, .int .u8 0] 37)).alloc (.cells #[.slice none 0 0, .slice none 0 0] 75) = w2 at *
  have hS2 := HS.out.up hw2
  have htk := Try.mtake_any b w.heap.size _ _ w2 hS2 (by simp; omega)
  unfold slV at htk
  dsimp only at htk
  have Hsz : Hid _ := hsz
  have HB2 : Hid _ := hw2
  have HBX : Hid _ := hbox
  have HRS : Hid _ := hres
  have HS2 : Hid _ := hS2
  clear hbox hS2 hsz hw2 hres
  refine htk.mono ?_
  rintro e w3 ⟨rfl, hs3, hg3⟩
  have htk2 := Try.mtake_any b w.heap.size _ _ (w3.alloc (.cells #[.slice q1.1 q1.2.1 q1.2.2, .slice (some ⟨gb, 0, none⟩) (n + 1) (n + 1)] 75)) (hs3.up (below_new _ _)) (by simp; omega)
  unfold slV at htk2
  dsimp only at htk2
  have HG3 : Hid _ := hg3
  have HS3 : Hid _ := hs3
  clear htk hs3 hg3
  go_wp2_with fail
  refine htk2.mono ?_
  rintro e w4 ⟨rfl, hs4, hg4⟩
  have hz2 := Hsz.out
  have hz3 := HG3.out.size
  have hz4 := hg4.size
  have hz4' : w3.heap.size + 1 ≤ w4.heap.size := by simpa using hz4
  have hbx3 := (HG3.out.block w.heap.size (by omega) (fun e => by injection e with e; omega)).trans HBX.out
  have hbx4 := (hg4.block w.heap.size (by simp; omega) (fun e => by injection e with e; omega)).trans ((Below.heap_alloc w3 (.cells #[.slice q1.1 q1.2.1 q1.2.2, .slice (some ⟨gb, 0, none⟩) (n + 1) (n + 1)] 75) _ (by omega)).trans hbx3)
  have hrs3 := (HG3.out.block (w.heap.size + 1) (by omega) (fun e => by injection e with e; omega)).trans HRS.out
  have hrs4 := (hg4.block (w.heap.size + 1) (by simp; omega) (fun e => by injection e with e; omega)).trans ((Below.heap_alloc w3 (.cells #[.slice q1.1 q1.2.1 q1.2.2, .slice (some ⟨gb, 0, none⟩) (n + 1) (n + 1)] 75) _ (by omega)).trans hrs3)
  have hvb4 := (hg4.block w3.heap.size (by simp) (fun e => by injection e with e; omega)).trans (MapKept.heap_alloc w3 (.cells #[.slice q1.1 q1.2.1 q1.2.2, .slice (some ⟨gb, 0, none⟩) (n + 1) (n + 1)] 75)).1
  have hK : KeepT w.heap.size w w4 := by
    obtain ⟨v0, hv0, _⟩ := HS2.out.c
    obtain ⟨v1, hv1, _⟩ := (HS3.out.up (below_new w3 (.cells #[.slice q1.1 q1.2.1 q1.2.2, .slice (some ⟨gb, 0, none⟩) (n + 1) (n + 1)] 75))).c
    exact (((KeepT.of_below HB2.out).trans (KeepT.of_grown HG3.out hv0 (by decide) (by decide) (by decide))).trans (KeepT.of_below (below_new _ (.cells #[.slice q1.1 q1.2.1 q1.2.2, .slice (some ⟨gb, 0, none⟩) (n + 1) (n + 1)] 75)))).trans (KeepT.of_grown hg4 hv1 (by decide) (by decide) (by decide))
  have hbl : Below b w w4 := by
    have h1 : Below b w2 w3 := ⟨HG3.out.os, HG3.out.tape, HG3.out.output, HG3.out.size, fun k hk => HG3.out.block k (by omega) (fun e => by injection e with e; omega)⟩
    have h2 : Below b (w3.alloc (.cells #[.slice q1.1 q1.2.1 q1.2.2, .slice (some ⟨gb, 0, none⟩) (n + 1) (n + 1)] 75)) w4 := ⟨hg4.os, hg4.tape, hg4.output, hg4.size, fun k hk => hg4.block k (by simp; omega) (fun e => by injection e with e; omega)⟩
    exact (((HB2.out.mono (by omega)).trans h1).trans ((below_new _ _).mono (by omega))).trans h2
  have KA : Hid (EndAt w4 ga (n + 1) rs) := HVA.out.keep (fun k c t z hc ht h1 h2 => hK k c t z hc (Or.inr ⟨ht, by omega⟩))
  have KBv : Hid (EndAt w4 gb (n + 1) us) := HVB.out.keep (fun k c t z hc ht h1 h2 => hK k c t z hc (Or.inr ⟨ht, by omega⟩))
  have KP : Hid (Parts w4 n b lo rest) := HPR.out.keep (hK.mono (by omega))
  have KB : Hid (Below b w w4) := hbl
  have KS : Hid _ := hs4
  have KR : Hid _ := hrs4
  have cx := cell_row ((Below.heap_alloc w4 (.cells #[.slice p1.1 p1.2.1 p1.2.2, .slice (some ⟨ga, 0, none⟩) (n + 1) (n + 1)] 75) _ (by omega)).trans hbx4) 0
  have cb0 := cell_row ((Below.heap_alloc w4 (.cells #[.slice p1.1 p1.2.1 p1.2.2, .slice (some ⟨ga, 0, none⟩) (n + 1) (n + 1)] 75) _ (by omega)).trans hvb4) 0
  have cb1 := cell_row ((Below.heap_alloc w4 (.cells #[.slice p1.1 p1.2.1 p1.2.2, .slice (some ⟨ga, 0, none⟩) (n + 1) (n + 1)] 75) _ (by omega)).trans hvb4) 1
  simp at cx cb0 cb1
  have hcl := hcall (w4.alloc (.cells #[.slice p1.1 p1.2.1 p1.2.2, .slice (some ⟨ga, 0, none⟩) (n + 1) (n + 1)] 75)) (KA.out.up (below_new _ _)) (KBv.out.up (below_new _ _))
  have HZ : Hid (w.heap.size + 2 ≤ w4.heap.size) := by show _ ≤ _; omega
  clear hbx3 hbx4 hrs3 hrs4 hvb4 hK hbl hs4 hg4 hz2 hz3 hz4 hz4' htk2 hcall HG3 HS3 HS2 HRS HBX HB2 Hsz HPR HVA HVB HS KA KBv
  go_wp2_with fail
  refine hcl.mono ?_
  rintro e w6 ⟨rfl, ⟨xs, hE, hd⟩, hb6⟩
  have hr6 := (hb6.block (w.heap.size + 1) (by have := HZ.out; simp; omega)).trans ((Below.heap_alloc w4 (.cells #[.slice p1.1 p1.2.1 p1.2.2, .slice (some ⟨ga, 0, none⟩) (n + 1) (n + 1)] 75) _ (by have := HZ.out; omega)).trans KR.out)
  have K6 := below_step (below_new w4 (.cells #[.slice p1.1 p1.2.1 p1.2.2, .slice (some ⟨ga, 0, none⟩) (n + 1) (n + 1)] 75)) hb6
  have c0 := cell_row hr6 0
  have c1 := cell_row hr6 1
  have z0 := frozen_of_row _ _ 0 _ _ hr6
  have z1 := frozen_of_row _ _ 1 _ _ hr6
  simp at c0 c1
  have HR6 : Hid _ := hr6
  have eg : (w4.alloc (.cells #[.slice p1.1 p1.2.1 p1.2.2, .slice (some ⟨ga, 0, none⟩) (n + 1) (n + 1)] 75)).heap.size = w4.heap.size + 1 := by simp
  rw [eg] at hE
  have HF : Hid (WorkR n b w X rest (.returned (.agg #[.slice none 0 0, .slice (some ⟨(w4.heap.size + 1), 0, none⟩) (n + 1) (n + 1)])) ((w6.setCell ⟨w.heap.size + 1, 0, none⟩ (.slice none 0 0)).setCell ⟨w.heap.size + 1, 1, none⟩ (.slice (some ⟨(w4.heap.size + 1), 0, none⟩) (n + 1) (n + 1)))) :=
    fin_end (KS.out.up K6) (KP.out.keep (KeepT.of_below K6)) hr6 (KB.out.trans (K6.mono (by have := HZ.out; omega))) hE HTY.out (HSEM.out _ hd) (by have := HZ.out; omega)
  clear hE hd hb6 K6 hr6 hcl KS KP KR KB cx cb0 cb1
  go_wp2
  have f := set2_cells HR6.out (.slice none 0 0) (.slice (some ⟨(w4.heap.size + 1), 0, none⟩) (n + 1) (n + 1))
  refine bodyPost_ret (v := .agg #[.slice none 0 0, .slice (some ⟨(w4.heap.size + 1), 0, none⟩) (n + 1) (n + 1)]) (by simp [results, Try.results63, go_sem, f.1, f.2.1]) rfl ?_
  exact HF.out
end Go.Proofs.Ytfgaieefejdkbaa
