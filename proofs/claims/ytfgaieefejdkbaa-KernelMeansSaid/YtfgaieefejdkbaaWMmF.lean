/- Package mean: work. Written by mkwork.py. -/
import Derived.Test.YtfgaieefejdkbaaWMmE
import Derived.Deep.RegionHeld3
namespace Go.Proofs.Ytfgaieefejdkbaa
open Go.RowKit Go.Maps

set_option maxRecDepth 100000 in
set_option maxHeartbeats 3200000 in
theorem Try.mwork19_any (b n c hi : Nat) (d : Option Addr) (zs : List Int) (x : Sk) (px : Mp) (rest : List (Sk × Mp)) (w : World) (hL : LtSl w d n c zs) (hn : n ≤ 10000) (hS : StkAt w b w.heap.size ((((x, px) :: rest).map (·.2)).reverse)) (hP : Parts w n b hi ((x, px) :: rest)) (hh : hi ≤ w.heap.size) (hx : x.1 = false) (hr : rest.length ≤ 1000000) :
    Calls Try.prog 63 #[.pointer (some ⟨b, 0, none⟩), .agg #[.int .u8 19, .int .u8 0], .slice d n c] w (WorkR n b w (skT (zN zs) (19, 0) [x]) rest) := by
  have hlen : (zN zs).length = n := by rw [zN_len]; exact hL.sl.hlen
  obtain ⟨lo, hpx, hlo, hPr⟩ := hP
  obtain ⟨p1, p2⟩ := px
  rw [List.map_cons, List.reverse_cons] at hS
  dsimp only at hS
  obtain ⟨ga, av, hp1, hVa, hla, hva, _⟩ := hpx.2 hx
  dsimp only at hp1
  subst hp1
  have hw1 := below_new w (.cells #[.int .u8 19, .int .u8 0] 37)
  have hw2 := below_step hw1 (below_new (w.alloc (.cells #[.int .u8 19, .int .u8 0] 37)) (.cells #[.slice none 0 0, .slice none 0 0] 75))
  have hbox := (Below.heap_alloc (w.alloc (.cells #[.int .u8 19, .int .u8 0] 37)) (.cells #[.slice none 0 0, .slice none 0 0] 75) w.heap.size (by simp)).trans (MapKept.heap_alloc w _).1
  have hres := (MapKept.heap_alloc (w.alloc (.cells #[.int .u8 19, .int .u8 0] 37)) (.cells #[.slice none 0 0, .slice none 0 0] 75)).1
  have hsz : ((w.alloc (.cells #[.int .u8 19, .int .u8 0] 37)).alloc (.cells #[.slice none 0 0, .slice none 0 0] 75)).heap.size = w.heap.size + 2 := by simp
  rw [show (w.alloc (.cells #[.int .u8 19, .int .u8 0] 37)).heap.size = w.heap.size + 1 by simp] at hres
  clear hw1
  have HSEM : Hid (∀ rs : Nat → List Nat, (∀ i, i < n + 1 → ∀ j, hasW (rs i) j = stpF av (n + 1) i j) → ∀ i, i ≤ n → ∀ k, hasW (rs i) k = true ↔ (skT (zN zs) (19, 0) [x]).2.2 i k) := fun rs hd => sem_step hlen hva hd
  have hcall := fun W (h : ValAt W ga av) => Try.mstep_any ga (n + 1) av W (by omega) h hla
  have HTY : Hid ((skT (zN zs) (19, 0) [x]).1 = true) := rfl
  generalize skT (zN zs) (19, 0) [x] = X at *
  have hbB := hS.lt
  have HPR : Hid (Parts w n b lo rest) := hPr
  have HVA : Hid (ValAt w ga av) := hVa
  have HS : Hid _ := hS
  clear hS hPr hVa hva hla hL hpx hlen
  go_enter Try.func63, Try.ntmps63
  go_wp2_with fail
  generalize (w.alloc (.cells #[.int .u8 19, .int .u8 0] 37)).alloc (.cells #[.slice none 0 0, .slice none 0 0] 75) = w2 at *
  have hS2 := HS.out.up hw2
  have htk := Try.mtake_any b w.heap.size _ _ w2 hS2 (by simpa using hr)
  unfold slV at htk
  dsimp only at htk
  have hfd := Try.fld0 (.slice (some ⟨ga, 0, none⟩) (n + 1) (n + 1)) (.slice p2.1 p2.2.1 p2.2.2)
  have HTK : Hid (∀ w3, StkAt w3 b w.heap.size ((rest.map (·.2)).reverse) → w2.grownBy w3 (some b) → ValAt w3 ga av ∧ Parts w3 n b lo rest ∧ w3.heap[w.heap.size + 1]? = some (.cells #[.slice none 0 0, .slice none 0 0] 75 (0, 0)) ∧ Below b w w3) := fun w3 h1 h2 => by
    obtain ⟨v0, hv0, _⟩ := hS2.c
    have hK : KeepT w.heap.size w w3 := (KeepT.of_below hw2).trans (KeepT.of_grown (w := w2) h2 hv0 (by decide) (by decide) (by decide))
    refine ⟨(hK _ _ _ _ HVA.out (Or.inl rfl)).trans HVA.out, HPR.out.keep (hK.mono (by omega)), (h2.block _ (by omega) (fun e => by injection e with e; omega)).trans hres, ?_⟩
    exact ((hw2.mono (by omega)).trans ⟨h2.os, h2.tape, h2.output, h2.size, fun k hk => h2.block k (by omega) (fun e => by injection e with e; omega)⟩)
  have Hsz : Hid _ := hsz
  have HB2 : Hid _ := hw2
  refine htk.mono ?_
  rintro e w3 ⟨rfl, hs3, hg3⟩
  obtain ⟨kv3, kp3, kr3, kb3⟩ := HTK.out _ hs3 hg3
  have hsz3 := hg3.size
  rw [hsz] at hsz3
  have hcl := hcall w3 kv3
  have KS : Hid _ := hs3
  have KP : Hid _ := kp3
  have KR : Hid _ := kr3
  have KB : Hid _ := kb3
  clear hbox hS2 hsz hw2 hres hg3 hs3 kv3 kp3 kr3 kb3 HTK HS HPR HVA
  go_wp2_with fail
  refine hcl.mono ?_
  rintro e w4 ⟨rfl, ⟨us, hE, hd⟩, hb4⟩
  have hr4 := (hb4.block _ (Array.getElem?_eq_some_iff.1 KR.out).1).trans KR.out
  have c0 := cell_row hr4 0
  have c1 := cell_row hr4 1
  have z0 := frozen_of_row _ _ 0 _ _ hr4
  have z1 := frozen_of_row _ _ 1 _ _ hr4
  simp at c0 c1
  have HE : Hid _ := hE
  have HD : Hid _ := hd
  have HB4 : Hid _ := hb4
  have HR4 : Hid _ := hr4
  clear hE hd hb4 hr4 hcl htk hcall
  go_wp2
  have f := set2_cells HR4.out (.slice none 0 0) (.slice (some ⟨w3.heap.size, 0, none⟩) (n + 1) (n + 1))
  refine bodyPost_ret (v := .agg #[.slice none 0 0, .slice (some ⟨w3.heap.size, 0, none⟩) (n + 1) (n + 1)]) (by simp [results, Try.results63, go_sem, f.1, f.2.1]) rfl ?_
  exact fin_end (KS.out.up HB4.out) (KP.out.keep (KeepT.of_below HB4.out)) HR4.out (KB.out.trans (HB4.out.mono (by omega))) HE.out HTY.out (HSEM.out _ HD.out) (by omega)
set_option maxRecDepth 100000 in
set_option maxHeartbeats 3200000 in
theorem Try.mwork20_any (b n c hi : Nat) (d : Option Addr) (zs : List Int) (x : Sk) (px : Mp) (rest : List (Sk × Mp)) (w : World) (hL : LtSl w d n c zs) (hn : n ≤ 10000) (hS : StkAt w b w.heap.size ((((x, px) :: rest).map (·.2)).reverse)) (hP : Parts w n b hi ((x, px) :: rest)) (hh : hi ≤ w.heap.size) (hx : x.1 = false) (hr : rest.length ≤ 1000000) :
    Calls Try.prog 63 #[.pointer (some ⟨b, 0, none⟩), .agg #[.int .u8 20, .int .u8 0], .slice d n c] w (WorkR n b w (skT (zN zs) (20, 0) [x]) rest) := by
  have hlen : (zN zs).length = n := by rw [zN_len]; exact hL.sl.hlen
  obtain ⟨lo, hpx, hlo, hPr⟩ := hP
  obtain ⟨p1, p2⟩ := px
  rw [List.map_cons, List.reverse_cons] at hS
  dsimp only at hS
  obtain ⟨ga, av, hp1, hVa, hla, hva, _⟩ := hpx.2 hx
  dsimp only at hp1
  subst hp1
  have hw1 := below_new w (.cells #[.int .u8 20, .int .u8 0] 37)
  have hw2 := below_step hw1 (below_new (w.alloc (.cells #[.int .u8 20, .int .u8 0] 37)) (.cells #[.slice none 0 0, .slice none 0 0] 75))
  have hbox := (Below.heap_alloc (w.alloc (.cells #[.int .u8 20, .int .u8 0] 37)) (.cells #[.slice none 0 0, .slice none 0 0] 75) w.heap.size (by simp)).trans (MapKept.heap_alloc w _).1
  have hres := (MapKept.heap_alloc (w.alloc (.cells #[.int .u8 20, .int .u8 0] 37)) (.cells #[.slice none 0 0, .slice none 0 0] 75)).1
  have hsz : ((w.alloc (.cells #[.int .u8 20, .int .u8 0] 37)).alloc (.cells #[.slice none 0 0, .slice none 0 0] 75)).heap.size = w.heap.size + 2 := by simp
  rw [show (w.alloc (.cells #[.int .u8 20, .int .u8 0] 37)).heap.size = w.heap.size + 1 by simp] at hres
  clear hw1
  have HSEM : Hid (∀ rs : Nat → List Nat, (∀ i, i < n + 1 → ∀ j, hasW (rs i) j = tstF av (n + 1) i j) → ∀ i, i ≤ n → ∀ k, hasW (rs i) k = true ↔ (skT (zN zs) (20, 0) [x]).2.2 i k) := fun rs hd => sem_test hva hd
  have hcall := fun W (h : ValAt W ga av) => Try.mtest_any ga (n + 1) av W (by omega) h hla
  have HTY : Hid ((skT (zN zs) (20, 0) [x]).1 = true) := rfl
  generalize skT (zN zs) (20, 0) [x] = X at *
  have hbB := hS.lt
  have HPR : Hid (Parts w n b lo rest) := hPr
  have HVA : Hid (ValAt w ga av) := hVa
  have HS : Hid _ := hS
  clear hS hPr hVa hva hla hL hpx hlen
  go_enter Try.func63, Try.ntmps63
  go_wp2_with fail
  generalize (w.alloc (.cells #[.int .u8 20, .int .u8 0] 37)).alloc (.cells #[.slice none 0 0, .slice none 0 0] 75) = w2 at *
  have hS2 := HS.out.up hw2
  have htk := Try.mtake_any b w.heap.size _ _ w2 hS2 (by simpa using hr)
  unfold slV at htk
  dsimp only at htk
  have hfd := Try.fld0 (.slice (some ⟨ga, 0, none⟩) (n + 1) (n + 1)) (.slice p2.1 p2.2.1 p2.2.2)
  have HTK : Hid (∀ w3, StkAt w3 b w.heap.size ((rest.map (·.2)).reverse) → w2.grownBy w3 (some b) → ValAt w3 ga av ∧ Parts w3 n b lo rest ∧ w3.heap[w.heap.size + 1]? = some (.cells #[.slice none 0 0, .slice none 0 0] 75 (0, 0)) ∧ Below b w w3) := fun w3 h1 h2 => by
    obtain ⟨v0, hv0, _⟩ := hS2.c
    have hK : KeepT w.heap.size w w3 := (KeepT.of_below hw2).trans (KeepT.of_grown (w := w2) h2 hv0 (by decide) (by decide) (by decide))
    refine ⟨(hK _ _ _ _ HVA.out (Or.inl rfl)).trans HVA.out, HPR.out.keep (hK.mono (by omega)), (h2.block _ (by omega) (fun e => by injection e with e; omega)).trans hres, ?_⟩
    exact ((hw2.mono (by omega)).trans ⟨h2.os, h2.tape, h2.output, h2.size, fun k hk => h2.block k (by omega) (fun e => by injection e with e; omega)⟩)
  have Hsz : Hid _ := hsz
  have HB2 : Hid _ := hw2
  refine htk.mono ?_
  rintro e w3 ⟨rfl, hs3, hg3⟩
  obtain ⟨kv3, kp3, kr3, kb3⟩ := HTK.out _ hs3 hg3
  have hsz3 := hg3.size
  rw [hsz] at hsz3
  have hcl := hcall w3 kv3
  have KS : Hid _ := hs3
  have KP : Hid _ := kp3
  have KR : Hid _ := kr3
  have KB : Hid _ := kb3
  clear hbox hS2 hsz hw2 hres hg3 hs3 kv3 kp3 kr3 kb3 HTK HS HPR HVA
  go_wp2_with fail
  refine hcl.mono ?_
  rintro e w4 ⟨rfl, ⟨us, hE, hd⟩, hb4⟩
  have hr4 := (hb4.block _ (Array.getElem?_eq_some_iff.1 KR.out).1).trans KR.out
  have c0 := cell_row hr4 0
  have c1 := cell_row hr4 1
  have z0 := frozen_of_row _ _ 0 _ _ hr4
  have z1 := frozen_of_row _ _ 1 _ _ hr4
  simp at c0 c1
  have HE : Hid _ := hE
  have HD : Hid _ := hd
  have HB4 : Hid _ := hb4
  have HR4 : Hid _ := hr4
  clear hE hd hb4 hr4 hcl htk hcall
  go_wp2
  have f := set2_cells HR4.out (.slice none 0 0) (.slice (some ⟨w3.heap.size, 0, none⟩) (n + 1) (n + 1))
  refine bodyPost_ret (v := .agg #[.slice none 0 0, .slice (some ⟨w3.heap.size, 0, none⟩) (n + 1) (n + 1)]) (by simp [results, Try.results63, go_sem, f.1, f.2.1]) rfl ?_
  exact fin_end (KS.out.up HB4.out) (KP.out.keep (KeepT.of_below HB4.out)) HR4.out (KB.out.trans (HB4.out.mono (by omega))) HE.out HTY.out (HSEM.out _ HD.out) (by omega)
set_option maxRecDepth 100000 in
set_option maxHeartbeats 3200000 in
theorem Try.mwork23_any (b n c hi : Nat) (d : Option Addr) (zs : List Int) (x : Sk) (px : Mp) (rest : List (Sk × Mp)) (w : World) (hL : LtSl w d n c zs) (hn : n ≤ 10000) (hS : StkAt w b w.heap.size ((((x, px) :: rest).map (·.2)).reverse)) (hP : Parts w n b hi ((x, px) :: rest)) (hh : hi ≤ w.heap.size) (hx : x.1 = true) (hI : InW n x) (hr : rest.length ≤ 1000000) :
    Calls Try.prog 63 #[.pointer (some ⟨b, 0, none⟩), .agg #[.int .u8 23, .int .u8 0], .slice d n c] w (WorkR n b w (skT (zN zs) (23, 0) [x]) rest) := by
  have hlen : (zN zs).length = n := by rw [zN_len]; exact hL.sl.hlen
  obtain ⟨lo, hpx, hlo, hPr⟩ := hP
  obtain ⟨p1, p2⟩ := px
  rw [List.map_cons, List.reverse_cons] at hS
  dsimp only at hS
  obtain ⟨ga, rs, hp1, hEa, hva, hga1, hga2⟩ := hpx.1 hx
  dsimp only at hp1
  subst hp1
  have hw1 := below_new w (.cells #[.int .u8 23, .int .u8 0] 37)
  have hw2 := below_step hw1 (below_new (w.alloc (.cells #[.int .u8 23, .int .u8 0] 37)) (.cells #[.slice none 0 0, .slice none 0 0] 75))
  have hbox := (Below.heap_alloc (w.alloc (.cells #[.int .u8 23, .int .u8 0] 37)) (.cells #[.slice none 0 0, .slice none 0 0] 75) w.heap.size (by simp)).trans (MapKept.heap_alloc w _).1
  have hres := (MapKept.heap_alloc (w.alloc (.cells #[.int .u8 23, .int .u8 0] 37)) (.cells #[.slice none 0 0, .slice none 0 0] 75)).1
  have hsz : ((w.alloc (.cells #[.int .u8 23, .int .u8 0] 37)).alloc (.cells #[.slice none 0 0, .slice none 0 0] 75)).heap.size = w.heap.size + 2 := by simp
  rw [show (w.alloc (.cells #[.int .u8 23, .int .u8 0] 37)).heap.size = w.heap.size + 1 by simp] at hres
  clear hw1
  have HSEM : Hid (∀ us : Nat → List Nat, (∀ i, i < n + 1 → ∀ k, hasW (us i) k = true ↔ ∃ m, stepsP (Rl rs) m i k) → ∀ i, i ≤ n → ∀ k, hasW (us i) k = true ↔ (skT (zN zs) (23, 0) [x]).2.2 i k) := fun us hd => sem_star hI hva hd
  have hcall := fun W (h : EndAt W ga (n + 1) rs) => Try.mstar_any ga (n + 1) rs W (by omega) (by omega) h (inR_of hI hva)
  have HTY : Hid ((skT (zN zs) (23, 0) [x]).1 = true) := rfl
  generalize skT (zN zs) (23, 0) [x] = X at *
  have hbB := hS.lt
  have HPR : Hid (Parts w n b lo rest) := hPr
  have HVA : Hid (EndAt w ga (n + 1) rs) := hEa
  have HS : Hid _ := hS
  clear hS hPr hEa hva hL hpx hlen
  go_enter Try.func63, Try.ntmps63
  go_wp2_with fail
  generalize (w.alloc (.cells #[.int .u8 23, .int .u8 0] 37)).alloc (.cells #[.slice none 0 0, .slice none 0 0] 75) = w2 at *
  have hS2 := HS.out.up hw2
  have htk := Try.mtake_any b w.heap.size _ _ w2 hS2 (by simpa using hr)
  unfold slV at htk
  dsimp only at htk
  have hfd := Try.fld1 (.slice p1.1 p1.2.1 p1.2.2) (.slice (some ⟨ga, 0, none⟩) (n + 1) (n + 1))
  have HTK : Hid (∀ w3, StkAt w3 b w.heap.size ((rest.map (·.2)).reverse) → w2.grownBy w3 (some b) → EndAt w3 ga (n + 1) rs ∧ Parts w3 n b lo rest ∧ w3.heap[w.heap.size + 1]? = some (.cells #[.slice none 0 0, .slice none 0 0] 75 (0, 0)) ∧ Below b w w3) := fun w3 h1 h2 => by
    obtain ⟨v0, hv0, _⟩ := hS2.c
    have hK : KeepT w.heap.size w w3 := (KeepT.of_below hw2).trans (KeepT.of_grown (w := w2) h2 hv0 (by decide) (by decide) (by decide))
    refine ⟨HVA.out.keep (fun k c t z hc ht h1 h2 => hK k c t z hc (Or.inr ⟨ht, by omega⟩)), HPR.out.keep (hK.mono (by omega)), (h2.block _ (by omega) (fun e => by injection e with e; omega)).trans hres, ?_⟩
    exact ((hw2.mono (by omega)).trans ⟨h2.os, h2.tape, h2.output, h2.size, fun k hk => h2.block k (by omega) (fun e => by injection e with e; omega)⟩)
  have Hsz : Hid _ := hsz
  have HB2 : Hid _ := hw2
  refine htk.mono ?_
  rintro e w3 ⟨rfl, hs3, hg3⟩
  obtain ⟨kv3, kp3, kr3, kb3⟩ := HTK.out _ hs3 hg3
  have hsz3 := hg3.size
  rw [hsz] at hsz3
  have hcl := hcall w3 kv3
  have KS : Hid _ := hs3
  have KP : Hid _ := kp3
  have KR : Hid _ := kr3
  have KB : Hid _ := kb3
  clear hbox hS2 hsz hw2 hres hg3 hs3 kv3 kp3 kr3 kb3 HTK HS HPR HVA
  go_wp2_with fail
  refine hcl.mono ?_
  rintro e w4 ⟨rfl, ⟨us, hE, hd⟩, hb4⟩
  have hr4 := (hb4.block _ (Array.getElem?_eq_some_iff.1 KR.out).1).trans KR.out
  have c0 := cell_row hr4 0
  have c1 := cell_row hr4 1
  have z0 := frozen_of_row _ _ 0 _ _ hr4
  have z1 := frozen_of_row _ _ 1 _ _ hr4
  simp at c0 c1
  have HE : Hid _ := hE
  have HD : Hid _ := hd
  have HB4 : Hid _ := hb4
  have HR4 : Hid _ := hr4
  clear hE hd hb4 hr4 hcl htk hcall
  go_wp2
  have f := set2_cells HR4.out (.slice none 0 0) (.slice (some ⟨w3.heap.size, 0, none⟩) (n + 1) (n + 1))
  refine bodyPost_ret (v := .agg #[.slice none 0 0, .slice (some ⟨w3.heap.size, 0, none⟩) (n + 1) (n + 1)]) (by simp [results, Try.results63, go_sem, f.1, f.2.1]) rfl ?_
  exact fin_end (KS.out.up HB4.out) (KP.out.keep (KeepT.of_below HB4.out)) HR4.out (KB.out.trans (HB4.out.mono (by omega))) HE.out HTY.out (HSEM.out _ HD.out) (by omega)
end Go.Proofs.Ytfgaieefejdkbaa
