/- The law LetterKnown, walked: the chapter's examples. -/
import Derived.Test.YtmmjihalpmahnaaDoorWBack
import Derived.Deep.DeepFit
namespace Go.Proofs.YtmmjihalpmahnaaDoor
open Go.RowKit Go.Maps

theorem via {w0 w1 w2 : World} (h : Below w0.heap.size w0 w1) (k : Below w1.heap.size w1 w2) : Below w0.heap.size w0 w2 := h.trans (k.mono h.size)
theorem viaA {w0 w1 w2 : World} {o : Obj} (h : Below w0.heap.size w0 w1) (k : Below (w1.alloc o).heap.size (w1.alloc o) w2) : Below w0.heap.size w0 w2 := via h (((Below.refl _ _).alloc (Nat.le_refl _) o).trans (k.mono (by simp)))
theorem strSl_nil {P : Program} {T : TypeId} {w : World} : StrSl P T w none 0 0 (adOf none) [] :=
  ⟨rfl, Nat.le_refl _, Nat.zero_le _, fun n k w hk hn => absurd hk (by omega), fun k hk => absurd hk (by omega), fun k hk => absurd hk (by omega), fun k => by simp [maxLen, ByteArray.size_empty], fun _ => rfl⟩
theorem small_max {n : Nat} (h : n ≤ 100000) : n ≤ maxLen := by unfold maxLen; omega
theorem Tryd.name_lit (b : ByteArray) (v : Bool) (h : nameL b.data.toList = v) (hs : b.size ≤ 100000) (W : World) : Calls Tryd.prog 29 #[.string b] W fun e w' => e = .returned (.bool v) ∧ W = w' :=
  (Tryd.name_any b W (small_max hs)).mono fun e w' ⟨he, hw⟩ => ⟨by rw [he, ByteArray.toList_eq, h], hw.symm⟩
/-- A list of texts that was just laid. -/
theorem Tryd.rowNew (W : World) (ss : List ByteArray) (hm : ss.length ≤ 100) (hz : ∀ s ∈ ss, s.size ≤ 100000) : StrSl Tryd.prog 22 (W.alloc (.cells (encS ss) 9)) (some ⟨W.heap.size, 0, none⟩) ss.length ss.length (adOf (some ⟨W.heap.size, 0, none⟩)) ss :=
  RowS.whole (MapKept.heap_alloc W _).1 hm (fun s hs => small_max (hz s hs))
theorem Tryd.letNew (W : World) (zs : List Int) (hm : zs.length ≤ 100000) : IntSl Tryd.prog 24 .u8 (W.alloc (.cells (enc8 zs) 23)) (some ⟨W.heap.size, 0, none⟩) zs.length zs.length zs := by
  have := (RowAt.new W 23 zs).intSl (P := Tryd.prog) (T := 24) (n := zs.length) Tryd.underlying24 Tryd.sizeLet (Nat.le_refl _) (small_max hm)
  rwa [List.take_length] at this
def zer (n : Nat) : List Int := List.replicate n 0
theorem zer_len (n : Nat) : (zer n).length = n := List.length_replicate
theorem Tryd.makeZ (c : Nat) (C : Int) (hc : C = c) (hb : c ≤ 1000000) (w : World) :
    (Instr.makeSlice 24 (.int .i64 C) (.int .i64 C)).run Tryd.prog w = .ok (.slice (some ⟨w.heap.size, 0, none⟩) c c) (w.alloc (.cells (enc8 (zer c)) 23)) := Tryd.makeLet c c C C hc hc (Nat.le_refl _) hb w
theorem Tryd.letRep (W : World) (n : Nat) (hm : n ≤ 100000) : IntSl Tryd.prog 24 .u8 (W.alloc (.cells (enc8 (zer n)) 23)) (some ⟨W.heap.size, 0, none⟩) n n (zer n) := by
  have := Tryd.letNew W (zer n) (by rw [zer_len]; exact hm)
  rwa [zer_len] at this
theorem Tryd.letAt (W : World) (zs : List Int) (g n : Nat) (hg : W.heap.size = g) (hn : zs.length = n) (hm : n ≤ 100000) : IntSl Tryd.prog 24 .u8 (W.alloc (.cells (enc8 zs) 23)) (some ⟨g, 0, none⟩) n n zs := by
  subst hg; subst hn; exact Tryd.letNew W zs hm
theorem Tryd.all0 (W : World) : Calls Tryd.prog 27 #[.int .i64 0] W fun e w' => e = .returned (.slice (some ⟨W.heap.size, 0, none⟩) 1 1) ∧ RowAt w' 23 W.heap.size [0] ∧ Below W.heap.size W w' :=
  (Tryd.all_any 0 W (by decide) (by decide)).mono fun e w' ⟨he, hr, hb⟩ => ⟨he, hr, hb⟩
theorem Tryd.pqR (W : World) : Calls Tryd.prog 31 #[] W fun e w' => e = .returned (.slice (some ⟨W.heap.size, 0, none⟩) 2 2) ∧ StrSl Tryd.prog 22 w' (some ⟨W.heap.size, 0, none⟩) 2 2 (adOf (some ⟨W.heap.size, 0, none⟩)) [bP, bQ] ∧ Below W.heap.size W w' :=
  (Tryd.pq_any W).mono fun e w' ⟨he, hr, hb⟩ => ⟨he, hr.whole (by decide) pq_size, hb⟩
theorem mem_sizes {ss : List ByteArray} (h : ss.all (fun s => decide (s.size ≤ 100000)) = true) : ∀ s ∈ ss, s.size ≤ 100000 := fun s hs => of_decide_eq_true (List.all_eq_true.1 h s hs)
def nmD (ss : List ByteArray) : List Bytes := ss.map (·.data.toList)
theorem nms_D (ss : List ByteArray) : nms ss = nmD ss := List.map_congr_left fun x _ => ByteArray.toList_eq x
theorem Tryd.check_lit {a : Option Addr} {len cap : Nat} {ad : Nat → Addr} {ss : List ByteArray} {W : World} (h : StrSl Tryd.prog 22 W a len cap ad ss) (v : Int) (hv : checkE (nmD ss) = v) : Calls Tryd.prog 25 #[.slice a len cap] W fun e w' => e = .returned (.int .i64 v) ∧ Below W.heap.size W w' :=
  (Tryd.check_any a len cap ad ss W h).mono fun e w' ⟨he, hb⟩ => ⟨by rw [he, nms_D, hv], hb⟩
def pqL : List ByteArray := [bP, bQ]
theorem nmD_pq : nms [bP, bQ] = nmD [bP, bQ] := nms_D _
theorem Tryd.print_lit {a : Option Addr} {len cap : Nat} {ad : Nat → Addr} {W : World} (h : StrSl Tryd.prog 22 W a len cap ad [bP, bQ]) (l : Int) (hl0 : 0 ≤ l) (hl1 : l < 256) (t : ByteArray) (v : Int) (hv : printB l [bP, bQ] = (t, v)) : Calls Tryd.prog 10 #[.slice a len cap, .int .u8 l] W fun e w' => e = .returned (.tuple #[.string t, .int .i64 v]) ∧ Below W.heap.size W w' :=
  (Tryd.print_any a len cap ad [bP, bQ] l W h hl0 hl1).mono fun e w' ⟨he, hb⟩ => ⟨by unfold PrintR at he; rw [he, hv], hb⟩
theorem Tryd.printT_lit {a : Option Addr} {len cap : Nat} {ad : Nat → Addr} {ta : Option Addr} {tl tc : Nat} {zs : List Int} {W : World} (h : StrSl Tryd.prog 22 W a len cap ad [bP, bQ]) (hT : IntSl Tryd.prog 24 .u8 W ta tl tc zs) (hv : ∀ z ∈ zs, 0 ≤ z ∧ z < 256) (t : ByteArray) (v : Int) (he : printTB zs [bP, bQ] = (t, v)) :
    Calls Tryd.prog 14 #[.slice a len cap, .slice ta tl tc] W fun e w' => e = .returned (.tuple #[.string t, .int .i64 v]) ∧ Below W.heap.size W w' :=
  (Tryd.printT_any a len cap ad [bP, bQ] ta tl tc zs W h hT hv).mono fun e w' ⟨h1, hb⟩ => ⟨by unfold PrintR at h1; rw [h1, he], hb⟩
theorem Tryd.parse_lit {a : Option Addr} {len cap : Nat} {ad : Nat → Addr} {W : World} (h : StrSl Tryd.prog 22 W a len cap ad [bP, bQ]) (s : ByteArray) (hs : s.size ≤ 100000) (hm : MaxOk W) (l v : Int) (hv : parseE nP s.data.toList = (l, v)) : Calls Tryd.prog 12 #[.slice a len cap, .string s] W fun e w' => e = .returned (.tuple #[.int .u8 l, .int .i64 v]) ∧ Below W.heap.size W w' :=
  (Tryd.parse_any a len cap ad [bP, bQ] s W h (small_max hs) hm).mono fun e w' ⟨he, hb⟩ => ⟨by unfold ParseR at he; rw [he, nms_pq, ByteArray.toList_eq, hv], hb⟩
theorem Tryd.parseT_lit {a : Option Addr} {len cap : Nat} {ad : Nat → Addr} {W : World} (h : StrSl Tryd.prog 22 W a len cap ad [bP, bQ]) (s : ByteArray) (hs : s.size ≤ 100000) (hm : MaxOk W) (v : Int) (hv : parseTE nP s.data.toList = ([], v)) : Calls Tryd.prog 16 #[.slice a len cap, .string s] W fun e w' => ∃ a', e = .returned (.tuple #[.slice a' 0 0, .int .i64 v]) ∧ Below W.heap.size W w' :=
  (Tryd.parseT_any a len cap ad [bP, bQ] s W h (small_max hs) hm).mono fun e w' hR => by
    rw [nms_pq, ByteArray.toList_eq, hv] at hR
    obtain ⟨a', he, _, _, hb⟩ := hR
    exact ⟨a', he, hb⟩
theorem Tryd.trace_lit {ta : Option Addr} {tl tc : Nat} {zs : List Int} {W : World} (n : Int) (hT : IntSl Tryd.prog 24 .u8 W ta tl tc zs) (v : Int) (hv : traceE n zs = v) : Calls Tryd.prog 19 #[.int .i64 n, .slice ta tl tc] W fun e w' => e = .returned (.int .i64 v) ∧ W = w' :=
  (Tryd.trace_any n ta tl tc zs W hT).mono fun e w' ⟨he, hw⟩ => ⟨by rw [he, hv], hw.symm⟩

theorem ex_p0 : printB 0 [bP, bQ] = (⟨#[45]⟩, 0) := by unfold printB; rw [nms_pq, if_pos chk_pq]; kernel_rfl
theorem ex_p4 : printB 4 [bP, bQ] = (⟨#[]⟩, 2) := by unfold printB; rw [nms_pq, if_pos chk_pq]; kernel_rfl
theorem ex_t3 : printTB [1, 0, 3] [bP, bQ] = (⟨#[112, 59, 45, 59, 112, 32, 113]⟩, 0) := by unfold printTB; rw [nms_pq, if_pos chk_pq]; kernel_rfl
theorem ex_t0 : printTB [] [bP, bQ] = (⟨#[]⟩, 0) := by unfold printTB; rw [nms_pq, if_pos chk_pq]; kernel_rfl
theorem tr_long {n : Int} {zs : List Int} (h0 : 0 ≤ n) (h8 : n ≤ 8) (h : 1024 < zs.length) : traceE n zs = 3 := by unfold traceE; rw [if_pos ⟨h0, h8⟩, if_pos h]
theorem ex_t1025 : printTB (zer 1025) [bP, bQ] = (⟨#[]⟩, 3) := by
  have h : traceE ([bP, bQ] : List ByteArray).length (zer 1025) = 3 := tr_long (by decide) (by decide) (by rw [zer_len]; decide)
  unfold printTB; rw [nms_pq, if_pos chk_pq, h, if_neg (by decide)]
theorem ex_tr1025 : traceE 2 (zer 1025) = 3 := tr_long (by decide) (by decide) (by rw [zer_len]; decide)
theorem ex_tr1024 : traceE 2 (zer 1024) = 0 := by
  unfold traceE
  rw [if_pos (by decide), if_neg (by rw [zer_len]; decide), if_pos]
  rw [List.all_eq_true]; intro z hz; have := List.eq_of_mem_replicate hz; subst this; decide
theorem rep_val (n : Nat) : ∀ z ∈ zer n, 0 ≤ z ∧ z < 256 := fun z hz => by have := List.eq_of_mem_replicate hz; subst this; decide
theorem ex_of6 : ofE nP [[114]] = (0, 6) := by kernel_rfl
def badT : List ByteArray := [⟨#[113, 32, 112]⟩, ⟨#[]⟩, ⟨#[45, 32, 45]⟩, ⟨#[112, 32, 32, 113]⟩, ⟨#[112, 32]⟩, ⟨#[114]⟩]
theorem bad_all : (badT.all fun s => decide (parseE nP s.data.toList = (0, 110)) && decide (s.size ≤ 100000)) = true := by kernel_rfl

set_option maxRecDepth 100000 in
set_option maxHeartbeats 8000000 in
theorem Tryd.known_any (w : World) (hm : MaxOk w) : Calls Tryd.prog 6 #[] w fun e w' => e = .returned (.bool true) ∧ Below w.heap.size w w' := by
  go_enter Tryd.func6, Tryd.ntmps6
  go_wp2_with fail
  refine (Tryd.name_lit ⟨#[112, 49]⟩ true (by kernel_rfl) (by decide) w).mono ?_
  rintro e w' ⟨rfl, rfl⟩
  go_wp2_with fail
  refine (Tryd.name_lit ⟨#[116, 114, 117, 101]⟩ false (by kernel_rfl) (by decide) w).mono ?_
  rintro e w' ⟨rfl, rfl⟩
  go_wp2_with fail
  refine (Tryd.name_lit ⟨#[108, 97, 115, 116]⟩ false (by kernel_rfl) (by decide) w).mono ?_
  rintro e w' ⟨rfl, rfl⟩
  go_wp2_with fail
  refine (Tryd.name_lit ⟨#[49, 112]⟩ false (by kernel_rfl) (by decide) w).mono ?_
  rintro e w' ⟨rfl, rfl⟩
  go_wp2_with fail
  refine (Tryd.name_lit ⟨#[80]⟩ false (by kernel_rfl) (by decide) w).mono ?_
  rintro e w' ⟨rfl, rfl⟩
  go_wp2_with fail
  refine (Tryd.name_lit ⟨#[]⟩ false (by kernel_rfl) (by decide) w).mono ?_
  rintro e w' ⟨rfl, rfl⟩
  go_wp2_with fail
  refine (Tryd.strings_Repeat ⟨#[97]⟩ 20 w (by decide) (by decide)).mono ?_
  rintro e w1 ⟨rfl, hB1⟩
  go_wp2_with fail
  refine (Tryd.name_lit _ true (by kernel_rfl) (by decide) w1).mono ?_
  rintro e w' ⟨rfl, rfl⟩
  go_wp2_with fail
  refine (Tryd.strings_Repeat ⟨#[97]⟩ 21 w1 (by decide) (by decide)).mono ?_
  rintro e w2 ⟨rfl, hb2⟩
  have hB2 := via hB1 hb2
  clear hb2 hB1
  go_wp2_with fail
  refine (Tryd.name_lit _ false (by kernel_rfl) (by decide) w2).mono ?_
  rintro e w' ⟨rfl, rfl⟩
  go_wp2_with fail
  refine (Tryd.check_lit (Tryd.rowNew w2 [⟨#[112]⟩, ⟨#[113]⟩, ⟨#[112]⟩] (by decide) (mem_sizes (by kernel_rfl))) 5 (by kernel_rfl)).mono ?_
  rintro e w3 ⟨rfl, hb⟩
  have hB3 := viaA hB2 hb
  clear hb hB2
  go_wp2_with fail
  refine (Tryd.check_lit (Tryd.rowNew w3 [⟨#[112]⟩, ⟨#[108, 97, 115, 116]⟩] (by decide) (mem_sizes (by kernel_rfl))) 4 (by kernel_rfl)).mono ?_
  rintro e w4 ⟨rfl, hb⟩
  have hB4 := viaA hB3 hb
  clear hb hB3
  have hmk9 := fun W => Tryd.makeStr 9 9 9 9 rfl rfl (Nat.le_refl _) (by decide) W
  go_wp2_with fail
  refine (Tryd.check_lit (Tryd.rowNew w4 (List.replicate 9 ByteArray.empty) (by decide) (mem_sizes (by kernel_rfl))) 3 (by kernel_rfl)).mono ?_
  rintro e w5 ⟨rfl, hb⟩
  have hB5 := viaA hB4 hb
  clear hb hB4
  clear hmk9
  go_wp2_with fail
  refine (Tryd.check_lit (W := w5) strSl_nil 0 (by kernel_rfl)).mono ?_
  rintro e w6 ⟨rfl, hb⟩
  have hB6 := via hB5 hb
  clear hb hB5
  go_wp2_with fail
  refine (Tryd.pqR w6).mono ?_
  rintro e w7 ⟨rfl, hpq, hb⟩
  have hB7 := via hB6 hb
  clear hb hB6
  have hof := Tryd.of_any _ _ _ _ [bP, bQ] _ _ _ _ [⟨#[114]⟩] _ (hpq.up ((Below.refl _ _).alloc (Nat.le_refl _) (.cells #[.string ⟨#[114]⟩] 9))) (Tryd.rowNew w7 [⟨#[114]⟩] (by decide) (mem_sizes (by kernel_rfl)))
  rw [nms_pq, nms_D] at hof
  unfold OfR at hof
  have hnr : nmD [⟨#[114]⟩] = [[114]] := rfl
  rw [hnr, ex_of6] at hof
  go_wp2_with fail
  refine hof.mono ?_
  rintro e w8 ⟨rfl, hb⟩
  have hB8 := viaA hB7 hb
  clear hb hB7 hof hnr hpq
  go_wp2_with fail
  refine (Tryd.pqR w8).mono ?_
  rintro e w9 ⟨rfl, hpq, hb⟩
  have hB9 := via hB8 hb
  clear hb hB8
  go_wp2_with fail
  refine (Tryd.print_lit hpq 0 (by decide) (by decide) _ _ ex_p0).mono ?_
  rintro e w10 ⟨rfl, hb⟩
  have hB10 := via hB9 hb
  clear hb hB9
  clear hpq
  go_wp2_with fail
  refine (Tryd.pqR w10).mono ?_
  rintro e w11 ⟨rfl, hpq, hb⟩
  have hB11 := via hB10 hb
  clear hb hB10
  go_wp2_with fail
  refine (Tryd.print_lit hpq 4 (by decide) (by decide) _ _ ex_p4).mono ?_
  rintro e w12 ⟨rfl, hb⟩
  have hB12 := via hB11 hb
  clear hb hB11
  clear hpq
  go_wp2
  have hBB : Below w.heap.size w (w12.alloc (.cells #[.string ⟨#[113, 32, 112]⟩, .string ⟨#[]⟩, .string ⟨#[45, 32, 45]⟩, .string ⟨#[112, 32, 32, 113]⟩, .string ⟨#[112, 32]⟩, .string ⟨#[114]⟩] 9)) := hB12.alloc hB12.size _
  have hrowB : RowS (w12.alloc (.cells #[.string ⟨#[113, 32, 112]⟩, .string ⟨#[]⟩, .string ⟨#[45, 32, 45]⟩, .string ⟨#[112, 32, 32, 113]⟩, .string ⟨#[112, 32]⟩, .string ⟨#[114]⟩] 9)) 9 w12.heap.size badT := (MapKept.heap_alloc w12 _).1
  generalize w12.alloc (.cells #[.string ⟨#[113, 32, 112]⟩, .string ⟨#[]⟩, .string ⟨#[45, 32, 45]⟩, .string ⟨#[112, 32, 32, 113]⟩, .string ⟨#[112, 32]⟩, .string ⟨#[114]⟩] 9) = WB at *
  go_loopw [10] (fun i wr => ∃ k : Nat, k ≤ 6 ∧ i = .int .i64 k ∧ Below WB.heap.size WB wr) (fun i _ => 6 - (intOf i).toNat)
  case atStart => exact ⟨0, Nat.zero_le _, rfl, Below.refl _ _⟩
  case round =>
    obtain ⟨k, hk, rfl, hnx⟩ := hrel
    by_cases hlt : k < 6
    · have hk0 : wr.cell? ⟨w12.heap.size, k, none⟩ = some (.string (badT.getD k ByteArray.empty)) := (hrowB.up hnx).cell hlt
      have hmem : badT.getD k ByteArray.empty ∈ badT := by
        rw [List.getD_eq_getElem?_getD, List.getElem?_eq_getElem (show k < badT.length from hlt)]; exact List.getElem_mem _
      have hbad := List.all_eq_true.1 bad_all _ hmem
      simp only [Bool.and_eq_true, decide_eq_true_eq] at hbad
      have hlt2 : w12.heap.size < wr.heap.size := (hrowB.up hnx).lt
      have hmw : MaxOk wr := (hm.up hBB).up hnx
      generalize badT.getD k ByteArray.empty = z at *
      have hk1 : ∀ W, Below wr.drew.heap.size wr.drew W → W.cell? ⟨w12.heap.size, k, none⟩ = some (.string z) := fun W hW => (hW.cell hlt2).trans hk0
      have hk2 : ∀ W W2, Below wr.drew.heap.size wr.drew W → Below W.heap.size W W2 → W2.cell? ⟨w12.heap.size, k, none⟩ = some (.string z) := fun W W2 hW hW2 => cell_later hW2 (hk1 W hW)
      have hmx : ∀ W, Below wr.drew.heap.size wr.drew W → MaxOk W := fun W hW => by obtain ⟨m, h⟩ := hmw; exact ⟨m, cell_later (w := wr.drew) hW h⟩
      have hps := fun W a len cap ad (h : StrSl Tryd.prog 22 W a len cap ad [bP, bQ]) hmW => Tryd.parse_lit h z hbad.2 hmW 0 110 hbad.1
      clear hmem hbad hlt2 hmw
      go_wp2
      go_region_held3 (fun w' => w'.cell? ⟨w12.heap.size, k, none⟩ = some (.string z)) (first | exact hk0 | exact hk2 _ _ ‹Below wr.drew.heap.size wr.drew _› ‹_› | exact hk1 _ ‹_›) (first | (go_at_call 31; refine (Tryd.pqR _).mono ?_; rintro e y1 ⟨rfl, hpq, hby1⟩) | (go_at_call 12; refine (hps _ _ _ _ _ ‹_› (hmx _ ‹_›)).mono ?_; rintro e y2 ⟨rfl, hby2⟩))
      go_wp2
      go_roundw
      case rel => exact ⟨k + 1, by omega, by go_num, via (hnx.trans ((Below.refl _ _).drew.trans (hby1.mono (by exact hnx.size)))) hby2⟩
      case measure => simp [intOf]; omega
    · clear hrowB hB12
      have hB13 := via hBB hnx
      rename World => w13
      clear hnx hBB
      go_wp2_with fail
      refine (Tryd.pqR w13).mono ?_
      rintro e w14 ⟨rfl, hpq, hb⟩
      have hB14 := via hB13 hb
      clear hb hB13
      go_wp2_with fail
      refine (Tryd.printT_lit (hpq.up ((Below.refl _ _).alloc (Nat.le_refl _) (.cells #[.int .u8 1, .int .u8 0, .int .u8 3] 23))) (Tryd.letNew w14 [1, 0, 3] (by decide)) (by decide) _ _ ex_t3).mono ?_
      rintro e w15 ⟨rfl, hb⟩
      have hB15 := viaA hB14 hb
      clear hb hB14
      clear hpq
      go_wp2_with fail
      refine (Tryd.pqR w15).mono ?_
      rintro e w16 ⟨rfl, hpq, hb⟩
      have hB16 := via hB15 hb
      clear hb hB15
      go_wp2_with fail
      refine (Tryd.printT_lit hpq intSl_nil (by decide) _ _ ex_t0).mono ?_
      rintro e w17 ⟨rfl, hb⟩
      have hB17 := via hB16 hb
      clear hb hB16
      clear hpq
      go_wp2_with fail
      refine (Tryd.pqR w17).mono ?_
      rintro e w18 ⟨rfl, hpq, hb⟩
      have hB18 := via hB17 hb
      clear hb hB17
      go_wp2_with fail
      refine (Tryd.parseT_lit hpq ⟨#[]⟩ (by decide) (hm.up hB18) 0 (by kernel_rfl)).mono ?_
      rintro e w19 ⟨aN18, rfl, hb⟩
      have hB19 := via hB18 hb
      clear hb hB18
      clear hpq
      go_wp2_with fail
      refine (Tryd.pqR w19).mono ?_
      rintro e w20 ⟨rfl, hpq, hb⟩
      have hB20 := via hB19 hb
      clear hb hB19
      go_wp2_with fail
      refine (Tryd.parseT_lit hpq ⟨#[112, 59]⟩ (by decide) (hm.up hB20) 110 (by kernel_rfl)).mono ?_
      rintro e w21 ⟨aN20, rfl, hb⟩
      have hB21 := via hB20 hb
      clear hb hB20
      clear hpq
      go_wp2_with fail
      refine (Tryd.pqR w21).mono ?_
      rintro e w22 ⟨rfl, hpq, hb⟩
      have hB22 := via hB21 hb
      clear hb hB21
      go_wp2_with fail
      refine (Tryd.parseT_lit hpq ⟨#[59, 112]⟩ (by decide) (hm.up hB22) 110 (by kernel_rfl)).mono ?_
      rintro e w23 ⟨aN22, rfl, hb⟩
      have hB23 := via hB22 hb
      clear hb hB22
      clear hpq
      have hmk := fun W => Tryd.makeZ 1025 1025 rfl (by decide) W
      have hmk4 := fun W => Tryd.makeZ 1024 1024 rfl (by decide) W
      go_wp2
      go_region_held3 (fun _ => True) (exact True.intro) (first | (go_at_call 31; refine (Tryd.pqR _).mono ?_; rintro e y1 ⟨rfl, hpq, hby1⟩) | (go_at_call 14; go_fit (Tryd.printT_lit (hpq.up ((Below.refl _ _).alloc (Nat.le_refl _) (.cells (enc8 (zer 1025)) 23))) (Tryd.letRep y1 1025 (by decide)) (rep_val 1025) _ _ ex_t1025); rintro e w24 ⟨rfl, hb24⟩) | (go_at_call 14; rw [show (w23.alloc (.cells (enc8 (zer 1025)) 23)).drew.heap.size = w23.heap.size + 1 from World.size_alloc w23 _] at hpq; go_fit (Tryd.printT_lit hpq ((Tryd.letRep w23 1025 (by decide)).up ⟨hby1.os, hby1.tape, hby1.output, hby1.size, hby1.block⟩) (rep_val 1025) _ _ ex_t1025); rintro e w24 ⟨rfl, hb24⟩))
      · have hB24 := viaA (hB23.trans ((Below.refl _ _).drew.trans (hby1.mono (by exact hB23.size)))) hb24
        clear hb24 hby1 hB23
        clear hpq
        go_wp2_with fail
        refine (Tryd.trace_lit 2 (Tryd.letRep w24 1025 (by decide)) 3 ex_tr1025).mono ?_
        rintro e w' ⟨rfl, rfl⟩
        go_wp2_with fail
        refine (Tryd.trace_lit 2 (Tryd.letAt (w24.alloc (.cells (enc8 (zer 1025)) 23)) (zer 1024) (w24.heap.size + 1) 1024 (World.size_alloc w24 _) (zer_len 1024) (by decide)) 0 ex_tr1024).mono ?_
        rintro e w' ⟨rfl, rfl⟩
        go_wp2_with fail
        refine (Tryd.trace_lit (W := (w24.alloc (.cells (enc8 (zer 1025)) 23)).alloc (.cells (enc8 (zer 1024)) 23)) 9 intSl_nil 2 (by decide)).mono ?_
        rintro e w' ⟨rfl, rfl⟩
        go_wp2_with fail
        refine (Tryd.trace_lit 2 (Tryd.letAt ((w24.alloc (.cells (enc8 (zer 1025)) 23)).alloc (.cells (enc8 (zer 1024)) 23)) [4] (w24.heap.size + 1 + 1) 1 (by simp) rfl (by decide)) 2 (by kernel_rfl)).mono ?_
        rintro e w' ⟨rfl, rfl⟩
        have hs24 := hB24.size
        have hB25 : Below w.heap.size w (((w24.alloc (.cells (enc8 (zer 1025)) 23)).alloc (.cells (enc8 (zer 1024)) 23)).alloc (.cells (enc8 [4]) 23)) := ((hB24.alloc hs24 _).alloc (by simp; omega) _).alloc (by simp; omega) _
        have haw := Tryd.awake_any _ (hm.up hB25)
        go_wp2_with fail
        refine haw.mono ?_
        rintro e w26 ⟨rfl, hb26⟩
        have hB26 := via hB25 hb26
        clear haw hb26 hB25 hs24 hB24
        go_wp2_with fail
        refine (Tryd.all0 w26).mono ?_
        rintro e w27 ⟨rfl, hrow, hb27⟩
        have hB27 := via hB26 hb27
        clear hb27 hB26
        have hsm := Tryd.same_any _ _ _ _ _ _ _ _ _ ((hrow.intSl (P := Tryd.prog) (T := 24) (n := 1) Tryd.underlying24 Tryd.sizeLet (by decide) (by unfold maxLen; decide)).up ((Below.refl _ _).alloc (Nat.le_refl _) (.cells #[.int .u8 0] 23))) (Tryd.letNew w27 [0] (by decide))
        go_wp2_with fail
        refine hsm.mono ?_
        rintro e w28 ⟨rfl, hw28⟩
        have hB28 := viaA hB27 (drew_below hw28)
        have e0 : decide (List.take 1 ([0] : List Int) = [0]) = true := by decide
        clear hsm hw28 hrow hB27
        go_wp2_with fail
        refine (Tryd.all_none 9 w28 (by decide)).mono ?_
        rintro e w29 ⟨rfl, hw⟩
        subst hw
        go_wp2
        go_ret
        exact ⟨rfl, hB28⟩
      · have hB24 := via ((hB23.alloc hB23.size (.cells (enc8 (zer 1025)) 23)).trans ((Below.refl _ _).drew.trans (hby1.mono (by simp; have := hB23.size; omega)))) hb24
        clear hb24 hby1 hB23
        clear hpq
        go_wp2_with fail
        refine (Tryd.trace_lit 2 (Tryd.letRep w24 1025 (by decide)) 3 ex_tr1025).mono ?_
        rintro e w' ⟨rfl, rfl⟩
        go_wp2_with fail
        refine (Tryd.trace_lit 2 (Tryd.letAt (w24.alloc (.cells (enc8 (zer 1025)) 23)) (zer 1024) (w24.heap.size + 1) 1024 (World.size_alloc w24 _) (zer_len 1024) (by decide)) 0 ex_tr1024).mono ?_
        rintro e w' ⟨rfl, rfl⟩
        go_wp2_with fail
        refine (Tryd.trace_lit (W := (w24.alloc (.cells (enc8 (zer 1025)) 23)).alloc (.cells (enc8 (zer 1024)) 23)) 9 intSl_nil 2 (by decide)).mono ?_
        rintro e w' ⟨rfl, rfl⟩
        go_wp2_with fail
        refine (Tryd.trace_lit 2 (Tryd.letAt ((w24.alloc (.cells (enc8 (zer 1025)) 23)).alloc (.cells (enc8 (zer 1024)) 23)) [4] (w24.heap.size + 1 + 1) 1 (by simp) rfl (by decide)) 2 (by kernel_rfl)).mono ?_
        rintro e w' ⟨rfl, rfl⟩
        have hs24 := hB24.size
        have hB25 : Below w.heap.size w (((w24.alloc (.cells (enc8 (zer 1025)) 23)).alloc (.cells (enc8 (zer 1024)) 23)).alloc (.cells (enc8 [4]) 23)) := ((hB24.alloc hs24 _).alloc (by simp; omega) _).alloc (by simp; omega) _
        have haw := Tryd.awake_any _ (hm.up hB25)
        go_wp2_with fail
        refine haw.mono ?_
        rintro e w26 ⟨rfl, hb26⟩
        have hB26 := via hB25 hb26
        clear haw hb26 hB25 hs24 hB24
        go_wp2_with fail
        refine (Tryd.all0 w26).mono ?_
        rintro e w27 ⟨rfl, hrow, hb27⟩
        have hB27 := via hB26 hb27
        clear hb27 hB26
        have hsm := Tryd.same_any _ _ _ _ _ _ _ _ _ ((hrow.intSl (P := Tryd.prog) (T := 24) (n := 1) Tryd.underlying24 Tryd.sizeLet (by decide) (by unfold maxLen; decide)).up ((Below.refl _ _).alloc (Nat.le_refl _) (.cells #[.int .u8 0] 23))) (Tryd.letNew w27 [0] (by decide))
        go_wp2_with fail
        refine hsm.mono ?_
        rintro e w28 ⟨rfl, hw28⟩
        have hB28 := viaA hB27 (drew_below hw28)
        have e0 : decide (List.take 1 ([0] : List Int) = [0]) = true := by decide
        clear hsm hw28 hrow hB27
        go_wp2_with fail
        refine (Tryd.all_none 9 w28 (by decide)).mono ?_
        rintro e w29 ⟨rfl, hw⟩
        subst hw
        go_wp2
        go_ret
        exact ⟨rfl, hB28⟩
end Go.Proofs.YtmmjihalpmahnaaDoor
