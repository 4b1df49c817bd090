/- ParseKnown, over the contracts of parse.Formula and parse.Path: the walk. -/
import Derived.Test.YtnibcmmgnenfcaaDoorWPK1
namespace Go.Proofs.YtnibcmmgnenfcaaDoor
open Go.RowKit Go.Maps

set_option maxRecDepth 100000 in
set_option maxHeartbeats 4000000 in
theorem Tryd.pknown_any (hFm : ReadC 7 formL) (hPa : ReadC 9 pathL) (w : World) (hT : Tab w) :
    Calls Tryd.prog 6 #[] w fun e w' => e = .returned (.bool true) ∧ Below w.heap.size w w' := by
  have HT : Hid (Tab w) := hT
  have HFm : Hid (ReadC 7 formL) := hFm
  have HPa : Hid (ReadC 9 pathL) := hPa
  clear hT hFm hPa
  go_enter Tryd.func6, Tryd.ntmps6
  go_wp2
  have HK : Hid (KW (allocs w (kobjs w.heap.size)) w.heap.size (w.heap.size + 1) (w.heap.size + 1 + 1 + 1) (w.heap.size + 1 + 1 + 1 + 1) (w.heap.size + 1 + 1 + 1 + 1 + 1 + 1 + 1 + 1 + 1 + 1)) := KW.new w HT.out
  have HB0 : Hid (Below w.heap.size w (allocs w (kobjs w.heap.size))) := allocs_below _ _
  change Code.wp _ _ _ _ (allocs w (kobjs w.heap.size))
  generalize allocs w (kobjs w.heap.size) = w6 at *
  generalize w.heap.size + 1 + 1 + 1 + 1 + 1 + 1 + 1 + 1 + 1 + 1 = g10 at *
  generalize w.heap.size + 1 + 1 + 1 + 1 = gr at *
  generalize w.heap.size + 1 + 1 + 1 = g3 at *
  have q1 := Tryd.neqFlt 0 0 0 0
  rw [decide_eq_true (rfl : ((0 : Int), (0 : Int)) = (0, 0))] at q1
  go_loopw [6] (fun i wr => ∃ k : Nat, k ≤ 6 ∧ i = .int .i64 k ∧ Hid (Below w6.heap.size w6 wr)) (fun i _ => 6 - (intOf i).toNat)
  case atStart => exact ⟨0, Nat.zero_le _, rfl, Below.refl _ _⟩
  case round =>
    obtain ⟨k, hk, rfl, HB⟩ := hrel
    by_cases hlt : k < 6
    · have hK := HK.out.up HB.out
      have hck := hK.tx.cell (k := k) hlt
      have hik := Tryd.idxS g3 6 k hlt
      have hW := HFm.out _ _ _ _ _ (mkB (kt6.getD k [])) wr (stAt_str hK.nm (by decide) (by decide)) (by rw [mkB_size]; exact kt6_sz k hlt) hK.tb
      rw [nms_mkB, mkB_toList, kn6 k hlt] at hW
      have hio : ∀ w', (Instr.indexAt 34 (.slice (some ⟨g10, 0, none⟩) 6 6) (.int .i64 k)).run Tryd.prog w' = .ok (.pointer (some ⟨g10, k, none⟩)) w' := fun w' => by
        have := idx_of (a := some ⟨g10, 0, none⟩) (cap := 6) (n := 6) Tryd.underlying34 (by kernel_rfl) (by simp) k w' hlt
        simpa [adOf, add_plain] using this
      have hsl := fun w' (hb : Below w6.heap.size w6 w') => (HK.out.up hb).sl k hlt
      have hrw := fun w' (hb : Below w6.heap.size w6 w') => (HK.out.up hb).rw k hlt
      generalize mkB (kt6.getD k []) = x at *
      generalize kw6.getD k [] = L at *
      clear hK
      go_wp2_with fail
      refine hW.mono ?_
      rintro e x7 ⟨v7, rfl, hown7, hb7, hl7, hok7⟩
      obtain ⟨a7, c7, rfl, hT7⟩ := own_tks hown7 hok7
      have HB7 : Hid (Below w6.heap.size w6 (x7.alloc (.cells #[.int .i64 0, .int .i64 0] 26))) := (HB.out.trans (hb7.mono HB.out.size)).alloc (HB.out.trans (hb7.mono HB.out.size)).size _
      have hs7 := hsl _ HB7.out
      have h8 := Tryd.sameT_eq (hT7.up (below_new x7 (.cells #[.int .i64 0, .int .i64 0] 26))) (hrw _ HB7.out) rfl
      clear hsl hrw hb7 hW hck hown7 hT7 hok7 hl7
      go_wp2_with fail
      refine h8.mono ?_
      rintro e w8 ⟨rfl, hb8⟩
      have HB8 : Hid (Below w6.heap.size w6 w8) := HB7.out.trans (hb8.mono HB7.out.size)
      clear hb8 h8 hs7
      go_wp2
      go_roundw
      case rel => exact ⟨k + 1, by omega, by go_num, HB8⟩
      case measure => simp [intOf]; omega
    · clear q1
      go_wp2
      have HK1 : Hid (KW (allocs wr kobj2) w.heap.size (w.heap.size + 1) g3 gr g10) := (HK.out.up HB.out).up (allocs_below _ _)
      have HX : Hid (KX (allocs wr kobj2) wr.heap.size (wr.heap.size + 1)) := KX.new wr
      have HB1 : Hid (Below w.heap.size w (allocs wr kobj2)) := below_step (below_step HB0.out HB.out) (allocs_below _ _)
      change Code.wp _ _ _ _ (allocs wr kobj2)
      generalize allocs wr kobj2 = w9 at *
      generalize wr.heap.size + 1 = gf at *
      generalize wr.heap.size = gt at *
      clear HK HB HB0
      go_loopw [11] (fun i wr => ∃ k : Nat, k ≤ 7 ∧ i = .int .i64 k ∧ Hid (Below w9.heap.size w9 wr)) (fun i _ => 7 - (intOf i).toNat)
      case atStart => exact ⟨0, Nat.zero_le _, rfl, Below.refl _ _⟩
      case round =>
        obtain ⟨k, hk, rfl, HB⟩ := hrel
        by_cases hlt : k < 7
        · have hK := HK1.out.up HB.out
          have hck := (HX.out.up HB.out).tx.cell (k := k) hlt
          have hik := Tryd.idxS gt 7 k hlt
          have hW := HFm.out _ _ _ _ _ (mkB (kt7.getD k [])) _ (stAt_str hK.nm (by decide) (by decide)) (by rw [mkB_size]; exact kt7_sz k hlt) hK.tb
          rw [nms_mkB, mkB_toList, kn7 k hlt] at hW
          have hio : ∀ w', (Instr.indexAt 44 (.slice (some ⟨gf, 0, none⟩) 7 7) (.int .i64 k)).run Tryd.prog w' = .ok (.pointer (some ⟨gf, 2 * k, none⟩)) w' := fun w' => by
            have := idx_of2 (g := gf) (cap := 7) (n := 7) Tryd.underlying44 (by kernel_rfl) k w' hlt
            exact this
          have hc0 := fun w' (hb : Below w9.heap.size w9 w') => (HX.out.up hb).f0 k hlt
          have hc1 := fun w' (hb : Below w9.heap.size w9 w') => (HX.out.up hb).f1 k hlt
          have hq := Tryd.neqFlt (kf7.getD k (0, 0)).1 (kf7.getD k (0, 0)).2 (kf7.getD k (0, 0)).1 (kf7.getD k (0, 0)).2
          rw [decide_eq_true rfl] at hq
          generalize mkB (kt7.getD k []) = x at *
          generalize (kf7.getD k (0, 0)).1 = z at *
          generalize (kf7.getD k (0, 0)).2 = y at *
          clear hK
          go_wp2_with fail
          refine hW.mono ?_
          rintro e x7 ⟨v7, rfl, hown7, hb7, hl7, hok7⟩
          obtain ⟨a7, c7, rfl, hT7⟩ := own_tks hown7 hok7
          dsimp only [List.length_nil]
          have HB7 : Hid (Below w9.heap.size w9 (x7.alloc (.cells #[.int .i64 z, .int .i64 y] 26))) := (HB.out.trans (hb7.mono HB.out.size)).alloc (HB.out.trans (hb7.mono HB.out.size)).size _
          have hd0 := hc0 _ HB7.out
          have hd1 := hc1 _ HB7.out
          clear hc0 hc1 hb7 hW hck hown7 hT7 hok7 hl7
          go_wp2
          go_quiet (fail)
          go_wp2
          go_roundw
          case rel => exact ⟨k + 1, by omega, by go_num, below_drewN HB7.out nq⟩
          case measure => simp [intOf]; omega
        · have HB2 : Hid (Below w9.heap.size w9 wr) := HB
          have hK := HK1.out.up HB2.out
          have h1 := HPa.out _ _ _ _ _ (mkB [123, 112, 125, 42]) _ (stAt_str hK.nm (by decide) (by decide)) (by rw [mkB_size]; exact Nat.le_trans (m := 100) (by decide) (by unfold maxLen; decide)) hK.tb
          rw [nms_mkB, mkB_toList, kp1] at h1
          clear HX hK
          go_wp2_with fail
          refine h1.mono ?_
          rintro e x1 ⟨v1, rfl, hown1, hb1, _, hok1⟩
          obtain ⟨a1, c1, rfl, hT1⟩ := own_tks hown1 hok1
          dsimp only [List.length_cons, List.length_nil] at hT1 ⊢
          have HBa : Hid (Below w9.heap.size w9 (x1.alloc (.cells #[.int .i64 0, .int .i64 0] 26))) := (HB2.out.trans (hb1.mono HB2.out.size)).alloc (HB2.out.trans (hb1.mono HB2.out.size)).size _
          have HFa : Hid (Flt (x1.alloc (.cells #[.int .i64 0, .int .i64 0] 26)) x1.heap.size 0 0) := Flt.new _ _ _
          have HSa : Hid (TkSl (x1.alloc (.cells #[.int .i64 0, .int .i64 0] 26)) a1 3 c1 [(2, 0), (19, 0), (23, 0)]) := hT1.up (below_new _ _)
          have hK := HK1.out.up HBa.out
          have h2 := HPa.out _ _ _ _ _ (mkB [112]) _ (stAt_str hK.nm (by decide) (by decide)) (by rw [mkB_size]; exact Nat.le_trans (m := 100) (by decide) (by unfold maxLen; decide)) hK.tb
          rw [nms_mkB, mkB_toList, kp2] at h2
          clear h1 hown1 hb1 hok1 hT1 hK
          go_wp2_with fail
          generalize x1.alloc (.cells #[.int .i64 0, .int .i64 0] 26) = y1 at *
          refine h2.mono ?_
          rintro e x2 ⟨v2, rfl, hown2, hb2, _, hok2⟩
          obtain ⟨a2, c2, rfl, _⟩ := own_tks hown2 hok2
          dsimp only [List.length_nil]
          have HBab : Hid (Below y1.heap.size y1 ((x2.alloc (.cells #[.int .i64 150, .int .i64 0] 26)).alloc (.cells #[.string { data := #[112] }, .string { data := #[112] }] 9))) := (hb2.alloc hb2.size _).alloc (hb2.alloc hb2.size _).size _
          have HBb : Hid (Below w9.heap.size w9 ((x2.alloc (.cells #[.int .i64 150, .int .i64 0] 26)).alloc (.cells #[.string { data := #[112] }, .string { data := #[112] }] 9))) := below_step HBa.out HBab.out
          have HFab : Hid (Flt ((x2.alloc (.cells #[.int .i64 150, .int .i64 0] 26)).alloc (.cells #[.string { data := #[112] }, .string { data := #[112] }] 9)) x1.heap.size 0 0) := HFa.out.up HBab.out
          have HFb : Hid (Flt ((x2.alloc (.cells #[.int .i64 150, .int .i64 0] 26)).alloc (.cells #[.string { data := #[112] }, .string { data := #[112] }] 9)) x2.heap.size 150 0) := (Flt.new x2 150 0).up (below_new _ _)
          have HSb : Hid (TkSl ((x2.alloc (.cells #[.int .i64 150, .int .i64 0] 26)).alloc (.cells #[.string { data := #[112] }, .string { data := #[112] }] 9)) a1 3 c1 [(2, 0), (19, 0), (23, 0)]) := HSa.out.up HBab.out
          have hst : StAt ((x2.alloc (.cells #[.int .i64 150, .int .i64 0] 26)).alloc (.cells #[.string { data := #[112] }, .string { data := #[112] }] 9)) (x2.heap.size + 1) [[112], [112]] := by
            have h := StAt.new (x2.alloc (.cells #[.int .i64 150, .int .i64 0] 26)) [[112], [112]]
            have e : (x2.alloc (.cells #[.int .i64 150, .int .i64 0] 26)).heap.size = x2.heap.size + 1 := by simp
            rw [e] at h; exact h
          have h3 := HFm.out _ _ _ _ _ (mkB [112]) _ (stAt_str hst (by decide) (by decide)) (by rw [mkB_size]; exact Nat.le_trans (m := 100) (by decide) (by unfold maxLen; decide)) (HK1.out.up HBb.out).tb
          rw [nms_mkB, mkB_toList, kp3] at h3
          clear h2 hown2 hb2 hok2 HFa HSa HBab hst
          go_wp2_with fail
          generalize (x2.alloc (.cells #[.int .i64 150, .int .i64 0] 26)).alloc (.cells #[.string { data := #[112] }, .string { data := #[112] }] 9) = y2 at *
          refine h3.mono ?_
          rintro e x3 ⟨v3, rfl, hown3, hb3, _, hok3⟩
          obtain ⟨a3, c3, rfl, _⟩ := own_tks hown3 hok3
          dsimp only [List.length_nil]
          have HBbc : Hid (Below y2.heap.size y2 ((x3.alloc (.cells #[.int .i64 5, .int .i64 (-1)] 26)).alloc (.cells #[.int .u8 2, .int .u8 0, .int .u8 19, .int .u8 0, .int .u8 23, .int .u8 0] 42))) := (hb3.alloc hb3.size _).alloc (hb3.alloc hb3.size _).size _
          have HBc : Hid (Below w9.heap.size w9 ((x3.alloc (.cells #[.int .i64 5, .int .i64 (-1)] 26)).alloc (.cells #[.int .u8 2, .int .u8 0, .int .u8 19, .int .u8 0, .int .u8 23, .int .u8 0] 42))) := below_step HBb.out HBbc.out
          have hSc := HSb.out.up HBbc.out
          have hRc : TkSl ((x3.alloc (.cells #[.int .i64 5, .int .i64 (-1)] 26)).alloc (.cells #[.int .u8 2, .int .u8 0, .int .u8 19, .int .u8 0, .int .u8 23, .int .u8 0] 42)) (some ⟨x3.heap.size + 1, 0, none⟩) 3 3 [(2, 0), (19, 0), (23, 0)] := by
            have h := (MapKept.heap_alloc (x3.alloc (.cells #[.int .i64 5, .int .i64 (-1)] 26)) (.cells #[.int .u8 2, .int .u8 0, .int .u8 19, .int .u8 0, .int .u8 23, .int .u8 0] 42)).1
            have e : (x3.alloc (.cells #[.int .i64 5, .int .i64 (-1)] 26)).heap.size = x3.heap.size + 1 := by simp
            rw [e] at h
            exact row_tk (ts := [(2, 0), (19, 0), (23, 0)]) h (by decide) (by decide)
          have h4 := Tryd.sameT_eq hSc hRc rfl
          have hb30 := hb3.alloc hb3.size (.cells #[.int .i64 5, .int .i64 (-1)] 26)
          have hp0 := ((HK1.out.up HBb.out).up hb30).p0
          have p00 : (x3.alloc (.cells #[.int .i64 5, .int .i64 (-1)] 26)).cell? ⟨w.heap.size + 1, 0, none⟩ = some (.int .u8 2) := by rw [cell_row hp0]; rfl
          have p01 : (x3.alloc (.cells #[.int .i64 5, .int .i64 (-1)] 26)).cell? ⟨w.heap.size + 1, 1, none⟩ = some (.int .u8 0) := by rw [cell_row hp0]; rfl
          have f0 := (HFab.out.up hb30).c0
          have f1 := (HFab.out.up hb30).c1
          have HFc : Hid (Flt ((x3.alloc (.cells #[.int .i64 5, .int .i64 (-1)] 26)).alloc (.cells #[.int .u8 2, .int .u8 0, .int .u8 19, .int .u8 0, .int .u8 23, .int .u8 0] 42)) x2.heap.size 150 0) := HFb.out.up HBbc.out
          have HFd : Hid (Flt ((x3.alloc (.cells #[.int .i64 5, .int .i64 (-1)] 26)).alloc (.cells #[.int .u8 2, .int .u8 0, .int .u8 19, .int .u8 0, .int .u8 23, .int .u8 0] 42)) x3.heap.size 5 (-1)) := (Flt.new x3 5 (-1)).up (below_new _ _)
          have q1 := Tryd.eqlFlt 0 0 0 0
          rw [decide_eq_true (rfl : ((0 : Int), (0 : Int)) = (0, 0))] at q1
          have q2 := Tryd.eqlFlt 150 0 150 0
          rw [decide_eq_true (rfl : ((150 : Int), (0 : Int)) = (150, 0))] at q2
          have q3 := Tryd.eqlFlt 5 (-1) 5 (-1)
          rw [decide_eq_true (rfl : ((5 : Int), (-1 : Int)) = (5, -1))] at q3
          clear h3 hown3 hb3 hok3 HFab HFb HSb HBbc hSc hRc hb30 hp0
          go_wp2_with fail
          refine h4.mono ?_
          rintro e w5 ⟨rfl, hb5⟩
          have f2 := (HFc.out.up hb5).c0
          have f3 := (HFc.out.up hb5).c1
          have f4 := (HFd.out.up hb5).c0
          have f5 := (HFd.out.up hb5).c1
          have HBX : Hid (Below w.heap.size w w5) := below_step (below_step HB1.out HBc.out) hb5
          clear h4 hb5 HFc HFd f0 f1 p00 p01
          go_wp2
          go_ret
          exact ⟨rfl, HBX.out⟩
end Go.Proofs.YtnibcmmgnenfcaaDoor
