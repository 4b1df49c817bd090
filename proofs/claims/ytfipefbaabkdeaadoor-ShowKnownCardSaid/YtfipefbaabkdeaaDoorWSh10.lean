/- ShowKnown: the walk. -/
import Derived.Test.YtfipefbaabkdeaaDoorWSh9
namespace Go.Proofs.YtfipefbaabkdeaaDoor
open Go.RowKit Go.Maps

set_option maxRecDepth 100000 in
set_option maxHeartbeats 4000000 in
theorem Tryd.sknown_any (w : World) (hT : Tab w) (hO : OpT w) :
    Calls Tryd.prog 5 #[] w fun e w' => e = .returned (.bool true) ∧ Below w.heap.size w w' := by
  have HT : Hid (Tab w) := hT
  have HO : Hid (OpT w) := hO
  clear hT hO
  go_enter Tryd.func5, Tryd.ntmps5
  go_wp2
  have HK : Hid (SW (sAllocs w (sobjs w.heap.size)) w.heap.size (w.heap.size + 1) (w.heap.size + 1 + 1 + 1) (w.heap.size + 1 + 1 + 1 + 1 + 1 + 1 + 1 + 1 + 1 + 1) (w.heap.size + 1 + 1 + 1 + 1 + 1 + 1 + 1 + 1 + 1 + 1 + 1)) := SW.new w HT.out HO.out
  have HB0 : Hid (Below w.heap.size w (sAllocs w (sobjs w.heap.size))) := sAllocs_below _ _
  change Code.wp _ _ _ _ (sAllocs w (sobjs w.heap.size))
  generalize sAllocs w (sobjs w.heap.size) = w6 at *
  generalize w.heap.size + 1 + 1 + 1 + 1 + 1 + 1 + 1 + 1 + 1 + 1 + 1 = g11 at *
  generalize w.heap.size + 1 + 1 + 1 + 1 + 1 + 1 + 1 + 1 + 1 + 1 = g10 at *
  generalize w.heap.size + 1 + 1 + 1 = gr at *
  go_loopw [6] (fun i wr => ∃ k : Nat, k ≤ 7 ∧ i = .int .i64 k ∧ Hid (Below w6.heap.size w6 wr)) (fun i _ => 7 - (intOf i).toNat)
  case atStart => exact ⟨0, Nat.zero_le _, rfl, Below.refl _ _⟩
  case round =>
    obtain ⟨k, hk, rfl, HB⟩ := hrel
    by_cases hlt : k < 7
    · have hK := HK.out.up HB.out
      have hck := fun w' (hb : Below w6.heap.size w6 w') => (HK.out.up hb).tx.cell (k := k) hlt
      have hik := Tryd.idxS g11 7 k hlt
      have hW := Tryd.show_formula _ _ _ _ _ _ _ _ _ wr (stAt_str hK.nm (by decide) (by decide)) (hK.rw k hlt) hK.ot
      unfold TellP at hW
      rw [nms_mkB, sn7 k hlt] at hW
      have hio : ∀ w', (Instr.indexAt 40 (.slice (some ⟨g10, 0, none⟩) 7 7) (.int .i64 k)).run Tryd.prog w' = .ok (.pointer (some ⟨g10, k, none⟩)) w' := fun w' => by
        have := idx_of (a := some ⟨g10, 0, none⟩) (cap := 7) (n := 7) Tryd.underlying40 (by kernel_rfl) (by simp) k w' hlt
        simpa [adOf, add_plain] using this
      have hsl := hK.sl k hlt
      dsimp only at hW
      generalize mkB (sx7.getD k []) = x at *
      generalize sw7.getD k [] = L at *
      clear hK
      go_wp2_with fail
      refine hW.mono ?_
      rintro e x7 ⟨rfl, hb7⟩
      have HB7 : Hid (Below w6.heap.size w6 x7) := below_step HB.out hb7
      have hc7 := hck _ HB7.out
      clear hck hb7 hW hsl
      go_wp2
      go_roundw
      case rel => exact ⟨k + 1, by omega, by go_num, HB7⟩
      case measure => simp [intOf]; omega
    · have hna := below_new wr (.cells #[.int .u8 5, .int .u8 0] 39)
      have hBa := below_step HB.out hna
      have hKa := HK.out.up hBa
      have hTa : TkSl (wr.alloc (.cells #[.int .u8 5, .int .u8 0] 39)) (some ⟨wr.heap.size, 0, none⟩) 1 1 [(5, 0)] := row_tk (ts := [(5, 0)]) (MapKept.heap_alloc wr _).1 (by decide) (by decide)
      have ha := Tryd.show_formula _ _ _ _ _ _ _ _ _ (wr.alloc (.cells #[.int .u8 5, .int .u8 0] 39)) (stAt_str hKa.nm (by decide) (by decide)) hTa hKa.ot
      unfold TellP at ha
      rw [nms_mkB, sn8] at ha
      dsimp only at ha
      have ma : mkB [] = { data := #[] } := rfl
      rw [ma] at ha
      clear ma
      clear hKa hTa hna
      go_wp2_with fail
      refine ha.mono ?_
      rintro e wa ⟨rfl, hba⟩
      have HBa : Hid (Below w6.heap.size w6 wa) := below_step hBa hba
      clear ha hba hBa
      have hnb := below_new wa (.cells #[.int .u8 2, .int .u8 2] 39)
      have hBb := below_step HBa.out hnb
      have hKb := HK.out.up hBb
      have hTb : TkSl (wa.alloc (.cells #[.int .u8 2, .int .u8 2] 39)) (some ⟨wa.heap.size, 0, none⟩) 1 1 [(2, 2)] := row_tk (ts := [(2, 2)]) (MapKept.heap_alloc wa _).1 (by decide) (by decide)
      have hb := Tryd.show_formula _ _ _ _ _ _ _ _ _ (wa.alloc (.cells #[.int .u8 2, .int .u8 2] 39)) (stAt_str hKb.nm (by decide) (by decide)) hTb hKb.ot
      unfold TellP at hb
      rw [nms_mkB, sn9] at hb
      dsimp only at hb
      have mb : mkB [] = { data := #[] } := rfl
      rw [mb] at hb
      clear mb
      clear hKb hTb hnb
      go_wp2_with fail
      refine hb.mono ?_
      rintro e wb ⟨rfl, hbb⟩
      have HBb : Hid (Below w6.heap.size w6 wb) := below_step hBb hbb
      clear hb hbb hBb
      have hpc := (HK.out.up HBb.out).p0
      have pc0 : wb.cell? ⟨w.heap.size + 1, 0, none⟩ = some (.int .u8 2) := cell_row hpc 0
      have pc1 : wb.cell? ⟨w.heap.size + 1, 1, none⟩ = some (.int .u8 0) := cell_row hpc 1
      clear hpc
      have hnc := below_new wb (.cells #[.int .u8 2, .int .u8 0, .int .u8 11, .int .u8 0] 39)
      have hBc := below_step HBb.out hnc
      have hKc := HK.out.up hBc
      have hTc : TkSl (wb.alloc (.cells #[.int .u8 2, .int .u8 0, .int .u8 11, .int .u8 0] 39)) (some ⟨wb.heap.size, 0, none⟩) 2 2 [(2, 0), (11, 0)] := row_tk (ts := [(2, 0), (11, 0)]) (MapKept.heap_alloc wb _).1 (by decide) (by decide)
      have hc := Tryd.show_formula _ _ _ _ _ _ _ _ _ (wb.alloc (.cells #[.int .u8 2, .int .u8 0, .int .u8 11, .int .u8 0] 39)) (stAt_str hKc.nm (by decide) (by decide)) hTc hKc.ot
      unfold TellP at hc
      rw [nms_mkB, sn10] at hc
      dsimp only at hc
      have mc : mkB [] = { data := #[] } := rfl
      rw [mc] at hc
      clear mc
      clear hKc hTc hnc
      go_wp2_with fail
      refine hc.mono ?_
      rintro e wc ⟨rfl, hbc⟩
      have HBc : Hid (Below w6.heap.size w6 wc) := below_step hBc hbc
      clear hc hbc hBc pc0 pc1
      have hpd := (HK.out.up HBc.out).p0
      have pd0 : wc.cell? ⟨w.heap.size + 1, 0, none⟩ = some (.int .u8 2) := cell_row hpd 0
      have pd1 : wc.cell? ⟨w.heap.size + 1, 1, none⟩ = some (.int .u8 0) := cell_row hpd 1
      clear hpd
      have hnd := below_new wc (.cells #[.int .u8 2, .int .u8 0, .int .u8 19, .int .u8 0, .int .u8 23, .int .u8 0, .int .u8 23, .int .u8 0] 39)
      have hBd := below_step HBc.out hnd
      have hKd := HK.out.up hBd
      have hTd : TkSl (wc.alloc (.cells #[.int .u8 2, .int .u8 0, .int .u8 19, .int .u8 0, .int .u8 23, .int .u8 0, .int .u8 23, .int .u8 0] 39)) (some ⟨wc.heap.size, 0, none⟩) 4 4 [(2, 0), (19, 0), (23, 0), (23, 0)] := row_tk (ts := [(2, 0), (19, 0), (23, 0), (23, 0)]) (MapKept.heap_alloc wc _).1 (by decide) (by decide)
      have hd := Tryd.show_path _ _ _ _ _ _ _ _ _ (wc.alloc (.cells #[.int .u8 2, .int .u8 0, .int .u8 19, .int .u8 0, .int .u8 23, .int .u8 0, .int .u8 23, .int .u8 0] 39)) (stAt_str hKd.nm (by decide) (by decide)) hTd hKd.ot
      unfold TellP at hd
      rw [nms_mkB, sn11] at hd
      dsimp only at hd
      have md : mkB [123, 112, 125, 42, 42] = { data := #[123, 112, 125, 42, 42] } := rfl
      rw [md] at hd
      clear md
      clear hKd hTd hnd
      go_wp2_with fail
      refine hd.mono ?_
      rintro e wd ⟨rfl, hbd⟩
      have HBd : Hid (Below w6.heap.size w6 wd) := below_step hBd hbd
      clear hd hbd hBd pd0 pd1
      have hA := Tryd.awake6_any wd (HK.out.up HBd.out).tb (HK.out.up HBd.out).ot
      go_wp2_with fail
      refine hA.mono ?_
      rintro e w9 ⟨rfl, hb9⟩
      have HBX : Hid (Below w.heap.size w w9) := below_step (below_step HB0.out HBd.out) hb9
      clear hA hb9
      go_wp2
      go_ret
      exact ⟨rfl, HBX.out⟩
end Go.Proofs.YtfipefbaabkdeaaDoor
