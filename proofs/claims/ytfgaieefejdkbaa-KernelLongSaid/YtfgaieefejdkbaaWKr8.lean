/- The document's kernel: Size, Of, Neg. -/
import Derived.Test.YtfgaieefejdkbaaWKr6
import Derived.Test.YtfgaieefejdkbaaWKr7
namespace Go.Proofs.Ytfgaieefejdkbaa
open Go.RowKit Go.Maps

theorem s1_k {T : Tr} (hT : T.WF) : s1 T = (kL T.flat).1.length := by rw [kL_tree hT]; rfl
theorem s2_k {T : Tr} (hT : T.WF) : s2 T = (kL T.flat).2.length := by rw [kL_tree hT]; rfl
theorem kB_f {T : Tr} (hT : T.WF) : kB T false = (kL T.flat).1 := by rw [kL_tree hT]; rfl
theorem kB_t {T : Tr} (hT : T.WF) : kB T true = (kL T.flat).2 := by rw [kL_tree hT]; rfl
theorem wt_s1 {T : Tr} : wt T ≤ s1 T := by unfold wt; split <;> omega
set_option maxHeartbeats 2000000 in
theorem Try.rsize_any : SizeC 15 := by
  intro a len cap ts w hT
  have hck := Try.rCheck_any a len cap ts w hT
  have HT : Hid _ := hT
  unfold SizeR
  by_cases h0 : lookE ts 1 = 0
  · obtain ⟨T, hW, rfl, hp, hl⟩ := klook_tree h0
    have HGG : Hid (GGood T.flat T) := ggood hW (by omega)
    have HSZ : Hid (SzC T) := Try.rsizes_any T hW
    have HE : Hid (s1 T = (kL T.flat).1.length) := s1_k hW
    rw [h0] at hck ⊢
    clear h0 hT hl
    go_enter Try.func15, Try.ntmps15
    go_wp2_with (go_at_call 33; refine hck.mono ?_; rintro e w1 ⟨rfl, hb1⟩; have hg := Try.rgrow_any a len cap T.flat T w1 (HT.out.up hb1) HGG.out)
    refine hg.mono ?_
    rintro e w2 ⟨u, rfl, hu, hb2⟩
    have hs := HSZ.out u w2 hu
    unfold treeV at hs ⊢
    have HB2 : Hid (Below w.heap.size w w2) := below_step hb1 hb2
    clear hb1 hb2 hg hck hu
    go_wp2_with fail
    refine hs.mono ?_
    rintro e w3 ⟨m1, m2, rfl, e1, _, _, hb3⟩
    have HB3 : Hid _ := below_step HB2.out hb3
    have E1 : Hid _ := e1
    clear e1 hb3 hs
    go_wp2
    go_ret2
    exact ⟨_, rfl, fun _ => by rw [E1.out, HE.out], HB3.out⟩
  · have h1 : (((lookE ts 1 : Nat) : Int) != 0) = true := by rw [bne_iff_ne]; omega
    have h2 : (((lookE ts 1 : Nat) : Int) == 0) = false := by rw [beq_eq_false_iff_ne]; omega
    have H0 : Hid _ := h0
    clear h0 hT
    generalize lookE ts 1 = E at *
    go_enter Try.func15, Try.ntmps15
    go_wp2_with (go_at_call 33; refine hck.mono ?_; rintro e w1 ⟨rfl, hb1⟩)
    go_ret2
    exact ⟨0, rfl, fun h => absurd h H0.out, hb1⟩
set_option maxHeartbeats 2000000 in
theorem Try.rof_any : OfC 11 := by
  intro a len cap ts w hT
  have hsz := Try.rsize_any a len cap ts w hT
  unfold SizeR at hsz
  have HT : Hid _ := hT
  unfold OfR
  by_cases h0 : lookE ts 1 = 0
  · obtain ⟨T, hW, rfl, hp, hl⟩ := klook_tree h0
    have HGG : Hid (GGood T.flat T) := ggood hW (by omega)
    have hw := wt_s1 (T := T)
    rw [s1_k hW] at hw
    by_cases hL : 2048 < (kL T.flat).1.length
    · have HE : Hid (ofE T.flat = 3) := by show _ = _; unfold ofE; rw [if_neg (by omega), if_pos hL]
      have HL : Hid (ofL T.flat = []) := by show _ = _; unfold ofL; rw [HE.out]; rfl
      have HM : Hid (min (kL T.flat).1.length 2049 = 2049) := by show _ = _; omega
      rw [h0] at hsz
      clear hT h0 hl hw hL
      go_enter Try.func11, Try.ntmps11
      go_wp2_with (go_at_call 15; refine hsz.mono ?_; rintro e w1 ⟨n, rfl, hn0, hb1⟩; have hn := hn0 rfl; clear hn0; rw [HM.out] at hn; subst hn)
      go_ret2
      rw [HE.out, HL.out]
      exact ⟨none, 0, rfl, TkSl.nil, hb1⟩
    · have HE : Hid (ofE T.flat = 0) := by show _ = _; unfold ofE; rw [if_neg (by omega), if_neg hL]
      have HL : Hid (ofL T.flat = kB T false) := by show _ = _; unfold ofL; rw [HE.out, kB_f hW]; rfl
      have HK : Hid _ := Try.rK_any T hW (by omega) false
      obtain ⟨m, hm⟩ : ∃ m, m = min (kL T.flat).1.length 2049 := ⟨_, rfl⟩
      rw [← hm, h0] at hsz
      have hm2 : ¬ (2048 : Int) < (m : Int) := by omega
      clear hT h0 hl hw hL hm
      go_enter Try.func11, Try.ntmps11
      go_wp2_with (go_at_call 15; refine hsz.mono ?_; rintro e w1 ⟨n, rfl, hn0, hb1⟩; have hn := hn0 rfl; clear hn0; subst hn; have hg := Try.rgrow_any a len cap T.flat T w1 (HT.out.up hb1) HGG.out)
      refine hg.mono ?_
      rintro e w2 ⟨u, rfl, hu, hb2⟩
      have hk := HK.out u w2 hu
      unfold treeV at hk ⊢
      have HB2 : Hid (Below w.heap.size w w2) := below_step hb1 hb2
      clear hb1 hb2 hg hsz hu HK
      go_wp2_with fail
      refine hk.mono ?_
      rintro e w3 ⟨a3, c3, rfl, t3, hb3⟩
      have HB3 : Hid _ := below_step HB2.out hb3
      have HT3 : Hid _ := t3
      clear hb3 hk t3
      go_wp2
      go_ret2
      rw [HE.out, HL.out]
      exact ⟨a3, c3, rfl, HT3.out, HB3.out⟩
  · have HE : Hid (ofE ts = lookE ts 1) := by show _ = _; unfold ofE; rw [if_pos h0]
    have HL : Hid (ofL ts = []) := by show _ = _; unfold ofL; rw [HE.out, if_neg h0]
    have h1 : (((lookE ts 1 : Nat) : Int) != 0) = true := by rw [bne_iff_ne]; omega
    have h2 : (((lookE ts 1 : Nat) : Int) == 0) = false := by rw [beq_eq_false_iff_ne]; omega
    clear h0 hT
    generalize lookE ts 1 = E at *
    go_enter Try.func11, Try.ntmps11
    go_wp2_with (go_at_call 15; refine hsz.mono ?_; rintro e w1 ⟨n, rfl, _, hb1⟩)
    go_ret2
    rw [HE.out, HL.out]
    exact ⟨none, 0, rfl, TkSl.nil, hb1⟩
set_option maxHeartbeats 2000000 in
theorem Try.rneg_any : NegC 13 := by
  intro a len cap ts w hT
  have hck := Try.rchk_any a len cap ts w hT
  have HT : Hid _ := hT
  unfold NegR
  by_cases h0 : chkE ts = 0
  · obtain ⟨hl, T, hW, hp, hk, rfl⟩ := chk_zero.1 h0
    have HGG : Hid (GGood T.flat T) := ggood hW hl
    have HSZ : Hid (SzC T) := Try.rsizes_any T hW
    have HP : Hid (pathT T = false) := hp
    have hw := wt_s1 (T := T)
    rw [s1_k hW, ker_fix ⟨T, hW, hp, hk, rfl⟩] at hw
    have HK : Hid _ := Try.rK_any T hW (by omega) true
    have h2 := s2_k hW
    have HS2 : Hid _ := h2
    rw [h0] at hck
    by_cases hL : 2048 < (kL T.flat).2.length
    · have HE : Hid (negE T.flat = 3) := by show _ = _; unfold negE; rw [if_neg (by omega), if_pos hL]
      have HL : Hid (negL T.flat = []) := by show _ = _; unfold negL; rw [HE.out]; rfl
      have HLL : Hid (2048 < (kL T.flat).2.length) := hL
      clear hT h0 hl hw hL h2
      go_enter Try.func13, Try.ntmps13
      go_wp2_with (go_at_call 18; refine hck.mono ?_; rintro e w1 ⟨rfl, hb1⟩; have hg := Try.rgrow_any a len cap T.flat T w1 (HT.out.up hb1) HGG.out)
      refine hg.mono ?_
      rintro e w2 ⟨u, rfl, hu, hb2⟩
      obtain ⟨ua, un, uc, rfl⟩ := hu.sl
      have hb2' := below_new w2 (.cells #[.int .u8 ((rootK T).1 : Int), .int .u8 ((rootK T).2 : Int), .slice ua un uc] 54)
      have hs := HSZ.out _ _ (hu.up hb2')
      unfold treeV at hs ⊢
      have HB2 : Hid _ := below_step (below_step hb1 hb2) hb2'
      clear hb1 hb2 hb2' hg hck hu
      go_wp2_with fail
      refine hs.mono ?_
      rintro e w3 ⟨m1, m2, rfl, e1, e2, e3, hb3⟩
      have hm2 : (2048 : Int) < (m2 : Int) := by have := e3 HP.out; have := HS2.out; have := HLL.out; omega
      have HB3 : Hid _ := below_step HB2.out hb3
      clear e1 e2 e3 hb3 hs
      go_wp2
      go_ret2
      rw [HE.out, HL.out]
      exact ⟨none, 0, rfl, TkSl.nil, HB3.out⟩
    · have HE : Hid (negE T.flat = 0) := by show _ = _; unfold negE; rw [if_neg (by omega), if_neg hL]
      have HL : Hid (negL T.flat = kB T true) := by show _ = _; unfold negL; rw [HE.out, kB_t hW]; rfl
      have HLL : Hid (¬ 2048 < (kL T.flat).2.length) := hL
      clear hT h0 hl hw hL h2
      go_enter Try.func13, Try.ntmps13
      go_wp2_with (go_at_call 18; refine hck.mono ?_; rintro e w1 ⟨rfl, hb1⟩; have hg := Try.rgrow_any a len cap T.flat T w1 (HT.out.up hb1) HGG.out)
      refine hg.mono ?_
      rintro e w2 ⟨u, rfl, hu, hb2⟩
      obtain ⟨ua, un, uc, rfl⟩ := hu.sl
      have hb2' := below_new w2 (.cells #[.int .u8 ((rootK T).1 : Int), .int .u8 ((rootK T).2 : Int), .slice ua un uc] 54)
      have hr2 := (MapKept.heap_alloc w2 (.cells #[.int .u8 ((rootK T).1 : Int), .int .u8 ((rootK T).2 : Int), .slice ua un uc] 54)).1
      have hs := HSZ.out _ _ (hu.up hb2')
      unfold treeV at hs ⊢
      have HB2 : Hid _ := below_step (below_step hb1 hb2) hb2'
      have HU : Hid _ := hu.up hb2'
      have HR2 : Hid _ := hr2
      clear hb1 hb2 hb2' hg hck hu hr2
      go_wp2_with fail
      generalize w2.alloc (.cells #[.int .u8 ((rootK T).1 : Int), .int .u8 ((rootK T).2 : Int), .slice ua un uc] 54) = w2' at *
      refine hs.mono ?_
      rintro e w3 ⟨m1, m2, rfl, e1, e2, e3, hb3⟩
      have hm2 : ¬ (2048 : Int) < (m2 : Int) := by have := e3 HP.out; have := HS2.out; have := HLL.out; omega
      have HB3 : Hid _ := below_step HB2.out hb3
      have hr3 := (hb3.block w2.heap.size (Array.getElem?_eq_some_iff.1 HR2.out).1).trans HR2.out
      have c0 : w3.cell? ⟨w2.heap.size, 0, none⟩ = some (.int .u8 ((rootK T).1 : Int)) := cell_row hr3 0
      have c1 : w3.cell? ⟨w2.heap.size, 1, none⟩ = some (.int .u8 ((rootK T).2 : Int)) := cell_row hr3 1
      have c2 : w3.cell? ⟨w2.heap.size, 2, none⟩ = some (.slice ua un uc) := cell_row hr3 2
      have hk := HK.out _ w3 (TrAt.up hb3 HU.out)
      unfold treeV at hk
      clear e1 e2 e3 hb3 hs hr3 HK HU
      go_wp2_with fail
      refine hk.mono ?_
      rintro e w4 ⟨a4, c4, rfl, t4, hb4⟩
      have HB4 : Hid _ := below_step HB3.out hb4
      have HT4 : Hid _ := t4
      clear hb4 hk t4
      go_wp2
      go_ret2
      rw [HE.out, HL.out]
      exact ⟨a4, c4, rfl, HT4.out, HB4.out⟩
  · have HE : Hid (negE ts = chkE ts) := by show _ = _; unfold negE; rw [if_pos h0]
    have HL : Hid (negL ts = []) := by show _ = _; unfold negL; rw [HE.out, if_neg h0]
    have h1 : (((chkE ts : Nat) : Int) != 0) = true := by rw [bne_iff_ne]; omega
    have h2 : (((chkE ts : Nat) : Int) == 0) = false := by rw [beq_eq_false_iff_ne]; omega
    clear h0 hT
    generalize chkE ts = E at *
    go_enter Try.func13, Try.ntmps13
    go_wp2_with (go_at_call 18; refine hck.mono ?_; rintro e w1 ⟨rfl, hb1⟩)
    go_ret2
    rw [HE.out, HL.out]
    exact ⟨none, 0, rfl, TkSl.nil, hb1⟩
end Go.Proofs.Ytfgaieefejdkbaa
