/- Size, the program's and the document's, with what they answer beside an error; KernelLong over the landed package kernel. -/
import Derived.Test.YtfgaieefejdkbaaWKr8
import Derived.Test.YtfgaieefejdkbaaWKl6
namespace Go.Proofs.Ytfgaieefejdkbaa
open Go.RowKit Go.Maps

set_option maxHeartbeats 2000000 in
theorem Try.ksize2_any : SizeC2 14 := by
  intro a len cap ts w hT
  have hck := Try.tcheck_any a len cap ts w hT
  have HT : Hid _ := hT
  have hf0 := Try.fldL0
  by_cases h0 : lookE ts 1 = 0
  · obtain ⟨T, hW, rfl, hp, hl⟩ := klook_tree h0
    have HGH : Hid _ := good_tree hW (by omega)
    have HE : Hid ((mm (jFl T)).1 = sizeN T.flat) := by show min (jFl T).1.length 2049 = _; unfold sizeN; rw [if_pos h0, jFl_one hW]
    rw [h0] at hck ⊢
    clear h0 hT hl
    go_enter Try.func14, Try.ntmps14
    go_wp2_with (go_at_call 23; refine hck.mono ?_; rintro e w1 ⟨rfl, hb1⟩; have hm := Try.kmeasure_any a len cap (2 * wt T) T.flat (jFl T) w1 (HT.out.up hb1) HGH.out)
    refine hm.mono ?_
    rintro e w2 ⟨rfl, hb2⟩
    have HB2 : Hid _ := below_step hb1 hb2
    clear hb1 hb2 hm hck
    go_wp2
    go_ret2
    exact ⟨by rw [← HE.out]; rfl, HB2.out⟩
  · have h1 : (((lookE ts 1 : Nat) : Int) != 0) = true := by rw [bne_iff_ne]; omega
    have h2 : (((lookE ts 1 : Nat) : Int) == 0) = false := by rw [beq_eq_false_iff_ne]; omega
    have HS : Hid (sizeN ts = 0) := if_neg h0
    clear h0 hT
    generalize lookE ts 1 = E at *
    go_enter Try.func14, Try.ntmps14
    go_wp2_with (go_at_call 23; refine hck.mono ?_; rintro e w1 ⟨rfl, hb1⟩)
    go_ret2
    exact ⟨by rw [HS.out]; rfl, hb1⟩
set_option maxHeartbeats 2000000 in
theorem Try.rsize2_any : SizeC2 15 := by
  intro a len cap ts w hT
  have hck := Try.rCheck_any a len cap ts w hT
  have HT : Hid _ := hT
  by_cases h0 : lookE ts 1 = 0
  · obtain ⟨T, hW, rfl, hp, hl⟩ := klook_tree h0
    have HGG : Hid (GGood T.flat T) := ggood hW (by omega)
    have HSZ : Hid (SzC T) := Try.rsizes_any T hW
    have HE : Hid (min (s1 T) 2049 = sizeN T.flat) := by show _ = _; unfold sizeN; rw [if_pos h0, s1_k hW]
    rw [h0] at hck ⊢
    clear h0 hT hl
    go_enter Try.func15, Try.ntmps15
    go_wp2_with (go_at_call 33; refine hck.mono ?_; rintro e w1 ⟨rfl, hb1⟩; have hg := Try.rgrow_any a len cap T.flat T w1 (HT.out.up hb1) HGG.out)
    refine hg.mono ?_
    rintro e w2 ⟨u, rfl, hu, hb2⟩
    have hs := HSZ.out u w2 hu
    unfold treeV at hs ⊢
    have HB2 : Hid (Below w.heap.size w w2) := below_step hb1 hb2
    clear hb1 hb2 hg hck hu
    go_wp2_with fail
    refine hs.mono ?_
    rintro e w3 ⟨m1, m2, rfl, e1, _, _, hb3⟩
    have HB3 : Hid _ := below_step HB2.out hb3
    have E1 : Hid (m1 = sizeN T.flat) := e1.trans HE.out
    clear e1 hb3 hs
    go_wp2
    go_ret2
    exact ⟨by rw [← E1.out]; rfl, HB3.out⟩
  · have h1 : (((lookE ts 1 : Nat) : Int) != 0) = true := by rw [bne_iff_ne]; omega
    have h2 : (((lookE ts 1 : Nat) : Int) == 0) = false := by rw [beq_eq_false_iff_ne]; omega
    have HS : Hid (sizeN ts = 0) := if_neg h0
    clear h0 hT
    generalize lookE ts 1 = E at *
    go_enter Try.func15, Try.ntmps15
    go_wp2_with (go_at_call 33; refine hck.mono ?_; rintro e w1 ⟨rfl, hb1⟩)
    go_ret2
    exact ⟨by rw [HS.out]; rfl, hb1⟩
theorem Try.klong_fin (a : Option Addr) (la ca : Nat) (l : List Tk) (often : Int) (b : Bool) (w : World) (hA : TkSl w a la ca l) :
    Calls Try.prog 4 #[.slice a la ca, .int .i64 often, .bool b] w fun e w' => e = .returned (.bool true) ∧ Below w.heap.size w w' :=
  Try.klong_any Try.kof_any Try.kneg_any Try.kchk_any Try.ksize2_any Try.rof_any Try.rneg_any Try.rchk_any Try.rsize2_any a la ca l often b w hA
end Go.Proofs.Ytfgaieefejdkbaa
