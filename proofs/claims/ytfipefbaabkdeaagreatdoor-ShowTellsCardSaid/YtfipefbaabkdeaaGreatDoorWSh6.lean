/- Package show: what Tidy answers. -/
import Derived.Test.YtfipefbaabkdeaaGreatDoorWSh5
import Derived.Test.YtfipefbaabkdeaaGreatDoorWPR
namespace Go.Proofs.YtfipefbaabkdeaaGreatDoor
open Go.RowKit Go.Maps

def tidyL (ns : List Bytes) (s : Bytes) : Bytes × Int × Int :=
  if (formL ns s).2.1 ≠ 0 then ([], (formL ns s).2.1, (formL ns s).2.2)
  else if (tellL ns (formL ns s).1 1).2 ≠ 0 then ([], (tellL ns (formL ns s).1 1).2, -1)
  else ((tellL ns (formL ns s).1 1).1, 0, 0)
set_option maxRecDepth 100000 in
set_option maxHeartbeats 2000000 in
theorem Tryz.show_tidy (a : Option Addr) (len cap : Nat) (ad : Nat → Addr) (ss : List ByteArray) (s : ByteArray) (w : World) (hS : StrSl Tryz.prog 22 w a len cap ad ss) (hs : s.size ≤ maxLen) (hT : Tab w) (hO : OpT w) :
    Calls Tryz.prog 9 #[.slice a len cap, .string s] w fun e w' => e = .returned (.tuple #[.string (mkB (tidyL (nms ss) s.toList).1), .agg #[.int .i64 (tidyL (nms ss) s.toList).2.1, .int .i64 (tidyL (nms ss) s.toList).2.2]]) ∧ Below w.heap.size w w' := by
  have hb0 := below_new w (.cells #[.int .i64 0, .int .i64 0] 31)
  have hF0 := Flt.new w 0 0
  have h1 := Tryz.formula_read a len cap ad ss s _ (hS.up hb0) hs (hT.up hb0)
  have h2 := fun a' l' cap' (ts : List Tk) w' (h : StrSl Tryz.prog 22 w' a len cap ad ss) (h' : TkSl w' a' l' cap' ts) (ho : OpT w') => Tryz.show_formula a len cap ad ss a' l' cap' ts w' h h' ho
  unfold TellP at h2
  have HS : Hid (StrSl Tryz.prog 22 w a len cap ad ss) := hS
  have HO : Hid (OpT w) := hO
  unfold tidyL
  generalize nms ss = ns at *
  generalize formL ns s.toList = r at *
  obtain ⟨l, er, ea⟩ := r
  dsimp only at *
  clear hS hT hO hs
  have HB0 : Hid (Below w.heap.size w (w.alloc (.cells #[.int .i64 0, .int .i64 0] 31))) := hb0
  have HF0 : Hid (Flt (w.alloc (.cells #[.int .i64 0, .int .i64 0] 31)) w.heap.size 0 0) := hF0
  clear hb0 hF0
  by_cases q1 : er = 0
  · subst q1
    rw [if_neg (by decide)]
    have h3 := fun a' l' cap' w' => h2 a' l' cap' l w'
    clear h2
    generalize tellL ns l 1 = t at *
    obtain ⟨tx, te⟩ := t
    dsimp only at *
    by_cases q2 : te = 0
    · subst q2
      rw [if_neg (by decide)]
      go_enter Tryz.func9, Tryz.ntmps9
      go_wp2_with fail
      refine h1.mono ?_
      rintro e w1 ⟨v, rfl, hown1, hb1, _, hok1⟩
      obtain ⟨a1, c1, rfl, hT1⟩ := own_tks hown1 hok1
      have hn1 := below_new w1 (.cells #[.int .i64 0, .int .i64 ea] 31)
      have hB1 := below_step HB0.out hb1
      have h4 := h3 a1 l.length c1 _ ((HS.out.up hB1).up hn1) (hT1.up hn1) ((HO.out.up hB1).up hn1)
      have HF1 : Hid (Flt (w1.alloc (.cells #[.int .i64 0, .int .i64 ea] 31)) w.heap.size 0 0) := (HF0.out.up hb1).up hn1
      have HB1 : Hid (Below w.heap.size w (w1.alloc (.cells #[.int .i64 0, .int .i64 ea] 31))) := below_step hB1 hn1
      clear h1 h3 hown1 hb1 hok1 hT1 hn1 hB1 HB0 HF0
      go_wp2_with fail
      refine h4.mono ?_
      rintro e w2 ⟨rfl, hb2⟩
      have hF2 := HF1.out.up hb2
      have HB2 : Hid (Below w.heap.size w w2) := below_step HB1.out hb2
      have f0 := hF2.c0
      have f1 := hF2.c1
      have z0 := hF2.fz 0
      have z1 := hF2.fz 1
      have HF2 : Hid (Flt w2 w.heap.size 0 0) := hF2
      clear h4 hb2 hF2 HF1 HB1
      go_wp2
      obtain ⟨k1, k2⟩ := flt_set HF2.out 0 (0)
      have d0 := k1.c0
      have d1 := k1.c1
      refine bodyPost_ret (v := .tuple #[.string (mkB tx), .agg #[.int .i64 0, .int .i64 (0)]]) (by simp [results, Tryz.results9, go_sem, d0, d1]) rfl ?_
      exact ⟨rfl, below_set2 HB2.out (Nat.le_refl _) (.int .i64 0) (.int .i64 (0))⟩
    · rw [if_pos q2]
      have e2 : (te == 0) = false := by simpa using q2
      go_enter Tryz.func9, Tryz.ntmps9
      go_wp2_with fail
      refine h1.mono ?_
      rintro e w1 ⟨v, rfl, hown1, hb1, _, hok1⟩
      obtain ⟨a1, c1, rfl, hT1⟩ := own_tks hown1 hok1
      have hn1 := below_new w1 (.cells #[.int .i64 0, .int .i64 ea] 31)
      have hB1 := below_step HB0.out hb1
      have h4 := h3 a1 l.length c1 _ ((HS.out.up hB1).up hn1) (hT1.up hn1) ((HO.out.up hB1).up hn1)
      have HF1 : Hid (Flt (w1.alloc (.cells #[.int .i64 0, .int .i64 ea] 31)) w.heap.size 0 0) := (HF0.out.up hb1).up hn1
      have HB1 : Hid (Below w.heap.size w (w1.alloc (.cells #[.int .i64 0, .int .i64 ea] 31))) := below_step hB1 hn1
      clear h1 h3 hown1 hb1 hok1 hT1 hn1 hB1 HB0 HF0
      go_wp2_with fail
      refine h4.mono ?_
      rintro e w2 ⟨rfl, hb2⟩
      have hF2 := HF1.out.up hb2
      have HB2 : Hid (Below w.heap.size w w2) := below_step HB1.out hb2
      have f0 := hF2.c0
      have f1 := hF2.c1
      have z0 := hF2.fz 0
      have z1 := hF2.fz 1
      have HF2 : Hid (Flt w2 w.heap.size 0 0) := hF2
      clear h4 hb2 hF2 HF1 HB1
      go_wp2
      obtain ⟨k1, k2⟩ := flt_set HF2.out te (-1)
      have d0 := k1.c0
      have d1 := k1.c1
      refine bodyPost_ret (v := .tuple #[.string ⟨#[]⟩, .agg #[.int .i64 te, .int .i64 (-1)]]) (by simp [results, Tryz.results9, go_sem, d0, d1]) rfl ?_
      exact ⟨rfl, below_set2 HB2.out (Nat.le_refl _) (.int .i64 te) (.int .i64 (-1))⟩
  · rw [if_pos q1]
    have e1 : (er == 0) = false := by simpa using q1
    clear h2
    go_enter Tryz.func9, Tryz.ntmps9
    go_wp2_with fail
    refine h1.mono ?_
    rintro e w1 ⟨v, rfl, _, hb1, _, _⟩
    have hF1 := HF0.out.up hb1
    have hB1 := below_step HB0.out hb1
    have HF1 : Hid (Flt w1 w.heap.size 0 0) := hF1
    have HB1 : Hid (Below w.heap.size w w1) := hB1
    have f0 := hF1.c0
    have f1 := hF1.c1
    have z0 := hF1.fz 0
    have z1 := hF1.fz 1
    have hlt := hF1.lt
    clear hF1 hB1 h1 hb1 HB0 HF0
    go_wp2
    go_region
    all_goals
      go_wp2
      obtain ⟨k1, k2⟩ := flt_set HF1.out er ea
      have k3 := k1.up (below_new _ (.cells #[.int .i64 er, .int .i64 ea] 31))
      have d0 := k3.c0
      have d1 := k3.c1
      have hz : w.heap.size ≤ ((w1.setCell ⟨w.heap.size, 0, none⟩ (.int .i64 er)).setCell ⟨w.heap.size, 1, none⟩ (.int .i64 ea)).heap.size := by simp; omega
      refine bodyPost_ret (v := .tuple #[.string ⟨#[]⟩, .agg #[.int .i64 er, .int .i64 ea]]) (by simp [results, Tryz.results9, go_sem, d0, d1]) rfl ?_
      exact ⟨rfl, ((below_set2 HB1.out (Nat.le_refl _) (.int .i64 er) (.int .i64 ea)).alloc hz _).drew⟩
end Go.Proofs.YtfipefbaabkdeaaGreatDoor
