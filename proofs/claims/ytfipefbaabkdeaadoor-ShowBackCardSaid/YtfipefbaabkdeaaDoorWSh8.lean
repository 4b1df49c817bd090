/- Stage 6's law ShowBack: what is told is read as it was. -/
import Derived.Test.YtfipefbaabkdeaaDoorWSh7
namespace Go.Proofs.YtfipefbaabkdeaaDoor
open Go.RowKit Go.Maps

theorem back_form {ns : List Bytes} {ts : List Tk} (h : (tellL ns ts 1).2 = 0) : formL ns (tellL ns ts 1).1 = (ts, 0, 0) ∧ tidyL ns (tellL ns ts 1).1 = ((tellL ns ts 1).1, 0, 0) ∧ (tellL ns ts 1).1.length ≤ 4096 := by
  have h1 : formL ns (tellL ns ts 1).1 = (ts, 0, 0) := show_back h (Or.inl rfl)
  refine ⟨h1, ?_, ?_⟩
  · unfold tidyL; rw [h1]; dsimp only
    rw [if_neg (by decide), if_neg (by rw [h]; decide)]
  · obtain ⟨_, _, t, _, _, _, _, hn, he⟩ := tell_ok h (Or.inl rfl)
    rw [he]; exact hn
theorem back_path {ns : List Bytes} {ts : List Tk} (h : (tellL ns ts 3).2 = 0) : pathL ns (tellL ns ts 3).1 = (ts, 0, 0) ∧ (tellL ns ts 3).1.length ≤ 4096 := by
  have h1 : pathL ns (tellL ns ts 3).1 = (ts, 0, 0) := show_back h (Or.inr rfl)
  refine ⟨h1, ?_⟩
  obtain ⟨_, _, t, _, _, _, _, hn, he⟩ := tell_ok h (Or.inr rfl)
  rw [he]; exact hn
set_option maxRecDepth 100000 in
set_option maxHeartbeats 4000000 in
theorem Tryd.back_any (a : Option Addr) (len cap : Nat) (ad : Nat → Addr) (ss : List ByteArray) (a' : Option Addr) (l' cap' : Nat) (ts : List Tk) (w : World) (hT : Tab w) (hO : OpT w) (hN : StrSl Tryd.prog 22 w a len cap ad ss) (hL : TkSl w a' l' cap' ts) :
    Calls Tryd.prog 3 #[.slice a len cap, .slice a' l' cap'] w fun e w' => e = .returned (.bool true) ∧ Below w.heap.size w w' := by
  have hA := Tryd.awake6_any w hT hO
  have hlb := Nat.le_trans hL.hcap hL.bd
  unfold maxLen at hlb
  have HT : Hid (Tab w) := hT
  have HO : Hid (OpT w) := hO
  have HN : Hid (StrSl Tryd.prog 22 w a len cap ad ss) := hN
  have HL : Hid (TkSl w a' l' cap' ts) := hL
  by_cases hz : 600 < l'
  · clear hT hO hN hL HT HO HN HL
    go_enter Tryd.func3, Tryd.ntmps3
    go_wp2_with fail
    refine hA.mono ?_
    rintro e w1 ⟨rfl, hb1⟩
    go_wp2
    go_ret
    exact ⟨rfl, hb1⟩
  have h1 := fun w' (hw : Below w.heap.size w w') => Tryd.show_formula a len cap ad ss a' l' cap' ts w' (HN.out.up hw) (HL.out.up hw) (HO.out.up hw)
  have h2 := fun w' (hw : Below w.heap.size w w') => Tryd.show_path a len cap ad ss a' l' cap' ts w' (HN.out.up hw) (HL.out.up hw) (HO.out.up hw)
  have h3 := fun t w' (hw : Below w.heap.size w w') (ht : t.length ≤ 4096) => Tryd.formula_read a len cap ad ss (mkB t) w' (HN.out.up hw) (by rw [mkB_size]; unfold maxLen; omega) (HT.out.up hw)
  have h4 := fun t w' (hw : Below w.heap.size w w') (ht : t.length ≤ 4096) => Tryd.path_read a len cap ad ss (mkB t) w' (HN.out.up hw) (by rw [mkB_size]; unfold maxLen; omega) (HT.out.up hw)
  have h5 := fun t w' (hw : Below w.heap.size w w') (ht : t.length ≤ 4096) => Tryd.show_tidy a len cap ad ss (mkB t) w' (HN.out.up hw) (by rw [mkB_size]; unfold maxLen; omega) (HT.out.up hw) (HO.out.up hw)
  have h6 := fun a2 c2 w' (hw : Below w.heap.size w w') (h : TkSl w' a2 ts.length c2 ts) => Tryd.sameT_any a' l' cap' ts a2 ts.length c2 ts w' (HL.out.up hw) h
  simp only [mkB_toList] at h3 h4 h5
  simp only [decide_true] at h6
  unfold TellP at h1 h2
  generalize hns : nms ss = ns at *
  have HB1 : Hid ((tellL ns ts 1).2 = 0 → formL ns (tellL ns ts 1).1 = (ts, 0, 0) ∧ tidyL ns (tellL ns ts 1).1 = ((tellL ns ts 1).1, 0, 0) ∧ (tellL ns ts 1).1.length ≤ 4096) := back_form
  have HB2 : Hid ((tellL ns ts 3).2 = 0 → pathL ns (tellL ns ts 3).1 = (ts, 0, 0) ∧ (tellL ns ts 3).1.length ≤ 4096) := back_path
  generalize tellL ns ts 1 = r1 at *
  generalize tellL ns ts 3 = r2 at *
  obtain ⟨t1, e1⟩ := r1
  obtain ⟨t2, e2⟩ := r2
  dsimp only at *
  have q0 := Tryd.neqFlt 0 0 0 0
  rw [decide_eq_true (rfl : ((0 : Int), (0 : Int)) = (0, 0))] at q0
  clear hT hO hN hL
  by_cases q1 : e1 = 0
  · subst q1
    obtain ⟨b1, b2, b3⟩ := HB1.out rfl
    have h3 := fun w' (hw : Below w.heap.size w w') => h3 t1 w' hw b3
    have h5 := fun w' (hw : Below w.heap.size w w') => h5 t1 w' hw b3
    simp only [b1] at h3
    simp only [b2] at h5
    clear b1 b2 b3 HB1
    by_cases q2 : e2 = 0
    · subst q2
      obtain ⟨b4, b5⟩ := HB2.out rfl
      have h4 := fun w' (hw : Below w.heap.size w w') => h4 t2 w' hw b5
      simp only [b4] at h4
      clear b4 b5 HB2
      go_enter Tryd.func3, Tryd.ntmps3
      go_wp2_with fail
      refine hA.mono ?_
      rintro e w1 ⟨rfl, hb1⟩
      have HX1 : Hid (Below w.heap.size w w1) := hb1
      have j1 := h1 w1 hb1
      clear hA h1 hb1
      go_wp2_with fail
      refine j1.mono ?_
      rintro e w2 ⟨rfl, hb2⟩
      have HX2 : Hid (Below w.heap.size w w2) := below_step HX1.out hb2
      clear j1 hb2
      have j2 := h3 w2 HX2.out
      clear h3
      go_wp2_with fail
      refine j2.mono ?_
      rintro e x3 ⟨v3, rfl, hown3, hb3, _, hok3⟩
      obtain ⟨a3, c3, rfl, hT3⟩ := own_tks hown3 hok3
      have HX3 : Hid (Below w.heap.size w (x3.alloc (.cells #[.int .i64 0, .int .i64 0] 29))) := below_step (below_step HX2.out hb3) (below_new _ _)
      have HF3 : Hid (Flt (x3.alloc (.cells #[.int .i64 0, .int .i64 0] 29)) x3.heap.size 0 0) := Flt.new _ _ _
      have HS3 : Hid (TkSl (x3.alloc (.cells #[.int .i64 0, .int .i64 0] 29)) a3 ts.length c3 ts) := hT3.up (below_new _ _)
      have j3 := h5 _ HX3.out
      clear j2 hown3 hb3 hok3 hT3 h5
      go_wp2_with fail
      generalize x3.alloc (.cells #[.int .i64 0, .int .i64 0] 29) = w3 at *
      refine j3.mono ?_
      rintro e x4 ⟨rfl, hb4⟩
      have HX4 : Hid (Below w.heap.size w (x4.alloc (.cells #[.int .i64 0, .int .i64 0] 29))) := below_step (below_step HX3.out hb4) (below_new _ _)
      have HF34 : Hid (Flt (x4.alloc (.cells #[.int .i64 0, .int .i64 0] 29)) x3.heap.size 0 0) := (HF3.out.up hb4).up (below_new _ _)
      have HF4 : Hid (Flt (x4.alloc (.cells #[.int .i64 0, .int .i64 0] 29)) x4.heap.size 0 0) := Flt.new _ _ _
      have HS4 : Hid (TkSl (x4.alloc (.cells #[.int .i64 0, .int .i64 0] 29)) a3 ts.length c3 ts) := (HS3.out.up hb4).up (below_new _ _)
      have f0 := HF34.out.c0
      have f1 := HF34.out.c1
      have j4 := h6 a3 c3 _ HX4.out HS4.out
      clear j3 hb4 HF3
      go_wp2_with fail
      generalize x4.alloc (.cells #[.int .i64 0, .int .i64 0] 29) = w4 at *
      refine j4.mono ?_
      rintro e w5 ⟨rfl, hb5⟩
      have HX5 : Hid (Below w.heap.size w w5) := below_step HX4.out hb5
      have hF5 := HF4.out.up hb5
      have k0 := hF5.c0
      have k1 := hF5.c1
      have j5 := h2 w5 HX5.out
      clear j4 hb5 hF5 f0 f1 h2 HF4 HF34 HS3 HS4
      go_wp2_with fail
      refine j5.mono ?_
      rintro e w6 ⟨rfl, hb6⟩
      have HX6 : Hid (Below w.heap.size w w6) := below_step HX5.out hb6
      clear j5 hb6
      have j6 := h4 w6 HX6.out
      clear h4
      go_wp2_with fail
      refine j6.mono ?_
      rintro e x7 ⟨v7, rfl, hown7, hb7, _, hok7⟩
      obtain ⟨a7, c7, rfl, hT7⟩ := own_tks hown7 hok7
      have HX7 : Hid (Below w.heap.size w (x7.alloc (.cells #[.int .i64 0, .int .i64 0] 29))) := below_step (below_step HX6.out hb7) (below_new _ _)
      have HS7 : Hid (TkSl (x7.alloc (.cells #[.int .i64 0, .int .i64 0] 29)) a7 ts.length c7 ts) := hT7.up (below_new _ _)
      have j7 := h6 a7 c7 _ HX7.out HS7.out
      clear j6 hown7 hb7 hok7 hT7
      go_wp2_with fail
      generalize x7.alloc (.cells #[.int .i64 0, .int .i64 0] 29) = w7 at *
      refine j7.mono ?_
      rintro e w8 ⟨rfl, hb8⟩
      have HX8 : Hid (Below w.heap.size w w8) := below_step HX7.out hb8
      clear j7 hb8
      go_wp2
      go_ret
      exact ⟨rfl, HX8.out⟩
    · have e2' : (e2 == 0) = false := by simpa using q2
      clear h4 HB2
      go_enter Tryd.func3, Tryd.ntmps3
      go_wp2_with fail
      refine hA.mono ?_
      rintro e w1 ⟨rfl, hb1⟩
      have HX1 : Hid (Below w.heap.size w w1) := hb1
      have j1 := h1 w1 hb1
      clear hA h1 hb1
      go_wp2_with fail
      refine j1.mono ?_
      rintro e w2 ⟨rfl, hb2⟩
      have HX2 : Hid (Below w.heap.size w w2) := below_step HX1.out hb2
      clear j1 hb2
      have j2 := h3 w2 HX2.out
      clear h3
      go_wp2_with fail
      refine j2.mono ?_
      rintro e x3 ⟨v3, rfl, hown3, hb3, _, hok3⟩
      obtain ⟨a3, c3, rfl, hT3⟩ := own_tks hown3 hok3
      have HX3 : Hid (Below w.heap.size w (x3.alloc (.cells #[.int .i64 0, .int .i64 0] 29))) := below_step (below_step HX2.out hb3) (below_new _ _)
      have HF3 : Hid (Flt (x3.alloc (.cells #[.int .i64 0, .int .i64 0] 29)) x3.heap.size 0 0) := Flt.new _ _ _
      have HS3 : Hid (TkSl (x3.alloc (.cells #[.int .i64 0, .int .i64 0] 29)) a3 ts.length c3 ts) := hT3.up (below_new _ _)
      have j3 := h5 _ HX3.out
      clear j2 hown3 hb3 hok3 hT3 h5
      go_wp2_with fail
      generalize x3.alloc (.cells #[.int .i64 0, .int .i64 0] 29) = w3 at *
      refine j3.mono ?_
      rintro e x4 ⟨rfl, hb4⟩
      have HX4 : Hid (Below w.heap.size w (x4.alloc (.cells #[.int .i64 0, .int .i64 0] 29))) := below_step (below_step HX3.out hb4) (below_new _ _)
      have HF34 : Hid (Flt (x4.alloc (.cells #[.int .i64 0, .int .i64 0] 29)) x3.heap.size 0 0) := (HF3.out.up hb4).up (below_new _ _)
      have HF4 : Hid (Flt (x4.alloc (.cells #[.int .i64 0, .int .i64 0] 29)) x4.heap.size 0 0) := Flt.new _ _ _
      have HS4 : Hid (TkSl (x4.alloc (.cells #[.int .i64 0, .int .i64 0] 29)) a3 ts.length c3 ts) := (HS3.out.up hb4).up (below_new _ _)
      have f0 := HF34.out.c0
      have f1 := HF34.out.c1
      have j4 := h6 a3 c3 _ HX4.out HS4.out
      clear j3 hb4 HF3
      go_wp2_with fail
      generalize x4.alloc (.cells #[.int .i64 0, .int .i64 0] 29) = w4 at *
      refine j4.mono ?_
      rintro e w5 ⟨rfl, hb5⟩
      have HX5 : Hid (Below w.heap.size w w5) := below_step HX4.out hb5
      have hF5 := HF4.out.up hb5
      have k0 := hF5.c0
      have k1 := hF5.c1
      have j5 := h2 w5 HX5.out
      clear j4 hb5 hF5 f0 f1 h2 HF4 HF34 HS3 HS4
      go_wp2_with fail
      refine j5.mono ?_
      rintro e w6 ⟨rfl, hb6⟩
      have HX6 : Hid (Below w.heap.size w w6) := below_step HX5.out hb6
      clear j5 hb6
      go_wp2
      go_ret
      exact ⟨rfl, HX6.out⟩
  · have e1' : (e1 == 0) = false := by simpa using q1
    clear h3 h5 HB1
    by_cases q2 : e2 = 0
    · subst q2
      obtain ⟨b4, b5⟩ := HB2.out rfl
      have h4 := fun w' (hw : Below w.heap.size w w') => h4 t2 w' hw b5
      simp only [b4] at h4
      clear b4 b5 HB2
      go_enter Tryd.func3, Tryd.ntmps3
      go_wp2_with fail
      refine hA.mono ?_
      rintro e w1 ⟨rfl, hb1⟩
      have HX1 : Hid (Below w.heap.size w w1) := hb1
      have j1 := h1 w1 hb1
      clear hA h1 hb1
      go_wp2_with fail
      refine j1.mono ?_
      rintro e w2 ⟨rfl, hb2⟩
      have HX2 : Hid (Below w.heap.size w w2) := below_step HX1.out hb2
      clear j1 hb2
      have j5 := h2 w2 HX2.out
      have HX5 : Hid (Below w.heap.size w w2) := HX2.out
      clear h2
      go_wp2_with fail
      refine j5.mono ?_
      rintro e w6 ⟨rfl, hb6⟩
      have HX6 : Hid (Below w.heap.size w w6) := below_step HX5.out hb6
      clear j5 hb6
      have j6 := h4 w6 HX6.out
      clear h4
      go_wp2_with fail
      refine j6.mono ?_
      rintro e x7 ⟨v7, rfl, hown7, hb7, _, hok7⟩
      obtain ⟨a7, c7, rfl, hT7⟩ := own_tks hown7 hok7
      have HX7 : Hid (Below w.heap.size w (x7.alloc (.cells #[.int .i64 0, .int .i64 0] 29))) := below_step (below_step HX6.out hb7) (below_new _ _)
      have HS7 : Hid (TkSl (x7.alloc (.cells #[.int .i64 0, .int .i64 0] 29)) a7 ts.length c7 ts) := hT7.up (below_new _ _)
      have j7 := h6 a7 c7 _ HX7.out HS7.out
      clear j6 hown7 hb7 hok7 hT7
      go_wp2_with fail
      generalize x7.alloc (.cells #[.int .i64 0, .int .i64 0] 29) = w7 at *
      refine j7.mono ?_
      rintro e w8 ⟨rfl, hb8⟩
      have HX8 : Hid (Below w.heap.size w w8) := below_step HX7.out hb8
      clear j7 hb8
      go_wp2
      go_ret
      exact ⟨rfl, HX8.out⟩
    · have e2' : (e2 == 0) = false := by simpa using q2
      clear h4 HB2
      go_enter Tryd.func3, Tryd.ntmps3
      go_wp2_with fail
      refine hA.mono ?_
      rintro e w1 ⟨rfl, hb1⟩
      have HX1 : Hid (Below w.heap.size w w1) := hb1
      have j1 := h1 w1 hb1
      clear hA h1 hb1
      go_wp2_with fail
      refine j1.mono ?_
      rintro e w2 ⟨rfl, hb2⟩
      have HX2 : Hid (Below w.heap.size w w2) := below_step HX1.out hb2
      clear j1 hb2
      have j5 := h2 w2 HX2.out
      have HX5 : Hid (Below w.heap.size w w2) := HX2.out
      clear h2
      go_wp2_with fail
      refine j5.mono ?_
      rintro e w6 ⟨rfl, hb6⟩
      have HX6 : Hid (Below w.heap.size w w6) := below_step HX5.out hb6
      clear j5 hb6
      go_wp2
      go_ret
      exact ⟨rfl, HX6.out⟩
end Go.Proofs.YtfipefbaabkdeaaDoor
