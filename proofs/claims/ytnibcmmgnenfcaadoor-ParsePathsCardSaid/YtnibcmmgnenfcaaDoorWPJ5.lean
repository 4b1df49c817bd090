/- ParsePaths, over the contracts of parse.Formula and parse.Path: a long text, a text that is no path. -/
import Derived.Test.YtnibcmmgnenfcaaDoorWPJ3
namespace Go.Proofs.YtnibcmmgnenfcaaDoor
open Go.RowKit Go.Maps

theorem txt_dia (r : ByteArray) : ((({ data := #[60] } : ByteArray) ++ r) ++ ({ data := #[62, 32, 116, 114, 117, 101] } : ByteArray)).toList = 60 :: (r.toList ++ [62, 32, 116, 114, 117, 101]) := by
  rw [app_tl, app_tl]; simp [ByteArray.toList_eq]
theorem txt_box (r : ByteArray) : ((({ data := #[91, 40] } : ByteArray) ++ r) ++ ({ data := #[41, 93, 32, 116, 114, 117, 101] } : ByteArray)).toList = 91 :: 40 :: (r.toList ++ [41, 93, 32, 116, 114, 117, 101]) := by
  rw [app_tl, app_tl]; simp [ByteArray.toList_eq]
/-- A fault comes with no tokens. -/
theorem form_nil {ns : List Bytes} {s : Bytes} {nt : NT} {want : Nat} (h : ((form5 ns s nt want).2.1, (form5 ns s nt want).2.2) ≠ ((0 : Int), (0 : Int))) : (form5 ns s nt want).1 = [] := by
  unfold form5 at h ⊢
  split
  · rfl
  · next h1 =>
    rw [if_neg h1] at h
    split
    · rfl
    · next h2 =>
      rw [if_neg h2] at h
      split
      · rfl
      · next t ht =>
        rw [ht] at h
        dsimp only at h
        split
        · rfl
        · next h3 => rw [if_neg h3] at h; exact absurd rfl h
set_option maxRecDepth 100000 in
set_option maxHeartbeats 1000000 in
theorem Tryd.ppaths_out (hFm : ReadC 7 formL) (a : Option Addr) (len cap : Nat) (r : ByteArray) (w : World) (hT : Tab w) (h : 300 < r.size) :
    Calls Tryd.prog 5 #[.slice a len cap, .string r] w fun e w' => e = .returned (.bool true) ∧ Below w.heap.size w w' := by
  have hA := Tryd.awake5_any hFm w hT
  clear hFm hT
  go_enter Tryd.func5, Tryd.ntmps5
  go_wp2_with fail
  refine hA.mono ?_
  rintro e w1 ⟨rfl, hb1⟩
  go_wp2
  go_ret
  exact ⟨rfl, hb1⟩
set_option maxRecDepth 100000 in
set_option maxHeartbeats 2000000 in
theorem Tryd.ppaths_bad (hFm : ReadC 7 formL) (hPa : ReadC 9 pathL) (a : Option Addr) (len cap : Nat) (ad : Nat → Addr) (ss : List ByteArray) (r : ByteArray) (w : World) (hT : Tab w) (hN : StrSl Tryd.prog 22 w a len cap ad ss) (h1 : r.size ≤ 300)
    (h : ((pathL (nms ss) r.toList).2.1, (pathL (nms ss) r.toList).2.2) ≠ ((0 : Int), (0 : Int))) :
    Calls Tryd.prog 5 #[.slice a len cap, .string r] w fun e w' => e = .returned (.bool true) ∧ Below w.heap.size w w' := by
  have hA := Tryd.awake5_any hFm w hT
  have hFp := fun w' (hN' : StrSl Tryd.prog 22 w' a len cap ad ss) (hT' : Tab w') => hPa a len cap ad ss r w' hN' (by unfold maxLen; omega) hT'
  have hs1 : ((({ data := #[60] } : ByteArray) ++ r) ++ ({ data := #[62, 32, 116, 114, 117, 101] } : ByteArray)).size ≤ maxLen := by rw [← tl_len, txt_dia]; simp [tl_len]; unfold maxLen; omega
  have hs2 : ((({ data := #[91, 40] } : ByteArray) ++ r) ++ ({ data := #[41, 93, 32, 116, 114, 117, 101] } : ByteArray)).size ≤ maxLen := by rw [← tl_len, txt_box]; simp [tl_len]; unfold maxLen; omega
  have hFd := fun w' (hN' : StrSl Tryd.prog 22 w' a len cap ad ss) (hT' : Tab w') => hFm a len cap ad ss ((({ data := #[60] } : ByteArray) ++ r) ++ ({ data := #[62, 32, 116, 114, 117, 101] } : ByteArray)) w' hN' hs1 hT'
  have hFb := fun w' (hN' : StrSl Tryd.prog 22 w' a len cap ad ss) (hT' : Tab w') => hFm a len cap ad ss ((({ data := #[91, 40] } : ByteArray) ++ r) ++ ({ data := #[41, 93, 32, 116, 114, 117, 101] } : ByteArray)) w' hN' hs2 hT'
  rw [txt_dia] at hFd
  rw [txt_box] at hFb
  have hnil : (pathL (nms ss) r.toList).1 = [] := form_nil h
  rw [hnil] at hFp
  have HT : Hid (Tab w) := hT
  have HN : Hid (StrSl Tryd.prog 22 w a len cap ad ss) := hN
  clear hnil hs1 hs2
  generalize (pathL (nms ss) r.toList).2.1 = e1 at *
  generalize (pathL (nms ss) r.toList).2.2 = p1 at *
  generalize (formL (nms ss) (60 :: (r.toList ++ [62, 32, 116, 114, 117, 101]))).2.1 = e2 at *
  generalize (formL (nms ss) (60 :: (r.toList ++ [62, 32, 116, 114, 117, 101]))).2.2 = p2 at *
  generalize (formL (nms ss) (91 :: 40 :: (r.toList ++ [41, 93, 32, 116, 114, 117, 101]))).2.1 = e3 at *
  generalize (formL (nms ss) (91 :: 40 :: (r.toList ++ [41, 93, 32, 116, 114, 117, 101]))).2.2 = p3 at *
  generalize (formL (nms ss) (60 :: (r.toList ++ [62, 32, 116, 114, 117, 101]))).1 = l2 at *
  generalize (formL (nms ss) (91 :: 40 :: (r.toList ++ [41, 93, 32, 116, 114, 117, 101]))).1 = l3 at *
  have q1 := Tryd.neqFlt e1 p1 0 0
  rw [decide_eq_false h] at q1
  have s1 : ¬ 9223372036854775807 < 1 + r.size := by omega
  have s2 : ¬ 9223372036854775807 < 1 + r.size + 6 := by omega
  have s3 : ¬ 9223372036854775807 < 2 + r.size := by omega
  have s4 : ¬ 9223372036854775807 < 2 + r.size + 7 := by omega
  clear hFm hPa hT hN h
  go_enter Tryd.func5, Tryd.ntmps5
  go_wp2_with fail
  refine hA.mono ?_
  rintro e w1 ⟨rfl, hb1⟩
  have HB1 : Hid (Below w.heap.size w w1) := hb1
  have h3 := hFp w1 (HN.out.up hb1) (Tab.up HT.out hb1)
  clear hA hb1 hFp
  go_wp2_with fail
  refine h3.mono ?_
  rintro e x2 ⟨v2, rfl, hown2, hb2, _, hok2⟩
  obtain ⟨a2, c2, rfl, _⟩ := own_tks hown2 hok2
  have HB2 : Hid (Below w.heap.size w (x2.alloc (.cells #[.int .i64 e1, .int .i64 p1] 26))) := (below_step HB1.out hb2).alloc (below_step HB1.out hb2).size _
  have HF2 : Hid (Flt (x2.alloc (.cells #[.int .i64 e1, .int .i64 p1] 26)) x2.heap.size e1 p1) := Flt.new _ _ _
  have h4 := hFd _ (HN.out.up HB2.out) (Tab.up HT.out HB2.out)
  clear h3 hb2 hFd hown2 hok2
  go_wp2_with fail
  generalize x2.alloc (.cells #[.int .i64 e1, .int .i64 p1] 26) = w2 at *
  refine h4.mono ?_
  rintro e x3 ⟨v3, rfl, _, hb3, _, _⟩
  have HB3 : Hid (Below w.heap.size w (x3.alloc (.cells #[.int .i64 e2, .int .i64 p2] 26))) := (below_step HB2.out hb3).alloc (below_step HB2.out hb3).size _
  have HF3 : Hid (Flt (x3.alloc (.cells #[.int .i64 e2, .int .i64 p2] 26)) x2.heap.size e1 p1) := (HF2.out.up hb3).up (below_new _ _)
  have h5 := hFb _ (HN.out.up HB3.out) (Tab.up HT.out HB3.out)
  clear h4 hb3 hFb HF2
  go_wp2_with fail
  generalize x3.alloc (.cells #[.int .i64 e2, .int .i64 p2] 26) = w3 at *
  refine h5.mono ?_
  rintro e x4 ⟨v4, rfl, _, hb4, _, _⟩
  have HB4 : Hid (Below w.heap.size w (x4.alloc (.cells #[.int .i64 e3, .int .i64 p3] 26))) := (below_step HB3.out hb4).alloc (below_step HB3.out hb4).size _
  have hF := (HF3.out.up hb4).up (below_new x4 (.cells #[.int .i64 e3, .int .i64 p3] 26))
  have f0 := hF.c0
  have f1 := hF.c1
  clear h5 hb4 hF
  go_wp2
  go_ret
  exact ⟨rfl, HB4.out⟩
end Go.Proofs.YtnibcmmgnenfcaaDoor
