/- ParseJoins, over the contract of parse.Formula. -/
import Derived.Test.YtnibcmmgnenfcaaDoorWPJ1
namespace Go.Proofs.YtnibcmmgnenfcaaDoor
open Go.RowKit Go.Maps

theorem app_tl (a b : ByteArray) : (a ++ b).toList = a.toList ++ b.toList := by
  rw [ByteArray.toList_eq, ByteArray.data_append, ByteArray.toList_eq, ByteArray.toList_eq]; simp
theorem neq_no (er ea : Int) (h : (er, ea) ≠ ((0 : Int), (0 : Int))) : decide ((er, ea) = ((0 : Int), (0 : Int))) = false := decide_eq_false h
set_option maxRecDepth 100000 in
set_option maxHeartbeats 1000000 in
theorem Tryd.pjoins_out (hFm : ReadC 7 formL) (a : Option Addr) (len cap : Nat) (sa sb : ByteArray) (k : Int) (w : World) (hT : Tab w) (h : 300 < sa.size ∨ 300 < sb.size) :
    Calls Tryd.prog 4 #[.slice a len cap, .string sa, .string sb, .int .i64 k] w fun e w' => e = .returned (.bool true) ∧ Below w.heap.size w w' := by
  have hA := Tryd.awake5_any hFm w hT
  clear hFm hT
  by_cases h1 : 300 < sa.size
  · clear h
    go_enter Tryd.func4, Tryd.ntmps4
    go_wp2_with fail
    refine hA.mono ?_
    rintro e w1 ⟨rfl, hb1⟩
    go_wp2
    go_ret
    exact ⟨rfl, hb1⟩
  · have h2 : 300 < sb.size := by omega
    clear h
    go_enter Tryd.func4, Tryd.ntmps4
    go_wp2_with fail
    refine hA.mono ?_
    rintro e w1 ⟨rfl, hb1⟩
    go_wp2
    go_ret
    exact ⟨rfl, hb1⟩
set_option maxRecDepth 100000 in
set_option maxHeartbeats 2000000 in
theorem Tryd.pjoins_bad (hFm : ReadC 7 formL) (a : Option Addr) (len cap : Nat) (ad : Nat → Addr) (ss : List ByteArray) (sa sb : ByteArray) (k : Int) (w : World) (hT : Tab w) (hN : StrSl Tryd.prog 22 w a len cap ad ss) (h1 : sa.size ≤ 300) (h2 : sb.size ≤ 300)
    (h : ((formL (nms ss) sa.toList).2.1, (formL (nms ss) sa.toList).2.2) ≠ ((0 : Int), (0 : Int)) ∨ ((formL (nms ss) sb.toList).2.1, (formL (nms ss) sb.toList).2.2) ≠ ((0 : Int), (0 : Int))) :
    Calls Tryd.prog 4 #[.slice a len cap, .string sa, .string sb, .int .i64 k] w fun e w' => e = .returned (.bool true) ∧ Below w.heap.size w w' := by
  have hA := Tryd.awake5_any hFm w hT
  have hFa := fun w' (hN' : StrSl Tryd.prog 22 w' a len cap ad ss) (hT' : Tab w') => hFm a len cap ad ss sa w' hN' (by unfold maxLen; omega) hT'
  have hFb := fun w' (hN' : StrSl Tryd.prog 22 w' a len cap ad ss) (hT' : Tab w') => hFm a len cap ad ss sb w' hN' (by unfold maxLen; omega) hT'
  have HT : Hid (Tab w) := hT
  have HN : Hid (StrSl Tryd.prog 22 w a len cap ad ss) := hN
  generalize (formL (nms ss) sa.toList).1 = t at *
  generalize (formL (nms ss) sa.toList).2.1 = e1 at *
  generalize (formL (nms ss) sa.toList).2.2 = p1 at *
  generalize (formL (nms ss) sb.toList).1 = u at *
  generalize (formL (nms ss) sb.toList).2.1 = e2 at *
  generalize (formL (nms ss) sb.toList).2.2 = p2 at *
  have q1 := Tryd.neqFlt e1 p1 0 0
  have q2 := Tryd.neqFlt e2 p2 0 0
  have HD : Hid (decide ((e1, p1) = ((0 : Int), (0 : Int))) = false ∨ decide ((e2, p2) = ((0 : Int), (0 : Int))) = false) := by
    rcases h with h | h
    · exact Or.inl (decide_eq_false h)
    · exact Or.inr (decide_eq_false h)
  generalize decide ((e1, p1) = ((0 : Int), (0 : Int))) = d1 at *
  generalize decide ((e2, p2) = ((0 : Int), (0 : Int))) = d2 at *
  clear hFm hT hN h
  go_enter Tryd.func4, Tryd.ntmps4
  go_wp2_with fail
  refine hA.mono ?_
  rintro e w1 ⟨rfl, hb1⟩
  have HB1 : Hid (Below w.heap.size w w1) := hb1
  have h3 := hFa w1 (HN.out.up hb1) (Tab.up HT.out hb1)
  clear hA hb1 hFa
  go_wp2_with fail
  refine h3.mono ?_
  rintro e x2 ⟨v2, rfl, _, hb2, _, _⟩
  have HB2 : Hid (Below w.heap.size w (x2.alloc (.cells #[.int .i64 e1, .int .i64 p1] 26))) := (below_step HB1.out hb2).alloc (below_step HB1.out hb2).size _
  have HF2 : Hid (Flt (x2.alloc (.cells #[.int .i64 e1, .int .i64 p1] 26)) x2.heap.size e1 p1) := Flt.new _ _ _
  have h4 := hFb _ (HN.out.up HB2.out) (Tab.up HT.out HB2.out)
  clear h3 hb2 hFb
  go_wp2_with fail
  generalize x2.alloc (.cells #[.int .i64 e1, .int .i64 p1] 26) = w2 at *
  refine h4.mono ?_
  rintro e x3 ⟨v3, rfl, _, hb3, _, _⟩
  have HB3 : Hid (Below w.heap.size w (x3.alloc (.cells #[.int .i64 e2, .int .i64 p2] 26))) := (below_step HB2.out hb3).alloc (below_step HB2.out hb3).size _
  have hF := (HF2.out.up hb3).up (below_new x3 (.cells #[.int .i64 e2, .int .i64 p2] 26))
  have f0 := hF.c0
  have f1 := hF.c1
  clear h4 hb3 hF
  rcases HD.out with rfl | rfl
  · go_wp2
    go_ret
    exact ⟨rfl, HB3.out⟩
  · cases d1 with
    | false =>
      go_wp2
      go_ret
      exact ⟨rfl, HB3.out⟩
    | true =>
      go_wp2
      go_ret
      exact ⟨rfl, HB3.out⟩
end Go.Proofs.YtnibcmmgnenfcaaDoor
