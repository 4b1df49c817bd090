/- awake: what the document's examples say, walked. -/
import Derived.Test.YtmmjihalpmahnaaDoorWParseT
namespace Go.Proofs.YtmmjihalpmahnaaDoor
open Go.RowKit Go.Maps

def bP : ByteArray := ⟨#[112]⟩
def bQ : ByteArray := ⟨#[113]⟩
def nP : List Bytes := [[112], [113]]
theorem nms_pq : nms [bP, bQ] = nP := by simp [nms, ByteArray.toList_eq, bP, bQ, nP]
theorem nms_q : nms [bQ] = [[113]] := by simp [nms, ByteArray.toList_eq, bQ]

theorem Tryd.pq_any (w : World) : Calls Tryd.prog 31 #[] w fun e w' => e = .returned (.slice (some ⟨w.heap.size, 0, none⟩) 2 2) ∧ RowS w' 9 w.heap.size [bP, bQ] ∧ Below w.heap.size w w' := by
  go_enter Tryd.func31, Tryd.ntmps31
  go_wp2
  go_ret
  exact ⟨rfl, (MapKept.heap_alloc w _).1, (Below.refl _ _).alloc (Nat.le_refl _) _⟩

theorem RowS.whole {w : World} {g : Nat} {ss : List ByteArray} (h : RowS w 9 g ss) (hm : ss.length ≤ 100) (hz : ∀ s ∈ ss, s.size ≤ maxLen) : StrSl Tryd.prog 22 w (some ⟨g, 0, none⟩) ss.length ss.length (adOf (some ⟨g, 0, none⟩)) ss := by
  have := h.strSl (P := Tryd.prog) (T := 22) (n := ss.length) Tryd.underlying22 Tryd.sizeStr (Nat.le_refl _) (by unfold maxLen; omega) hz
  rwa [List.take_length] at this
theorem pq_size : ∀ s ∈ [bP, bQ], s.size ≤ maxLen := by
  intro s hs; simp at hs; rcases hs with rfl | rfl <;> (unfold maxLen; decide)

theorem ex_of : ofE nP [[113]] = (2, 0) := by kernel_rfl
theorem chk_pq : checkE nP = 0 := by kernel_rfl
theorem ex_print3 : printB 3 [bP, bQ] = (⟨#[112, 32, 113]⟩, 0) := by
  unfold printB; rw [nms_pq, if_pos chk_pq]; kernel_rfl
def exT : ByteArray := ⟨#[112, 59, 45, 59, 112, 32, 113]⟩
theorem ex_parseT : parseTE nP exT.toList = ([1, 0, 3], 0) := by
  rw [ByteArray.toList_eq]; kernel_rfl

set_option maxRecDepth 100000 in
set_option maxHeartbeats 1600000 in
theorem Tryd.awake_any (w : World) (hm : MaxOk w) : Calls Tryd.prog 24 #[] w fun e w' => e = .returned (.bool true) ∧ Below w.heap.size w w' := by
  go_enter Tryd.func24, Tryd.ntmps24
  go_wp2_with fail
  refine (Tryd.pq_any w).mono ?_
  rintro e w1 ⟨rfl, hr1, hb1⟩
  have hal1 : Below w1.heap.size w1 (w1.alloc (.cells #[.string bQ] 9)) := (Below.refl _ _).alloc (Nat.le_refl _) _
  have hq1 : RowS (w1.alloc (.cells #[.string bQ] 9)) 9 w1.heap.size [bQ] := (MapKept.heap_alloc w1 _).1
  have hof := Tryd.of_any _ _ _ _ [bP, bQ] _ _ _ _ [bQ] _ ((hr1.up hal1).whole (by decide) pq_size) (hq1.whole (by decide) (fun s hs => pq_size s (by simp at hs; subst hs; simp)))
  rw [nms_pq, nms_q] at hof
  unfold OfR at hof
  rw [ex_of] at hof
  go_wp2_with fail
  refine hof.mono ?_
  rintro e w2 ⟨rfl, hb2⟩
  have hB2 : Below w.heap.size w w2 := hb1.trans ((hal1.trans (hb2.mono (by simp))).mono hb1.size)
  clear hof hq1 hal1 hb2 hr1 hb1
  go_wp2_with fail
  refine (Tryd.pq_any w2).mono ?_
  rintro e w3 ⟨rfl, hr3, hb3⟩
  have hpr := Tryd.print_any _ _ _ _ [bP, bQ] 3 w3 (hr3.whole (by decide) pq_size) (by decide) (by decide)
  unfold PrintR at hpr
  rw [ex_print3] at hpr
  go_wp2_with fail
  refine hpr.mono ?_
  rintro e w4 ⟨rfl, hb4⟩
  have hB4 : Below w.heap.size w w4 := hB2.trans ((hb3.trans (hb4.mono hb3.size)).mono hB2.size)
  clear hpr hr3 hb3 hb4 hB2
  go_wp2_with fail
  refine (Tryd.pq_any w4).mono ?_
  rintro e w5 ⟨rfl, hr5, hb5⟩
  have hpt := Tryd.parseT_any _ _ _ _ [bP, bQ] exT w5 (hr5.whole (by decide) pq_size) (by unfold maxLen; decide) ((hm.up hB4).up hb5)
  rw [nms_pq, ex_parseT] at hpt
  go_wp2_with fail
  refine hpt.mono ?_
  rintro e w6 ⟨aT, rfl, hT, _, hb6⟩
  have hB6 : Below w.heap.size w w6 := hB4.trans ((hb5.trans (hb6.mono hb5.size)).mono hB4.size)
  have hTi := hT.intSl (P := Tryd.prog) (T := 24) Tryd.underlying24 Tryd.sizeLet (by unfold maxLen; decide)
  have hal : Below w6.heap.size w6 (w6.alloc (.cells #[.int .u8 1, .int .u8 0, .int .u8 3] 23)) := (Below.refl _ _).alloc (Nat.le_refl _) _
  have hL : RowAt (w6.alloc (.cells #[.int .u8 1, .int .u8 0, .int .u8 3] 23)) 23 w6.heap.size [1, 0, 3] := (MapKept.heap_alloc w6 _).1
  have hsm := Tryd.same_any _ _ _ _ _ _ _ _ _ (hTi.up hal) (hL.intSl (P := Tryd.prog) (T := 24) (n := 3) Tryd.underlying24 Tryd.sizeLet (by decide) (by unfold maxLen; decide))
  clear hpt hr5 hb5 hb6 hB4 hT hTi hL
  go_wp2_with fail
  refine hsm.mono ?_
  rintro e w7 ⟨rfl, hw7⟩
  have hb7 := drew_below hw7
  have e3 : decide (([1, 0, 3] : List Int) = List.take 3 [1, 0, 3]) = true := by decide
  clear hsm hw7
  go_wp2
  go_ret
  exact ⟨rfl, hB6.trans ((hal.trans (hb7.mono (by simp))).mono hB6.size)⟩
end Go.Proofs.YtmmjihalpmahnaaDoor
