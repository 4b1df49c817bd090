/- strings.Fields of the signs' text, strings.Clone; how far the first word goes, its sort; the document's first word. -/
import Derived.Test.YtfipefbaabkdeaaGreatDoorWLx3
import Derived.Test.YtfipefbaabkdeaaGreatDoorShelf
import Derived.Lib.SmallJoins
namespace Go.Proofs.YtfipefbaabkdeaaGreatDoor
open Go.RowKit Go.Maps

/-- The library's table of blanks is as it was laid. -/
def Tab (w : World) : Prop := Lib.TabIs Tryz.prog w "strings.asciiSpace" .u8 Lib.asciiSpaceTab
theorem Tab.up {w w' : World} (h : Tab w) (hb : Below w.heap.size w w') : Tab w' := Joins.tab_stays (g := 1) (by kernel_rfl) h hb (Nat.le_refl _)
theorem sg_fields : Lib.fields [40, 32, 41, 32, 91, 32, 93, 32, 123, 32, 125, 32, 60, 32, 62, 32, 33, 32, 63, 32, 38, 32, 124, 32, 43, 32, 59, 32, 42, 32, 45, 62, 32, 60, 45, 62] = sgP := by decide
theorem sg_ascii : ∀ b ∈ ([40, 32, 41, 32, 91, 32, 93, 32, 123, 32, 125, 32, 60, 32, 62, 32, 33, 32, 63, 32, 38, 32, 124, 32, 43, 32, 59, 32, 42, 32, 45, 62, 32, 60, 45, 62] : Bytes), b.toNat < 128 := by decide
theorem Tryz.fields_any (w : World) (hT : Tab w) :
    Calls Tryz.prog 61 #[.string { data := #[40, 32, 41, 32, 91, 32, 93, 32, 123, 32, 125, 32, 60, 32, 62, 32, 33, 32, 63, 32, 38, 32, 124, 32, 43, 32, 59, 32, 42, 32, 45, 62, 32, 60, 45, 62] }] w fun e w' =>
      e = .returned (.slice (some ⟨w.heap.size, 0, none⟩) 17 17) ∧ Below w.heap.size w w' ∧ w'.heap.size = w.heap.size + 1 ∧ StAt w' w.heap.size sgP := by
  have h := Tryz.strings_Fields { data := #[40, 32, 41, 32, 91, 32, 93, 32, 123, 32, 125, 32, 60, 32, 62, 32, 33, 32, 63, 32, 38, 32, 124, 32, 43, 32, 59, 32, 42, 32, 45, 62, 32, 60, 45, 62] } w (by decide) (fun j b hb => sg_ascii b (List.mem_of_getElem? hb)) hT
  refine h.mono ?_
  rintro e w' ⟨rfl, rfl⟩
  have e1 : Lib.fields (⟨#[40, 32, 41, 32, 91, 32, 93, 32, 123, 32, 125, 32, 60, 32, 62, 32, 33, 32, 63, 32, 38, 32, 124, 32, 43, 32, 59, 32, 42, 32, 45, 62, 32, 60, 45, 62]⟩ : ByteArray).data.toList = sgP := sg_fields
  rw [e1]
  exact ⟨rfl, below_new _ _, by simp, StAt.new w sgP⟩
theorem Tryz.clone_any (s : ByteArray) (w : World) (hs : s.size ≤ 10000000) :
    Calls Tryz.prog 27 #[.string s] w fun e w' => e = .returned (.string s) ∧ Below w.heap.size w w' := by
  have h := Tryz.stringslite_Clone s w (by omega)
  go_enter Tryz.func27, Tryz.ntmps27
  go_wp2_with (go_at_call 40; refine h.mono ?_)
  rintro e w' ⟨rfl, hb⟩
  go_wp2
  go_ret
  exact ⟨rfl, hb⟩
/-- How far the first word would go. -/
theorem sgP_len : ∀ x ∈ sgP, x.length ≤ 1000 := by decide
theorem Tryz.reach_any (g : Nat) (s : ByteArray) (w : World) (hS : StAt w g sgP) (hs : s.size ≤ maxLen) :
    Calls Tryz.prog 62 #[.string s, .slice (some ⟨g, 0, none⟩) 17 17] w fun e w' => e = .returned (.int .i64 (reachN s.toList : Int)) ∧ Below w.heap.size w w' := by
  have hR := Tryz.run_any s w
  by_cases h0 : 0 < runN s.toList
  · have e1 : reachN s.toList = runN s.toList := by unfold reachN; rw [if_pos h0]
    rw [e1]
    clear hS hs e1
    generalize runN s.toList = r at *
    go_enter Tryz.func62, Tryz.ntmps62
    go_wp2_with (go_at_call 85; refine hR.mono ?_)
    rintro e w1 ⟨rfl, hb⟩
    go_wp2
    go_ret
    exact ⟨rfl, hb⟩
  · have e1 : reachN s.toList = (mkB (longGo s.toList sgP [])).size := by unfold reachN; rw [if_neg h0, mkB_size]
    have e2 : runN s.toList = 0 := by omega
    obtain ⟨x, hx⟩ : ∃ x, mkB (longGo s.toList sgP []) = x := ⟨_, rfl⟩
    have HX : Hid (mkB (longGo s.toList sgP []) = x) := hx
    rw [e1, hx]
    rw [e2] at hR
    clear e1 e2 h0 hx
    go_enter Tryz.func62, Tryz.ntmps62
    go_wp2_with (go_at_call 85; refine hR.mono ?_)
    rintro e w1 ⟨rfl, hb⟩
    have hL := Tryz.longest_any g sgP s w1 (hS.up hb) (by decide) sgP_len hs
    have l1 : sgP.length = 17 := rfl
    rw [l1, HX.out] at hL
    clear l1 hS
    go_wp2_with (go_at_call 86; refine hL.mono ?_)
    rintro e w2 ⟨rfl, n, rfl⟩
    go_wp2
    go_ret
    exact ⟨rfl, below_drewN hb n⟩
end Go.Proofs.YtfipefbaabkdeaaGreatDoor
