/- Stage 9: TableNil: a table that is none. -/
import Derived.Test.YtbfhbpibpmgblaaWTmC
namespace Go.Proofs.Ytbfhbpibpmgblaa
open Go.RowKit Go.Maps

/-- No table that New answered. -/
def Off (w : World) (x : Option Addr) : Prop := x = none ∨ ∃ t, x = some ⟨t, 0, none⟩ ∧ w.cell? ⟨t, 0, none⟩ = some (.pointer none)
theorem Off.up {w w' : World} {x : Option Addr} (h : Off w x) (hb : Below w.heap.size w w') : Off w' x := by
  rcases h with h | ⟨t, h1, h2⟩
  · exact Or.inl h
  · exact Or.inr ⟨t, h1, kept_cell h2 hb⟩
theorem Try.made_off {w : World} {x : Option Addr} (h : Off w x) : Calls Try.prog 23 #[.pointer x] w fun e w' => e = .returned (.bool false) ∧ w' = w := by
  rcases h with rfl | ⟨t, rfl, h2⟩
  · exact Try.made_none w
  · exact Try.made_zero w t h2
theorem Try.refusal_off {w : World} {x : Option Addr} (h : Off w x) (i : Int) : Calls Try.prog 36 #[.pointer x, .int .i64 i] w fun e w' => e = .returned (.int .i64 1) ∧ w' = w := by
  have hm := Try.made_off h
  clear h
  go_enter Try.func36, Try.ntmps36
  go_wp2_with fail
  refine hm.mono ?_
  rintro e w1 ⟨rfl, hw1⟩
  obtain rfl := hw1.symm
  go_wp2
  go_ret
  exact ⟨rfl, rfl⟩
theorem Try.len_off {w : World} {x : Option Addr} (h : Off w x) : Calls Try.prog 13 #[.pointer x] w fun e w' => e = .returned (.int .i64 0) ∧ w' = w := by
  have hm := Try.made_off h
  clear h
  go_enter Try.func13, Try.ntmps13
  go_wp2_with fail
  refine hm.mono ?_
  rintro e w1 ⟨rfl, hw1⟩
  obtain rfl := hw1.symm
  go_wp2
  go_ret
  exact ⟨rfl, rfl⟩
theorem Try.text_off {w : World} {x : Option Addr} (h : Off w x) (i : Int) : Calls Try.prog 18 #[.pointer x, .int .i64 i] w fun e w' => e = .returned (.tuple #[.slice none 0 0, .int .i64 1]) ∧ w' = w := by
  have hf := Try.refusal_off h i
  clear h
  go_enter Try.func18, Try.ntmps18
  go_wp2_with fail
  refine hf.mono ?_
  rintro e w1 ⟨rfl, hw1⟩
  obtain rfl := hw1.symm
  go_wp2
  go_ret2
  exact ⟨rfl, rfl⟩
theorem Try.below_off {w : World} {x : Option Addr} (h : Off w x) (i : Int) : Calls Try.prog 21 #[.pointer x, .int .i64 i] w fun e w' => e = .returned (.tuple #[.slice none 0 0, .int .i64 1]) ∧ w' = w := by
  have hf := Try.refusal_off h i
  clear h
  go_enter Try.func21, Try.ntmps21
  go_wp2_with fail
  refine hf.mono ?_
  rintro e w1 ⟨rfl, hw1⟩
  obtain rfl := hw1.symm
  go_wp2
  go_ret2
  exact ⟨rfl, rfl⟩
set_option maxRecDepth 100000 in
theorem Try.item_off {w : World} {x : Option Addr} (h : Off w x) (i : Int) : Calls Try.prog 19 #[.pointer x, .int .i64 i] w fun e w' => e = .returned (.tuple #[.agg #[.int .u8 0, .int .u8 0, .int .i64 0, .int .i64 0], .int .i64 1]) ∧ Below w.heap.size w w' := by
  have hb := below_new w (.cells #[.int .u8 0, .int .u8 0, .int .i64 0, .int .i64 0] 49)
  have hf := Try.refusal_off (h.up hb) i
  clear h
  go_enter Try.func19, Try.ntmps19
  go_wp2_with fail
  refine hf.mono ?_
  rintro e w1 ⟨rfl, hw1⟩
  obtain rfl := hw1.symm
  go_wp2
  refine bodyPost_ret (v := .tuple #[.agg #[.int .u8 0, .int .u8 0, .int .i64 0, .int .i64 0], .int .i64 1]) (by simp [results, Try.results19, go_sem]) rfl ⟨rfl, below_new _ _⟩
theorem Try.keep_off {w : World} {x : Option Addr} (h : Off w x) (a : Option Addr) (len cap : Nat) : Calls Try.prog 11 #[.pointer x, .slice a len cap] w fun e w' => e = .returned (.tuple #[.int .i64 0, .int .i64 1]) ∧ Below w.heap.size w w' := by
  have hb := below_new w (.cells #[.pointer x] 23)
  have hm := Try.made_off (h.up hb)
  clear h
  go_enter Try.func11, Try.ntmps11
  go_wp2_with fail
  refine hm.mono ?_
  rintro e w1 ⟨rfl, hw1⟩
  obtain rfl := hw1.symm
  go_wp2
  go_ret2
  exact ⟨rfl, hb⟩
theorem Try.find_off {w : World} {x : Option Addr} (h : Off w x) (a : Option Addr) (len cap : Nat) : Calls Try.prog 9 #[.pointer x, .slice a len cap] w fun e w' => e = .returned (.tuple #[.int .i64 0, .bool false]) ∧ Below w.heap.size w w' := by
  have hb := below_new w (.cells #[.pointer x] 23)
  have hm := Try.made_off (h.up hb)
  clear h
  go_enter Try.func9, Try.ntmps9
  go_wp2_with fail
  refine hm.mono ?_
  rintro e w1 ⟨rfl, hw1⟩
  obtain rfl := hw1.symm
  go_wp2
  go_ret2
  exact ⟨rfl, hb⟩
theorem Try.sizePtrT : (Try.prog.info? 23).map (·.size) = some 1 := by kernel_rfl
set_option maxRecDepth 100000 in
set_option maxHeartbeats 4000000 in
theorem Try.tnil_any (a : Option Addr) (len cap : Nat) (i : Int) (w : World) : Calls Try.prog 5 #[.slice a len cap, .int .i64 i] w fun e w' => e = .returned (.bool true) ∧ Below w.heap.size w w' := by
  have hb1 := below_new w (.cells #[.pointer none, .slice none 0 0, .map none] 55)
  have hb2 := below_new (w.alloc (.cells #[.pointer none, .slice none 0 0, .map none] 55)) (.cells #[.pointer none, .pointer (some ⟨w.heap.size, 0, none⟩)] 23)
  have h1 : ((w.alloc (.cells #[.pointer none, .slice none 0 0, .map none] 55)).alloc (.cells #[.pointer none, .pointer (some ⟨w.heap.size, 0, none⟩)] 23)).heap[w.heap.size]? = some (.cells #[.pointer none, .slice none 0 0, .map none] 55 (0, 0)) := (hb2.block _ (by simp)).trans (MapKept.heap_alloc w _).1
  have h2 : ((w.alloc (.cells #[.pointer none, .slice none 0 0, .map none] 55)).alloc (.cells #[.pointer none, .pointer (some ⟨w.heap.size, 0, none⟩)] 23)).heap[w.heap.size + 1]? = some (.cells #[.pointer none, .pointer (some ⟨w.heap.size, 0, none⟩)] 23 (0, 0)) := by
    have := (MapKept.heap_alloc (w.alloc (.cells #[.pointer none, .slice none 0 0, .map none] 55)) (.cells #[.pointer none, .pointer (some ⟨w.heap.size, 0, none⟩)] 23)).1
    rw [show (w.alloc (.cells #[.pointer none, .slice none 0 0, .map none] 55)).heap.size = w.heap.size + 1 by simp] at this
    exact this
  have HB0 : Hid (Below w.heap.size w ((w.alloc (.cells #[.pointer none, .slice none 0 0, .map none] 55)).alloc (.cells #[.pointer none, .pointer (some ⟨w.heap.size, 0, none⟩)] 23))) := below_step hb1 hb2
  have H1 : Hid _ := h1
  have H2 : Hid _ := h2
  have hidx : ∀ (r : Nat) (w' : World), r < 2 → (Instr.indexAt 56 (.slice (some ⟨w.heap.size + 1, 0, none⟩) 2 2) (.int .i64 (r : Int))).run Try.prog w' = .ok (.pointer (some ⟨w.heap.size + 1, r, none⟩)) w' := fun r w' hr => by
    have := idx_of (P := Try.prog) (T := 56) (e := 23) Try.underlying56 Try.sizePtrT (a := some ⟨w.heap.size + 1, 0, none⟩) (cap := 2) (n := 2) (by simp) r w' hr
    simpa [adOf, add_plain] using this
  clear hb1 hb2 h1 h2
  go_enter Try.func5, Try.ntmps5
  go_wp2
  generalize (w.alloc (.cells #[.pointer none, .slice none 0 0, .map none] 55)).alloc (.cells #[.pointer none, .pointer (some ⟨w.heap.size, 0, none⟩)] 23) = w0 at *
  go_loopw [6] (fun jv wr => ∃ r : Nat, r ≤ 2 ∧ jv = .int .i64 (r : Int) ∧ Hid (Below w0.heap.size w0 wr)) (fun jv _ => 2 - (intOf jv).toNat)
  case atStart => exact ⟨0, by omega, rfl, Below.refl _ _⟩
  case round =>
    obtain ⟨r, hr, rfl, HB⟩ := hrel
    by_cases hr2 : r < 2
    · obtain ⟨x, hcx, hoff⟩ : ∃ x : Option Addr, wr.cell? ⟨w.heap.size + 1, r, none⟩ = some (.pointer x) ∧ Off wr x := by
        match r, hr2 with
        | 0, _ => exact ⟨none, kept_cell (cell_row H2.out 0) HB.out, Or.inl rfl⟩
        | 1, _ => exact ⟨some ⟨w.heap.size, 0, none⟩, kept_cell (cell_row H2.out 1) HB.out, Or.inr ⟨w.heap.size, rfl, kept_cell (cell_row H1.out 0) HB.out⟩⟩
      have hj := fun w' => hidx r w' hr2
      have HO : Hid _ := hoff
      have HC : Hid _ := hcx
      have j1 := Try.keep_off hoff a len cap
      clear hoff hidx
      go_wp2_with fail
      refine j1.mono ?_
      rintro e w1 ⟨rfl, b1⟩
      have HB1 : Hid (Below wr.heap.size wr w1) := b1
      have c1 := kept_cell HC.out HB1.out
      have j2 := Try.find_off (Off.up HO.out HB1.out) a len cap
      clear j1 b1 hcx
      go_wp2_with fail
      refine j2.mono ?_
      rintro e w2 ⟨rfl, b2⟩
      have HB2 : Hid (Below wr.heap.size wr w2) := below_step HB1.out b2
      have c2 := kept_cell HC.out HB2.out
      have j3 := Try.item_off (Off.up HO.out HB2.out) i
      clear j2 b2 c1 HB1
      go_wp2_with fail
      refine j3.mono ?_
      rintro e w3 ⟨rfl, b3⟩
      have HB3 : Hid (Below wr.heap.size wr (w3.alloc (.cells #[.int .u8 0, .int .u8 0, .int .i64 0, .int .i64 0] 49))) := below_step (below_step HB2.out b3) (below_new _ _)
      have c3 := kept_cell HC.out HB3.out
      have j4 := Try.text_off (Off.up HO.out HB3.out) i
      have j5 := Try.below_off (Off.up HO.out HB3.out) i
      have j6 := Try.len_off (Off.up HO.out HB3.out)
      clear j3 b3 c2 HB2
      go_wp2_with fail
      refine j4.mono ?_
      rintro e w4 ⟨rfl, hw4⟩
      obtain rfl := hw4.symm
      go_wp2_with fail
      refine j5.mono ?_
      rintro e w5 ⟨rfl, hw5⟩
      obtain rfl := hw5.symm
      go_wp2_with fail
      refine j6.mono ?_
      rintro e w6 ⟨rfl, hw6⟩
      obtain rfl := hw6.symm
      clear j4 j5 j6
      go_wp2
      go_roundw
      case rel => exact ⟨r + 1, by omega, by go_num, below_step HB.out HB3.out⟩
      case measure => simp [intOf] <;> omega
    · obtain rfl : r = 2 := by omega
      have haw := Try.tawake_any Try.tabC wr
      clear hidx
      go_wp2_with fail
      refine haw.mono ?_
      rintro e w1 ⟨rfl, b1⟩
      have HB1 : Hid _ := below_step (below_step HB0.out HB.out) b1
      clear haw b1
      go_wp2
      go_ret
      exact ⟨rfl, HB1.out⟩
theorem Try.tnil_land (a : Option Addr) (len cap : Nat) (ts : List Tk) (i : Int) (w : World) (_hT : TkSl w a len cap ts) : Calls Try.prog 5 #[.slice a len cap, .int .i64 i] w fun e w' => e = .returned (.bool true) ∧ Below w.heap.size w w' := Try.tnil_any a len cap i w
end Go.Proofs.Ytbfhbpibpmgblaa
