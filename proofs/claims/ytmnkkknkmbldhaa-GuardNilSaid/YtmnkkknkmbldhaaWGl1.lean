/- Stage 14: GuardNil: a store that is none. -/
import Derived.Test.YtmnkkknkmbldhaaWGs1
namespace Go.Proofs.Ytmnkkknkmbldhaa
open Go.RowKit Go.Maps

/-- No store that New answered. -/
def OffG (w : World) (x : Option Addr) : Prop := x = none ∨ ∃ t, x = some ⟨t, 0, none⟩ ∧ w.cell? ⟨t, 0, none⟩ = some (.pointer none)
theorem OffG.up {w w' : World} {x : Option Addr} (h : OffG w x) (hb : Below w.heap.size w w') : OffG w' x := by
  rcases h with h | ⟨t, h1, h2⟩
  · exact Or.inl h
  · exact Or.inr ⟨t, h1, kept_cell h2 hb⟩
theorem Try.smade_off {w : World} {x : Option Addr} (h : OffG w x) : Calls Try.prog 28 #[.pointer x] w fun e w' => e = .returned (.bool false) ∧ w' = w := by
  rcases h with rfl | ⟨t, rfl, c0⟩
  · go_enter Try.func28, Try.ntmps28
    go_wp2
    go_ret
    exact ⟨rfl, rfl⟩
  · have hp := fun w => Try.sptr_none ⟨t, 0, none⟩ w
    go_enter Try.func28, Try.ntmps28
    go_wp2
    go_ret
    exact ⟨rfl, rfl⟩
theorem Try.slen_off {w : World} {x : Option Addr} (h : OffG w x) : Calls Try.prog 14 #[.pointer x] w fun e w' => e = .returned (.int .i64 0) ∧ w' = w := by
  have hm := Try.smade_off h
  clear h
  go_enter Try.func14, Try.ntmps14
  go_wp2_with fail
  refine hm.mono ?_
  rintro e w1 ⟨rfl, hw1⟩
  obtain rfl := hw1.symm
  go_wp2
  go_ret
  exact ⟨rfl, rfl⟩
theorem Try.snodes_off {w : World} {x : Option Addr} (h : OffG w x) : Calls Try.prog 15 #[.pointer x] w fun e w' => e = .returned (.slice none 0 0) ∧ w' = w := by
  have hm := Try.smade_off h
  clear h
  go_enter Try.func15, Try.ntmps15
  go_wp2_with fail
  refine hm.mono ?_
  rintro e w1 ⟨rfl, hw1⟩
  obtain rfl := hw1.symm
  go_wp2
  go_ret
  exact ⟨rfl, rfl⟩
theorem Try.sadd_off {w : World} {x : Option Addr} (h : OffG w x) (a : Option Addr) (len cap : Nat) : Calls Try.prog 11 #[.pointer x, .slice a len cap] w fun e w' => e = .returned (.tuple #[.int .i64 0, .int .i64 1]) ∧ w' = w := by
  have hm := Try.smade_off h
  clear h
  go_enter Try.func11, Try.ntmps11
  go_wp2_with fail
  refine hm.mono ?_
  rintro e w1 ⟨rfl, hw1⟩
  obtain rfl := hw1.symm
  go_wp2
  go_ret2
  exact ⟨rfl, rfl⟩
theorem Try.sizePtrS : (Try.prog.info? 23).map (·.size) = some 1 := by kernel_rfl
set_option maxRecDepth 100000 in
set_option maxHeartbeats 4000000 in
theorem Try.gnil_any (a : Option Addr) (len cap : Nat) (w : World) : Calls Try.prog 6 #[.slice a len cap] w fun e w' => e = .returned (.bool true) ∧ Below w.heap.size w w' := by
  have hb1 := below_new w (.cells #[.pointer none, .int .i64 0, .slice none 0 0, .map none] 64)
  have hb2 := below_new (w.alloc (.cells #[.pointer none, .int .i64 0, .slice none 0 0, .map none] 64)) (.cells #[.pointer none, .pointer (some ⟨w.heap.size, 0, none⟩)] 23)
  have h1 : ((w.alloc (.cells #[.pointer none, .int .i64 0, .slice none 0 0, .map none] 64)).alloc (.cells #[.pointer none, .pointer (some ⟨w.heap.size, 0, none⟩)] 23)).heap[w.heap.size]? = some (.cells #[.pointer none, .int .i64 0, .slice none 0 0, .map none] 64 (0, 0)) := (hb2.block _ (by simp)).trans (MapKept.heap_alloc w _).1
  have h2 : ((w.alloc (.cells #[.pointer none, .int .i64 0, .slice none 0 0, .map none] 64)).alloc (.cells #[.pointer none, .pointer (some ⟨w.heap.size, 0, none⟩)] 23)).heap[w.heap.size + 1]? = some (.cells #[.pointer none, .pointer (some ⟨w.heap.size, 0, none⟩)] 23 (0, 0)) := by
    have := (MapKept.heap_alloc (w.alloc (.cells #[.pointer none, .int .i64 0, .slice none 0 0, .map none] 64)) (.cells #[.pointer none, .pointer (some ⟨w.heap.size, 0, none⟩)] 23)).1
    rw [show (w.alloc (.cells #[.pointer none, .int .i64 0, .slice none 0 0, .map none] 64)).heap.size = w.heap.size + 1 by simp] at this
    exact this
  have HB0 : Hid (Below w.heap.size w ((w.alloc (.cells #[.pointer none, .int .i64 0, .slice none 0 0, .map none] 64)).alloc (.cells #[.pointer none, .pointer (some ⟨w.heap.size, 0, none⟩)] 23))) := below_step hb1 hb2
  have H1 : Hid _ := h1
  have H2 : Hid _ := h2
  have hidx : ∀ (r : Nat) (w' : World), r < 2 → (Instr.indexAt 65 (.slice (some ⟨w.heap.size + 1, 0, none⟩) 2 2) (.int .i64 (r : Int))).run Try.prog w' = .ok (.pointer (some ⟨w.heap.size + 1, r, none⟩)) w' := fun r w' hr => by
    have := idx_of (P := Try.prog) (T := 65) (e := 23) Try.underlying65 Try.sizePtrS (a := some ⟨w.heap.size + 1, 0, none⟩) (cap := 2) (n := 2) (by simp) r w' hr
    simpa [adOf, add_plain] using this
  clear hb1 hb2 h1 h2
  go_enter Try.func6, Try.ntmps6
  go_wp2
  generalize (w.alloc (.cells #[.pointer none, .int .i64 0, .slice none 0 0, .map none] 64)).alloc (.cells #[.pointer none, .pointer (some ⟨w.heap.size, 0, none⟩)] 23) = w0 at *
  go_loopw [4] (fun jv wr => ∃ r : Nat, wr = w0 ∧ r ≤ 2 ∧ jv = .int .i64 (r : Int)) (fun jv _ => 2 - (intOf jv).toNat)
  case atStart => exact ⟨0, rfl, by omega, rfl⟩
  case round =>
    obtain ⟨r, rfl, hr, rfl⟩ := hrel
    by_cases hr2 : r < 2
    · obtain ⟨x, hcx, hoff⟩ : ∃ x : Option Addr, wr.cell? ⟨w.heap.size + 1, r, none⟩ = some (.pointer x) ∧ OffG wr x := by
        match r, hr2 with
        | 0, _ => exact ⟨none, cell_row H2.out 0, Or.inl rfl⟩
        | 1, _ => exact ⟨some ⟨w.heap.size, 0, none⟩, cell_row H2.out 1, Or.inr ⟨w.heap.size, rfl, cell_row H1.out 0⟩⟩
      have hj := fun w' => hidx r w' hr2
      have j1 := Try.sadd_off hoff a len cap
      have j2 := Try.snodes_off hoff
      have j3 := Try.slen_off hoff
      clear hoff hidx
      go_wp2_with fail
      refine j1.mono ?_
      rintro e w1 ⟨rfl, hw1⟩
      obtain rfl := hw1.symm
      go_wp2_with fail
      refine j2.mono ?_
      rintro e w2 ⟨rfl, hw2⟩
      obtain rfl := hw2.symm
      go_wp2_with fail
      refine j3.mono ?_
      rintro e w3 ⟨rfl, hw3⟩
      obtain rfl := hw3.symm
      clear j1 j2 j3
      go_wp2
      go_roundw
      case rel => exact ⟨r + 1, trivial, by omega, by go_num⟩
      case measure => simp [intOf] <;> omega
    · obtain rfl : r = 2 := by omega
      clear hidx
      go_wp2
      go_ret
      exact ⟨rfl, HB0.out⟩
theorem Try.gnil_land (a : Option Addr) (len cap : Nat) (zs : List Int) (w : World) (_hS : ZSl w a len cap zs) (_hz : ∀ z ∈ zs, I64 z) : Calls Try.prog 6 #[.slice a len cap] w fun e w' => e = .returned (.bool true) ∧ Below w.heap.size w w' := Try.gnil_any a len cap w
end Go.Proofs.Ytmnkkknkmbldhaa
