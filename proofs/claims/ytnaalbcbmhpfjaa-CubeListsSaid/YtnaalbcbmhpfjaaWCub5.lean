/- The cubes of some letters: among, cover, Cover of package cube. -/
import Derived.Test.YtnaalbcbmhpfjaaWCub4
namespace Go.Proofs.Ytnaalbcbmhpfjaa
open Go.RowKit Go.Maps

/-- Block g: which letters are in. -/
def BRow (w : World) (g : Nat) (t : TypeId) (bs : List Bool) : Prop := w.heap[g]? = some (.cells (bs.map Value.bool).toArray t (0, 0))
theorem BRow.lt {w : World} {g : Nat} {t : TypeId} {bs : List Bool} (h : BRow w g t bs) : g < w.heap.size := (Array.getElem?_eq_some_iff.1 h).1
theorem BRow.up {w w' : World} {g : Nat} {t : TypeId} {bs : List Bool} (h : BRow w g t bs) (hb : Below w.heap.size w w') : BRow w' g t bs := (hb.block g h.lt).trans h
theorem BRow.cell {w : World} {g : Nat} {t : TypeId} {bs : List Bool} (h : BRow w g t bs) {i : Nat} (hi : i < bs.length) : w.cell? ⟨g, i, none⟩ = some (.bool (bs.getD i false)) := by
  unfold BRow at h; simp [World.cell?, h, List.getD_eq_getElem?_getD, List.getElem?_eq_getElem hi]
theorem BRow.fz {w : World} {g : Nat} {t : TypeId} {bs : List Bool} (h : BRow w g t bs) (i : Nat) : w.frozen? ⟨g, i, none⟩ = false := frozen_of_row w g i _ t h
theorem BRow.set {w : World} {g : Nat} {t : TypeId} {bs : List Bool} (h : BRow w g t bs) (i : Nat) (b : Bool) : BRow (w.setCell ⟨g, i, none⟩ (.bool b)) g t (bs.set i b) := by
  have := heap_setCell_same w g i _ t (.bool b) h
  unfold BRow; rw [this]; simp [List.map_set]
def innB (bs : List Bool) (l : Nat) : Bool := bs.getD l false
def amTo (c : Cu) (inn : Nat → Bool) (k : Nat) : Nat := ((List.range k).filter (hasC c)).countP inn
theorem amTo_succ (c : Cu) (inn : Nat → Bool) (k : Nat) : amTo c inn (k + 1) = amTo c inn k + (if inn k && hasC c k then 1 else 0) := by
  unfold amTo; rw [List.range_succ, List.filter_append, List.countP_append]
  cases h : hasC c k <;> cases h2 : inn k <;> simp [h, h2]
theorem amTo_le (c : Cu) (inn : Nat → Bool) (k : Nat) : amTo c inn k ≤ k := by
  unfold amTo
  exact Nat.le_trans List.countP_le_length (Nat.le_trans (List.length_filter_le _ _) (by simp))
def amC (n : Nat) (c : Cu) (inn : Nat → Bool) : Nat := (lettersC n c).countP inn
theorem amTo_end (n : Nat) (c : Cu) (inn : Nat → Bool) : amTo c inn (2 ^ n) = amC n c inn := rfl

theorem Try.sliceArr (g M : Nat) (hM : M ≤ 256) (w : World) : (Instr.sliceAt 78 (.pointer (some ⟨g, 0, none⟩)) none (some (.int .i64 (M : Int))) none).run Try.prog w = .ok (.slice (some ⟨g, 0, none⟩) M 256) w := by
  simp [Instr.sliceAt, run_underlying Try.underlying78, go_sem]
  intro h; omega
theorem Try.sizeBool : (Try.prog.info? 4).map (·.size) = some 1 := by kernel_rfl
set_option maxRecDepth 100000 in
set_option maxHeartbeats 1000000 in
theorem Try.among_any (n g a b : Nat) (bs : List Bool) (w : World) (hn : n ≤ 8) (ha : a < 256) (hb : b < 256) (hl : bs.length = 256) (hR : BRow w g 78 bs) :
    Calls Try.prog 54 #[.int .i64 (n : Int), .pointer (some ⟨g, 0, none⟩), .agg #[.int .u8 (a : Int), .int .u8 (b : Int)]] w fun e w' => e = .returned (.int .i64 (amC n (a, b) (innB bs) : Int)) ∧ Below w.heap.size w w' := by
  have hp := powN_bd (n := (n : Int)) (by omega) (by omega)
  have hpw := powN_wrap (n := (n : Int)) (by omega) (by omega)
  have HE : Hid (amTo (a, b) (innB bs) (powN (n : Int)) = amC n (a, b) (innB bs)) := rfl
  generalize powN (n : Int) = M at *
  have hpw2 : wrap64 (2 ^ n) = (M : Int) := hpw
  have hsl := Try.sliceArr g M hp.2
  have hidx := fun (k : Nat) (w : World) (h : k < M) => idx_of (P := Try.prog) (T := 62) (e := 4) Try.underlying62 Try.sizeBool (a := some ⟨g, 0, none⟩) (cap := 256) (n := M) (by simp) k w h
  have had : ∀ k, adOf (some ⟨g, 0, none⟩) k = ⟨g, k, none⟩ := fun k => by simp [adOf, add_plain]
  simp only [had] at hidx
  clear had
  have hR1 := hR.up (below_new w (.cells #[.int .u8 (a : Int), .int .u8 (b : Int)] 24))
  have hB1 := Blk.new w 24 a b
  have hb1 := below_new w (.cells #[.int .u8 (a : Int), .int .u8 (b : Int)] 24)
  go_enter Try.func54, Try.ntmps54
  go_wp2_with fail
  go_quiet (fail)
  have hR2 := hR1.up (below_drewN (Below.refl _ _) nq)
  have hB2 := hB1.up (below_drewN (Below.refl _ _) nq)
  have hb2 := below_drewN hb1 nq
  clear hR1 hB1 hb1 hsl hpw hpw2
  generalize (w.alloc (.cells #[.int .u8 (a : Int), .int .u8 (b : Int)] 24)).drewN nq = w2 at *
  go_wp2
  go_loopw [7, 16] (fun t i wr => ∃ k : Nat, k ≤ M ∧ i = .int .i64 k ∧ (∃ m : Nat, m ≤ 256 ∧ t = .int .i64 (m : Int) ∧ Hid (m = amTo (a, b) (innB bs) k)) ∧ BRow wr g 78 bs ∧ Blk wr w.heap.size 24 a b ∧ Below w.heap.size w wr) (fun _ i _ => M - (intOf i).toNat)
  case atStart => exact ⟨0, Nat.zero_le _, rfl, ⟨0, Nat.zero_le _, rfl, rfl⟩, hR2, hB2, hb2⟩
  case round =>
    obtain ⟨k, hk, rfl, ⟨m, hm, rfl, HM⟩, hRr, hB, hbw⟩ := hrel
    clear hR2 hB2 hb2
    by_cases hlt : k < M
    · have hck := hRr.cell (i := k) (by omega)
      have HSC : Hid _ := amTo_succ (a, b) (innB bs) k
      have HLE : Hid (amTo (a, b) (innB bs) (k + 1) ≤ 256) := Nat.le_trans (amTo_le _ _ _) (by omega)
      have hh := fun w => Try.has_any a b k w ha hb (by omega)
      have h00 := hB.c0
      have h01 := hB.c1
      have hcv : (k : Int) % 256 = (k : Int) := by omega
      have HI : Hid (innB bs k = bs.getD k false) := rfl
      rw [HI.out] at HSC
      generalize bs.getD k false = q at *
      generalize hasC (a, b) k = p at *
      cases q with
      | false =>
        have HN : Hid (m = amTo (a, b) (innB bs) (k + 1)) := by show _ = _; rw [HSC.out, HM.out]; simp
        go_wp2
        go_roundw
        case rel => exact ⟨k + 1, by omega, by go_num, ⟨m, hm, rfl, HN⟩, hRr, hB, hbw⟩
        case measure => simp [intOf]; omega
      | true =>
        go_wp2_with fail
        refine (hh _).mono ?_
        rintro e w3 ⟨rfl, hw3⟩
        have hR3 := hRr.up hw3
        have hB3 := hB.up hw3
        have hb3 := below_step hbw hw3
        clear hw3 h00 h01 hck hh hRr hB hbw
        cases p with
        | false =>
          have HN : Hid (m = amTo (a, b) (innB bs) (k + 1)) := by show _ = _; rw [HSC.out, HM.out]; simp
          go_wp2
          go_roundw
          case rel => exact ⟨k + 1, by omega, by go_num, ⟨m, hm, rfl, HN⟩, hR3, hB3, hb3⟩
          case measure => simp [intOf]; omega
        | true =>
          have HN : Hid (m + 1 = amTo (a, b) (innB bs) (k + 1)) := by show _ = _; rw [HSC.out, HM.out]; simp
          have HN2 : Hid (m + 1 ≤ 256) := by rw [HN.out]; exact HLE.out
          go_wp2
          go_roundw
          case rel => exact ⟨k + 1, by omega, by go_num, ⟨m + 1, HN2.out, by go_num, HN⟩, hR3, hB3, hb3⟩
          case measure => simp [intOf]; omega
    · obtain rfl : k = M := by omega
      have HF : Hid (m = amC n (a, b) (innB bs)) := by rw [← HE.out]; exact HM.out
      go_wp2
      go_ret
      exact ⟨by rw [← HF.out]; rfl, hbw⟩
end Go.Proofs.Ytnaalbcbmhpfjaa
