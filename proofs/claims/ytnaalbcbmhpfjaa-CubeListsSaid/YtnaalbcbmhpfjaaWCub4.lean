/- The text of a cube: Print of package cube. -/
import Derived.Test.YtnaalbcbmhpfjaaWCub3
import Derived.Laws.IdiomStrings
namespace Go.Proofs.Ytnaalbcbmhpfjaa
open Go.RowKit Go.Maps

def signI (c : Cu) (p : Nat) : Int := ((signC c p).toNat : Int)
theorem signI_bd (c : Cu) (p : Nat) : 0 ≤ signI c p ∧ signI c p < 256 := by
  unfold signI
  have : (signC c p).toNat < 256 := UInt8.toNat_lt _
  omega
theorem and_zero_bit {x p : Nat} (hx : x < 256) (hp : p < 8) : (bits BinOp.and IntKind.u8 (x : Int) ((2 ^ p : Nat) : Int) == 0) = !x.testBit p := by
  rw [u8_and_nat x (2 ^ p) hx (pow_lt hp)]
  have := mask_bit (x := x) (p := p)
  have e := cast_beq (x &&& 2 ^ p) 0
  simp only [Int.natCast_zero] at e
  rw [e]
  cases h : x.testBit p with
  | false => rw [decide_eq_true (this.2 h)]; rfl
  | true => rw [decide_eq_false (fun h2 => by rw [this.1 h2] at h; cases h)]; rfl
set_option maxHeartbeats 800000 in
theorem Try.sign_any (a b p : Nat) (w : World) (ha : a < 256) (hb : b < 256) (hp : p < 8) :
    Calls Try.prog 47 #[.agg #[.int .u8 (a : Int), .int .u8 (b : Int)], .int .i64 (p : Int)] w fun e w' => e = .returned (.int .u8 (signI (a, b) p)) ∧ Below w.heap.size w w' := by
  have hbt := fun w => Try.cbit_any p w hp
  have H1 := and_zero_bit ha hp
  have H2 := and_zero_bit hb hp
  have HS : Hid (signI (a, b) p = if a.testBit p then (if b.testBit p then 49 else 48) else 45) := by
    show _ = _; unfold signI signC; dsimp only
    cases a.testBit p <;> cases b.testBit p <;> rfl
  generalize a.testBit p = x at *
  generalize b.testBit p = y at *
  generalize 2 ^ p = z at *
  go_enter Try.func47, Try.ntmps47
  go_wp2_with fail
  go_quiet ((go_at_call 42; exact Calls.quiet_of_same (hbt _)))
  have hbd := below_drewN (below_new w (.cells #[.int .u8 (a : Int), .int .u8 (b : Int)] 24)) nq
  cases x with
  | false =>
    go_wp2
    go_ret
    exact ⟨by rw [HS.out]; rfl, hbd⟩
  | true =>
    have hB := (Blk.new w 24 a b).up (below_drewN (Below.refl _ _) nq)
    generalize (w.alloc (.cells #[.int .u8 (a : Int), .int .u8 (b : Int)] 24)).drewN nq = w3 at *
    have h01 := hB.c1
    go_wp2_with fail
    go_quiet ((go_at_call 42; exact Calls.quiet_of_same (hbt _)))
    have hbd2 := below_step hbd (below_drewN (Below.refl _ _) nq)
    cases y with
    | false =>
      go_wp2
      go_ret
      exact ⟨by rw [HS.out]; rfl, hbd2⟩
    | true =>
      go_wp2
      go_ret
      exact ⟨by rw [HS.out]; rfl, hbd2⟩

/-- The signs as far as they are laid. -/
def txtTo (n : Nat) (c : Cu) (k : Nat) : List Int := (List.range k).map (signI c) ++ List.replicate (n - k) 0
theorem txtTo_zero (n : Nat) (c : Cu) : txtTo n c 0 = List.replicate n 0 := by simp [txtTo]
theorem txtTo_len {n k : Nat} (c : Cu) (h : k ≤ n) : (txtTo n c k).length = n := by simp [txtTo]; omega
theorem txtTo_set {n k : Nat} (c : Cu) (h : k < n) : (txtTo n c k).set k (signI c k) = txtTo n c (k + 1) := by
  unfold txtTo
  rw [List.range_succ, List.map_append]
  obtain ⟨d, hd⟩ : ∃ d, n - k = d + 1 := ⟨n - k - 1, by omega⟩
  have hd2 : n - (k + 1) = d := by omega
  rw [hd, hd2, List.replicate_succ, List.set_append_right _ _ (by simp)]
  simp
theorem txtTo_end (n : Nat) (c : Cu) : txtTo n c n = (textC n c).map fun b => (b.toNat : Int) := by
  simp [txtTo, textC]; intro a _; rfl
theorem Try.infoByte : (Try.prog.info? 5).map (fun i => (i.zero, i.size, i.bytes)) = some (some (.int .u8 0), 1, 1) := by kernel_rfl
theorem Try.sizeByte : (Try.prog.info? 5).map (·.size) = some 1 := by kernel_rfl
theorem Try.makeByte (l : Nat) (hb : l ≤ 1000000) (w : World) :
    (Instr.makeSlice 75 (.int .i64 (l : Int)) (.int .i64 (l : Int))).run Try.prog w = .ok (.slice (some ⟨w.heap.size, 0, none⟩) l l) (w.alloc (.cells (enc8 (List.replicate l 0)) 5)) := by
  obtain ⟨i, hi, hz0, hz1, hz2⟩ := info_parts Try.infoByte
  have := run_make (P := Try.prog) w 75 5 i (.int .u8 0) Try.underlying75 hi hz0 .i64 .i64 (l : Int) (l : Int) (by omega) (by omega) (by rw [hz2]; omega) (by omega)
  rw [this, hz1]
  simp only [Int.toNat_natCast, Nat.mul_one]
  have e : (Value.int .u8 0).cells = #[.int .u8 0] := rfl
  rw [e, made8]
/-- string(row of bytes). -/
theorem Try.convByte {w : World} {g : Nat} {l : List UInt8} (h : RowAt w 5 g (l.map fun b => (b.toNat : Int))) (n : Nat) (hn : l.length = n) : (convert 75 9 (.slice (some ⟨g, 0, none⟩) n n)).run Try.prog w = .ok (.string ⟨l.toArray⟩) w := by
  subst hn
  refine run_convert_bytes_back w 75 9 5 ⟨g, 0, none⟩ l.length l Try.underlying75 Try.underlying5 Try.underlying9 (fun j hj => ?_)
  rw [add_plain, Nat.zero_add, h.cell (by simpa using hj)]
  simp [List.getD_eq_getElem?_getD, hj]
/-- Print's answer. -/
def printV (n : Int) (c : Cu) : ByteArray := if errC n c = 0 then ⟨(textC n.toNat c).toArray⟩ else ByteArray.empty
def PrintCR (n : Int) (c : Cu) (e : Ending) : Prop := e = .returned (.tuple #[.string (printV n c), .int .i64 (errC n c)])
set_option maxHeartbeats 1000000 in
theorem Try.print_any (n : Int) (a b : Nat) (w : World) (ha : a < 256) (hb : b < 256) :
    Calls Try.prog 24 #[.int .i64 n, .agg #[.int .u8 (a : Int), .int .u8 (b : Int)]] w fun e w' => PrintCR n (a, b) e ∧ Below w.heap.size w w' := by
  have hck := fun w => Try.check_any n a b w ha hb
  by_cases h0 : errC n (a, b) = 0
  · obtain ⟨N, rfl, hN, ho⟩ := errC_zero h0
    have HR : Hid (PrintCR N (a, b) = fun e => e = .returned (.tuple #[.string ⟨(textC N (a, b)).toArray⟩, .int .i64 0])) := by
      show _ = _; unfold PrintCR printV; rw [h0, if_pos rfl]; rfl
    have hmk := fun w => Try.makeByte N (by omega) w
    rw [h0] at hck
    clear h0 ho
    go_enter Try.func24, Try.ntmps24
    go_wp2_with fail
    refine (hck _).mono ?_
    rintro e w1 ⟨rfl, hw1⟩
    have hB1 := (Blk.new w 24 a b).up hw1
    have hb1 := below_step (below_new _ _) hw1
    clear hw1 hck
    have hB2 := hB1.al (.cells (enc8 (List.replicate N 0)) 5)
    have hb2 := hb1.alloc hb1.size (.cells (enc8 (List.replicate N 0)) 5)
    have hr2 := RowAt.new w1 5 (List.replicate N 0)
    have hgs : w.heap.size < w1.heap.size := hB1.lt
    have hidx := fun (k : Nat) (w : World) (h : k < N) => idx_of (P := Try.prog) (T := 75) (e := 5) Try.underlying75 Try.sizeByte (a := some ⟨w1.heap.size, 0, none⟩) (cap := N) (n := N) (by simp) k w h
    have had : ∀ k, adOf (some ⟨w1.heap.size, 0, none⟩) k = ⟨w1.heap.size, k, none⟩ := fun k => by simp [adOf, add_plain]
    simp only [had] at hidx
    clear had hB1 hb1
    go_wp2
    go_loopw [19] (fun i wr => ∃ k : Nat, k ≤ N ∧ i = .int .i64 k ∧ RowAt wr 5 w1.heap.size (txtTo N (a, b) k) ∧ Blk wr w.heap.size 24 a b ∧ Below w.heap.size w wr) (fun i _ => N - (intOf i).toNat)
    case atStart => exact ⟨0, Nat.zero_le _, rfl, by rw [txtTo_zero]; exact hr2, hB2, hb2⟩
    case round =>
      obtain ⟨k, hk, rfl, hrw, hB, hbw⟩ := hrel
      clear hr2 hB2 hb2
      by_cases hlt : k < N
      · have h00 := hB.c0
        have h01 := hB.c1
        have hsg := fun w => Try.sign_any a b k w ha hb (by omega)
        have HTS : Hid _ := txtTo_set (a, b) hlt
        go_wp2_with fail
        refine (hsg _).mono ?_
        rintro e w2 ⟨rfl, hw2⟩
        have hrw2 := hrw.up hw2
        have hB2 := hB.up hw2
        have hb2 := below_step hbw hw2
        clear hw2 h00 h01 hrw hB hbw hsg
        have hck := hrw2.cell (i := k) (by rw [txtTo_len _ hk]; exact hlt)
        have hfk := hrw2.frozen k
        have hrw3 := hrw2.set k (signI (a, b) k)
        rw [HTS.out] at hrw3
        have hB3 : Blk (w2.setCell ⟨w1.heap.size, k, none⟩ (.int .u8 (signI (a, b) k))) w.heap.size 24 a b := (Below.heap_setCell _ _ _ _ (by simp; omega)).trans hB2
        have hb3 := hb2.setCell (p := ⟨w1.heap.size, k, none⟩) (by simp; omega) (.int .u8 (signI (a, b) k))
        clear hrw2 hB2 hb2
        generalize signI (a, b) k = sg at *
        go_wp2
        go_roundw
        case rel => exact ⟨k + 1, by omega, by go_num, hrw3, hB3, hb3⟩
        case measure => simp [intOf]; omega
      · obtain rfl : k = N := by omega
        rw [txtTo_end] at hrw
        have hcv := Try.convByte hrw k (textC_len _ _)
        go_wp2
        go_ret2
        exact ⟨by rw [HR.out]; rfl, hbw⟩
  · have hne : (errC n (a, b) != 0) = true := by simpa using h0
    have HR : Hid (PrintCR n (a, b) = fun e => e = .returned (.tuple #[.string ByteArray.empty, .int .i64 (errC n (a, b))])) := by
      show _ = _; unfold PrintCR printV; rw [if_neg h0]
    clear h0
    generalize errC n (a, b) = E at *
    go_enter Try.func24, Try.ntmps24
    go_wp2_with fail
    refine (hck _).mono ?_
    rintro e w1 ⟨rfl, hw1⟩
    go_wp2
    go_ret2
    exact ⟨by rw [HR.out]; rfl, below_step (below_new _ _) hw1⟩
end Go.Proofs.Ytnaalbcbmhpfjaa
