/- The document's cubes, on: both, Meet, Within, say. -/
import Derived.Test.YtnaalbcbmhpfjaaWCubR2
namespace Go.Proofs.Ytnaalbcbmhpfjaa
open Go.RowKit Go.Maps

set_option maxRecDepth 100000 in
set_option maxHeartbeats 1000000 in
theorem Try.both_any (a b c d : Nat) (w : World) (ha : a < 256) (hb : b < 256) (hc : c < 256) (hd : d < 256) :
    Calls Try.prog 41 #[.agg #[.int .u8 (a : Int), .int .u8 (b : Int)], .agg #[.int .u8 (c : Int), .int .u8 (d : Int)]] w fun e w' => e = .returned (.int .i64 (bothC (a, b) (c, d) : Int)) ∧ Below w.heap.size w w' := by
  have HL : Hid _ := bothTo_le (a, b) (c, d)
  have HS : Hid _ := bothTo_succ (a, b) (c, d)
  have HE : Hid (bothC (a, b) (c, d) = bothTo (a, b) (c, d) 256) := rfl
  go_enter Try.func41, Try.ntmps41
  go_wp2
  go_loopw [5, 6] (fun n i wr => ∃ k : Nat, k ≤ 256 ∧ i = .int .i64 k ∧ (∃ x : Nat, x ≤ 256 ∧ n = .int .i64 (x : Int) ∧ Hid (x = bothTo (a, b) (c, d) k)) ∧ Blk wr w.heap.size 24 a b ∧ Blk wr (w.heap.size + 1) 24 c d ∧ Below w.heap.size w wr) (fun _ i _ => 256 - (intOf i).toNat)
  case atStart => exact ⟨0, Nat.zero_le _, rfl, ⟨0, Nat.zero_le _, rfl, rfl⟩, (Blk.at rfl).al _, Blk.at (by simp), (below_new _ _).alloc (by simp) _⟩
  case round =>
    obtain ⟨k, hk, rfl, ⟨x, hx, rfl, HX⟩, hB, hD, hbw⟩ := hrel
    by_cases hlt : k < 256
    · have hc0 := hB.c0
      have hc1 := hB.c1
      have hcv : (k : Int) % 256 = (k : Int) := by omega
      have h1 := fun w => Try.rhas_any a b k w ha hb hlt
      have h2 := fun w => Try.rhas_any c d k w hc hd hlt
      have HK : Hid (bothTo (a, b) (c, d) (k + 1) = x + (if hasC (a, b) k && hasC (c, d) k then 1 else 0) ∧ bothTo (a, b) (c, d) (k + 1) ≤ 256) := by
        have e : bothTo (a, b) (c, d) (k + 1) = _ := HS.out k
        rw [← HX.out] at e
        exact ⟨e, Nat.le_trans (HL.out (k + 1)) (by omega)⟩
      clear HS HL HX
      generalize hasC (a, b) k = p at h1 HK
      generalize hasC (c, d) k = q at h2 HK
      go_wp2_with fail
      refine (h1 _).mono ?_
      rintro e w1 ⟨rfl, hw1⟩
      have hB1 := hB.up hw1
      have hD1 := hD.up hw1
      have hbw1 := below_step hbw hw1
      clear hw1 h1 hc0 hc1 hB hD hbw
      cases p with
      | false =>
        have HN : Hid (x = bothTo (a, b) (c, d) (k + 1)) := by have := HK.out.1; simp at this; exact this.symm
        go_wp2
        go_roundw
        case rel => exact ⟨k + 1, by omega, by go_num, ⟨x, hx, rfl, HN⟩, hB1, hD1, hbw1⟩
        case measure => simp [intOf]; omega
      | true =>
        have hd0 := hD1.c0
        have hd1 := hD1.c1
        go_wp2_with fail
        refine (h2 _).mono ?_
        rintro e w2 ⟨rfl, hw2⟩
        have hB2 := hB1.up hw2
        have hD2 := hD1.up hw2
        have hbw2 := below_step hbw1 hw2
        clear hw2 h2 hd0 hd1 hB1 hD1 hbw1
        cases q with
        | false =>
          have HN : Hid (x = bothTo (a, b) (c, d) (k + 1)) := by have := HK.out.1; simp at this; exact this.symm
          go_wp2
          go_roundw
          case rel => exact ⟨k + 1, by omega, by go_num, ⟨x, hx, rfl, HN⟩, hB2, hD2, hbw2⟩
          case measure => simp [intOf]; omega
        | true =>
          have HN : Hid (x + 1 = bothTo (a, b) (c, d) (k + 1)) := by have := HK.out.1; simp at this; exact this.symm
          have HN2 : Hid (x + 1 ≤ 256) := by rw [HN.out]; exact HK.out.2
          go_wp2
          go_roundw
          case rel => exact ⟨k + 1, by omega, by go_num, ⟨x + 1, HN2.out, by go_num, HN⟩, hB2, hD2, hbw2⟩
          case measure => simp [intOf]; omega
    · obtain rfl : k = 256 := by omega
      have HF : Hid (x = bothC (a, b) (c, d)) := by rw [HE.out]; exact HX.out
      go_wp2
      go_ret
      exact ⟨by rw [← HF.out]; rfl, hbw⟩

set_option maxHeartbeats 800000 in
theorem Try.rmeet_any (a b c d : Nat) (w : World) (ha : a < 256) (hb : b < 256) (hc : c < 256) (hd : d < 256) :
    Calls Try.prog 16 #[.agg #[.int .u8 (a : Int), .int .u8 (b : Int)], .agg #[.int .u8 (c : Int), .int .u8 (d : Int)]] w fun e w' => MeetR (a, b) (c, d) e ∧ Below w.heap.size w w' := by
  have H1 := u8_or_nat a c ha hc
  have H2 := u8_or_nat b d hb hd
  have HM : Hid (meetC (a, b) (c, d) = (a ||| c, b ||| d)) := rfl
  have hbo := fun w => Try.both_any a b c d w ha hb hc hd
  have hz := bothC_zero (a := (a, b)) (b := (c, d)) hb hd
  generalize bothC (a, b) (c, d) = z at *
  generalize a ||| c = x at *
  generalize b ||| d = y at *
  cases hcc : compC (a, b) (c, d) with
  | false =>
    have hz0 := hz.2 hcc
    subst hz0
    have HF : Hid (meetV (a, b) (c, d) = (0, 0) ∧ compC (a, b) (c, d) = false) := ⟨by unfold meetV; rw [hcc]; rfl, hcc⟩
    clear hz hcc
    go_enter Try.func16, Try.ntmps16
    go_wp2_with fail
    refine (hbo _).mono ?_
    rintro e w1 ⟨rfl, hw1⟩
    have hb2 : Blk w1 (w.heap.size + 1 + 1) 24 0 0 := (Blk.at (by simp)).up hw1
    have hbw := below_step (((below_new w _).alloc (by simp) _).alloc (by simp; omega) _) hw1
    clear hw1
    have h20 := hb2.c0
    have h21 := hb2.c1
    have hf0 := hb2.fz 0
    have hf1 := hb2.fz 1
    go_wp2
    refine bodyPost_ret (v := .tuple #[.agg #[.int .u8 0, .int .u8 0], .bool false]) (by simp [results, Try.results16, go_sem, h20, h21]) rfl ⟨?_, ?_⟩
    · unfold MeetR; rw [HF.out.1, HF.out.2]; rfl
    · exact (hbw.setCell (by simp; omega) _).setCell (by simp; omega) _
  | true =>
    have hz0 : ((z : Int) == 0) = false := by
      have : z ≠ 0 := fun h => by rw [hz.1 h] at hcc; cases hcc
      simp; omega
    have HF : Hid (meetV (a, b) (c, d) = (x, y) ∧ compC (a, b) (c, d) = true) := ⟨by unfold meetV; rw [hcc, HM.out]; rfl, hcc⟩
    clear hz hcc
    go_enter Try.func16, Try.ntmps16
    go_wp2_with fail
    refine (hbo _).mono ?_
    rintro e w1 ⟨rfl, hw1⟩
    have hb0 : Blk w1 w.heap.size 24 a b := (((Blk.at rfl).al _).al _).up hw1
    have hb1 : Blk w1 (w.heap.size + 1) 24 c d := ((Blk.at (by simp)).al _).up hw1
    have hb2 : Blk w1 (w.heap.size + 1 + 1) 24 0 0 := (Blk.at (by simp)).up hw1
    have hbw := below_step (((below_new w _).alloc (by simp) _).alloc (by simp; omega) _) hw1
    clear hw1
    have h00 := hb0.c0
    have h01 := hb0.c1
    have h10 := hb1.c0
    have h11 := hb1.c1
    have h20 := hb2.c0
    have h21 := hb2.c1
    have hf0 := hb2.fz 0
    have hf1 := hb2.fz 1
    go_wp2
    refine bodyPost_ret (v := .tuple #[.agg #[.int .u8 (x : Int), .int .u8 (y : Int)], .bool true]) (by simp [results, Try.results16, go_sem, h20, h21]) rfl ⟨?_, ?_⟩
    · unfold MeetR; rw [HF.out.1, HF.out.2]
    · exact (hbw.setCell (by simp; omega) _).setCell (by simp; omega) _

theorem kept_cell {w0 w1 : World} {p : Addr} {v : Value} (h : w0.cell? p = some v) (hb : Below w0.heap.size w0 w1) : w1.cell? p = some v := (hb.cell (World.block_lt_of_cell? _ _ h)).trans h
set_option maxHeartbeats 800000 in
theorem Try.rwithin_any (a b c d : Nat) (w : World) (ha : a < 256) (hb : b < 256) (hc : c < 256) (hd : d < 256) :
    Calls Try.prog 14 #[.agg #[.int .u8 (a : Int), .int .u8 (b : Int)], .agg #[.int .u8 (c : Int), .int .u8 (d : Int)]] w fun e w' => e = .returned (.bool (inC (a, b) (c, d))) ∧ Below w.heap.size w w' := by
  have hb1 := fun w => Try.both_any a b c d w ha hb hc hd
  have hb2 := fun w => Try.both_any a b a b w ha hb ha hb
  have HE : Hid _ := both_in (a := (a, b)) (b := (c, d)) ⟨ha, hb⟩
  generalize bothC (a, b) (c, d) = x at *
  generalize bothC (a, b) (a, b) = y at *
  have hk : ∀ w0 w1 : World, (w0.cell? ⟨w.heap.size, 0, none⟩ = some (.int .u8 (a : Int)) ∧ w0.cell? ⟨w.heap.size, 1, none⟩ = some (.int .u8 (b : Int)) ∧ w0.cell? ⟨w.heap.size + 1, 0, none⟩ = some (.int .u8 (c : Int)) ∧ w0.cell? ⟨w.heap.size + 1, 1, none⟩ = some (.int .u8 (d : Int)) ∧ Hid (Below w.heap.size w w0)) → Below w0.heap.size w0 w1 → (w1.cell? ⟨w.heap.size, 0, none⟩ = some (.int .u8 (a : Int)) ∧ w1.cell? ⟨w.heap.size, 1, none⟩ = some (.int .u8 (b : Int)) ∧ w1.cell? ⟨w.heap.size + 1, 0, none⟩ = some (.int .u8 (c : Int)) ∧ w1.cell? ⟨w.heap.size + 1, 1, none⟩ = some (.int .u8 (d : Int)) ∧ Hid (Below w.heap.size w w1)) :=
    fun w0 w1 ⟨h0, h1, h2, h3, h4⟩ hb => ⟨kept_cell h0 hb, kept_cell h1 hb, kept_cell h2 hb, kept_cell h3 hb, below_step h4.out hb⟩
  have hin : Hid (Below w.heap.size w ((w.alloc (.cells #[.int .u8 (a : Int), .int .u8 (b : Int)] 24)).alloc (.cells #[.int .u8 (c : Int), .int .u8 (d : Int)] 24))) := (below_new _ _).alloc (by simp) _
  go_enter Try.func14, Try.ntmps14
  go_wp2_with fail
  go_region_held3 (fun w' => w'.cell? ⟨w.heap.size, 0, none⟩ = some (.int .u8 (a : Int)) ∧ w'.cell? ⟨w.heap.size, 1, none⟩ = some (.int .u8 (b : Int)) ∧ w'.cell? ⟨w.heap.size + 1, 0, none⟩ = some (.int .u8 (c : Int)) ∧ w'.cell? ⟨w.heap.size + 1, 1, none⟩ = some (.int .u8 (d : Int)) ∧ Hid (Below w.heap.size w w')) (first | exact hk _ _ ‹_› ‹_› | (refine ⟨?_, ?_, ?_, ?_, hin.out.drew⟩ <;> simp [go_sem])) (first | (go_at_call 41; with_reducible refine (hb1 _).mono ?_; rintro e w' ⟨rfl, hw1⟩) | (go_at_call 41; with_reducible refine (hb2 _).mono ?_; rintro e w' ⟨rfl, hw2⟩))
  have hbe : Hid (Below w.heap.size w w') := (‹_ ∧ _ ∧ _ ∧ _ ∧ Hid (Below w.heap.size w w')›).2.2.2.2
  have HC : Hid (((x : Int) == (y : Int)) = inC (a, b) (c, d)) := by show _ = _; rw [← HE.out, cast_beq]
  clear hk hin
  go_wp2
  go_ret
  exact ⟨by rw [← HC.out]; rfl, hbe.out⟩

theorem pow_two_mul (k : Nat) : 2 ^ (k + 1) = 2 * 2 ^ k := by rw [Nat.pow_succ]; omega
set_option maxHeartbeats 800000 in
theorem Try.rsay_any (a b p : Nat) (y : Bool) (z : Int) (w : World) (ha : a < 256) (hb : b < 256) (hp : p < 8) (hz : (z == 1) = y) :
    Calls Try.prog 44 #[.agg #[.int .u8 (a : Int), .int .u8 (b : Int)], .int .i64 (p : Int), .int .i64 z] w fun e w' => SayR (sayC (a, b) p y) e ∧ Below w.heap.size w w' := by
  have h2 := pow_lt hp
  have H1 := u8_or_nat a (2 ^ p) ha h2
  have H2 := u8_or_nat b (2 ^ p) hb h2
  have HS : Hid (sayC (a, b) p y = (a ||| 2 ^ p, if y then b ||| 2 ^ p else b)) := rfl
  have hpl : ∀ k, k ≤ p → 2 ^ k ≤ 128 := fun k hk => Nat.le_trans (Nat.pow_le_pow_right (by decide) (by omega : k ≤ 7)) (by decide)
  go_enter Try.func44, Try.ntmps44
  go_wp2
  go_loop [7, 8] (fun v i => ∃ k : Nat, k ≤ p ∧ i = .int .i64 k ∧ ∃ x : Nat, x ≤ 128 ∧ v = .int .i64 (x : Int) ∧ Hid (x = 2 ^ k)) (fun _ i => p - (intOf i).toNat)
  case atStart => exact ⟨0, Nat.zero_le _, rfl, 1, by decide, rfl, rfl⟩
  case round =>
    obtain ⟨k, hk, rfl, x, hx, rfl, HU⟩ := hrel
    by_cases hlt : k < p
    · have HN : Hid (2 * x = 2 ^ (k + 1)) := by show _ = _; rw [HU.out, pow_two_mul]
      have HN2 : Hid (2 * x ≤ 128) := by rw [HN.out]; exact hpl (k + 1) (by omega)
      go_wp2
      go_round
      case rel => exact ⟨k + 1, by omega, by go_num, 2 * x, HN2.out, by go_num, HN⟩
      case measure => simp [intOf]; omega
    · obtain rfl : k = p := by omega
      have hcv : (x : Int) % 256 = (x : Int) := by omega
      rw [← HU.out] at H1 H2
      have HS2 : Hid (sayC (a, b) k y = (a ||| x, if y then b ||| x else b)) := by show _ = _; rw [HU.out]; rfl
      clear HS HU h2 hpl
      generalize a ||| x = u at *
      generalize b ||| x = v at *
      cases y with
      | true =>
        go_wp2
        refine bodyPost_ret (v := .agg #[.int .u8 (u : Int), .int .u8 (v : Int)]) (by simp [results, Try.results44, go_sem]) rfl ⟨?_, ?_⟩
        · unfold SayR; rw [HS2.out]; rfl
        · exact (below_new _ _).alloc (by simp) _
      | false =>
        go_wp2
        refine bodyPost_ret (v := .agg #[.int .u8 (u : Int), .int .u8 (b : Int)]) (by simp [results, Try.results44, go_sem]) rfl ⟨?_, ?_⟩
        · unfold SayR; rw [HS2.out]; rfl
        · exact (below_new _ _).alloc (by simp) _
end Go.Proofs.Ytnaalbcbmhpfjaa
