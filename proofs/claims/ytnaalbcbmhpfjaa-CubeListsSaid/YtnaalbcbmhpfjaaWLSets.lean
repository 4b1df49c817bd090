/- The law CubeSets: cubes are sets. -/
import Derived.Test.YtnaalbcbmhpfjaaWCub2
import Derived.Test.YtnaalbcbmhpfjaaWCubR3
import Derived.Deep.DeepCutAuto
namespace Go.Proofs.Ytnaalbcbmhpfjaa
open Go.RowKit Go.Maps

theorem sets_meet (a b : Cu) (l : Nat) : (hasC a l && hasC b l) = (compC a b && hasC (meetV a b) l) := by
  cases hc : compC a b with
  | false =>
    cases ha : hasC a l with
    | false => rfl
    | true =>
      cases hb : hasC b l with
      | false => rfl
      | true => rw [comp_of ha hb] at hc; cases hc
  | true => unfold meetV; rw [hc, if_pos rfl, meet_has hc]; rfl
def inTo (a b : Cu) (k : Nat) : Bool := (List.range k).all fun l => !hasC a l || hasC b l
theorem inTo_succ (a b : Cu) (k : Nat) : inTo a b (k + 1) = (inTo a b k && (!hasC a k || hasC b k)) := by
  unfold inTo; rw [List.range_succ, List.all_append]; simp
theorem inTo_end {a b : Cu} (ha : a.2 < 256) : inTo a b 256 = inC a b := by
  apply Bool.eq_iff_iff.2
  rw [inC_iff ha]
  unfold inTo
  rw [List.all_eq_true]
  constructor
  · intro h l hl hal
    have := h l (List.mem_range.2 hl); rw [hal] at this; simpa using this
  · intro h l hl
    cases hal : hasC a l with
    | false => rfl
    | true => rw [h l (List.mem_range.1 hl) hal]; rfl
theorem has_all : hasC (0, 0) 255 = true := by decide
def cntTo (cs : List Cu) (l i : Nat) : Nat := (cs.take i).countP fun c => hasC c l
theorem cntTo_succ {cs : List Cu} {l i : Nat} (h : i < cs.length) : cntTo cs l (i + 1) = cntTo cs l i + (if hasC (cs.getD i (0, 0)) l then 1 else 0) := by
  unfold cntTo; rw [take_snocC h, List.countP_append]; simp [List.countP_cons]
theorem cntTo_end (cs : List Cu) (l : Nat) : cntTo cs l cs.length = cs.countP fun c => hasC c l := by unfold cntTo; rw [List.take_length]
theorem cntTo_le (cs : List Cu) (l i : Nat) : cntTo cs l i ≤ cs.length := by
  unfold cntTo
  exact Nat.le_trans List.countP_le_length (by simp; omega)

set_option maxRecDepth 100000 in
set_option maxHeartbeats 2000000 in
theorem Try.sets_any (a b c d : Nat) (w : World) (ha : a < 256) (hb : b < 256) (hc : c < 256) (hd : d < 256) :
    Calls Try.prog 6 #[.agg #[.int .u8 (a : Int), .int .u8 (b : Int)], .agg #[.int .u8 (c : Int), .int .u8 (d : Int)]] w fun e w' => e = .returned (.bool true) ∧ Below w.heap.size w w' := by
  have hme := fun w => Try.meet_any a b c d w ha hb hc hd
  have hmi := fun w => Try.minus_any a b c d w ha hb hc hd
  have hwi := fun w => Try.within_any a b c d w ha hb hc hd
  have HS : Hid _ := sets_meet (a, b) (c, d)
  have HC : Hid _ := fun l => minus_count (a, b) (c, d) l
  have HL : Hid _ := minus_len (a, b) (c, d)
  have HK : Hid _ := minus_ok (b := (c, d)) (show (Cu.ok (a, b)) from ⟨ha, hb⟩)
  have HMO : Hid (meetV (a, b) (c, d)).ok := by
    show Cu.ok _; unfold meetV; split
    · exact ⟨or_lt ha hc, or_lt hb hd⟩
    · exact ⟨by decide, by decide⟩
  unfold MeetR at hme
  unfold MinusR at hmi
  generalize meetV (a, b) (c, d) = m at *
  obtain ⟨m0, m1⟩ := m
  generalize compC (a, b) (c, d) = p at *
  generalize minusC (a, b) (c, d) = cs at *
  go_enter Try.func6, Try.ntmps6
  go_wp2_with fail
  refine (hme _).mono ?_
  rintro e w1 ⟨rfl, hw1⟩
  have hB1 : Blk w1 w.heap.size 24 a b := ((Blk.at rfl).al _).up hw1
  have hD1 : Blk w1 (w.heap.size + 1) 24 c d := (Blk.at (by simp)).up hw1
  have hbw1 := below_step ((below_new w _).alloc (by simp) _) hw1
  clear hw1 hme
  have h00 := fun o => (hB1.al o).c0
  have h01 := fun o => (hB1.al o).c1
  have h10 := fun o => (hD1.al o).c0
  have h11 := fun o => (hD1.al o).c1
  go_wp2_with fail
  refine (hmi _).mono ?_
  rintro e w2 ⟨⟨v, rfl, hown⟩, hw2⟩
  have hB2 := (hB1.al _).up hw2
  have hD2 := (hD1.al _).up hw2
  have hM2 := (Blk.new w1 24 m0 m1).up hw2
  have hbw2 := below_step (hbw1.alloc hbw1.size _) hw2
  obtain ⟨la, lg, lcap, hv, hsl, _⟩ := own_cuSl (P := Try.prog) (T := 32) hown Try.underlying32 Try.sizeCube HK.out
  subst hv
  clear hw2 hmi hown h00 h01 h10 h11 hB1 hD1 hbw1
  go_wp2
  have hk : ∀ w0 w1' : World, (w0.cell? ⟨w.heap.size, 0, none⟩ = some (.int .u8 (a : Int)) ∧ w0.cell? ⟨w.heap.size, 1, none⟩ = some (.int .u8 (b : Int)) ∧ w0.cell? ⟨w.heap.size + 1, 0, none⟩ = some (.int .u8 (c : Int)) ∧ w0.cell? ⟨w.heap.size + 1, 1, none⟩ = some (.int .u8 (d : Int)) ∧ Hid (Below w2.heap.size w2 w0)) → Below w0.heap.size w0 w1' → (w1'.cell? ⟨w.heap.size, 0, none⟩ = some (.int .u8 (a : Int)) ∧ w1'.cell? ⟨w.heap.size, 1, none⟩ = some (.int .u8 (b : Int)) ∧ w1'.cell? ⟨w.heap.size + 1, 0, none⟩ = some (.int .u8 (c : Int)) ∧ w1'.cell? ⟨w.heap.size + 1, 1, none⟩ = some (.int .u8 (d : Int)) ∧ Hid (Below w2.heap.size w2 w1')) :=
    fun w0 w1' ⟨h0, h1, h2, h3, h4⟩ hb => ⟨kept_cell h0 hb, kept_cell h1 hb, kept_cell h2 hb, kept_cell h3 hb, below_step h4.out hb⟩
  go_loopw [8, 9] (fun t i wr => ∃ k : Nat, k ≤ 256 ∧ i = .int .i64 k ∧ (∃ z : Bool, t = .bool z ∧ Hid (z = inTo (a, b) (c, d) k)) ∧ Hid (Below w2.heap.size w2 wr)) (fun _ i _ => 256 - (intOf i).toNat)
  case atStart => exact ⟨0, Nat.zero_le _, rfl, ⟨true, rfl, rfl⟩, Below.refl _ _⟩
  case round =>
    obtain ⟨k, hk256, rfl, ⟨z, rfl, HZ⟩, hbr⟩ := hrel
    have hB := hB2.up hbr.out
    have hD := hD2.up hbr.out
    have h00 := hB.c0
    have h01 := hB.c1
    have h10 := hD.c0
    have h11 := hD.c1
    by_cases hlt : k < 256
    · have hcv : (k : Int) % 256 = (k : Int) := by omega
      have hx := fun w => Try.has_any a b k w ha hb hlt
      have hy := fun w => Try.has_any c d k w hc hd hlt
      have hm := fun w => Try.has_any m0 m1 k w HMO.out.1 HMO.out.2 hlt
      have HS2 : Hid _ := HS.out k
      have HC2 : Hid _ := HC.out k
      have HI2 : Hid _ := inTo_succ (a, b) (c, d) k
      rw [← HZ.out] at HI2
      clear HS HC HZ hB hD
      generalize hasC (a, b) k = x at *
      generalize hasC (c, d) k = y at *
      generalize hasC (m0, m1) k = q at *
      go_wp2_with fail
      go_region_held3 (fun w' => w'.cell? ⟨w.heap.size, 0, none⟩ = some (.int .u8 (a : Int)) ∧ w'.cell? ⟨w.heap.size, 1, none⟩ = some (.int .u8 (b : Int)) ∧ w'.cell? ⟨w.heap.size + 1, 0, none⟩ = some (.int .u8 (c : Int)) ∧ w'.cell? ⟨w.heap.size + 1, 1, none⟩ = some (.int .u8 (d : Int)) ∧ Hid (Below w2.heap.size w2 w')) (first | exact hk _ _ ‹_› ‹_› | (refine ⟨?_, ?_, ?_, ?_, hbr.out.drew⟩ <;> simp [go_sem, h00, h01, h10, h11])) (first | (go_at_call 11; with_reducible refine (hx _).mono ?_; rintro e w' ⟨rfl, hw1⟩) | (go_at_call 11; with_reducible refine (hy _).mono ?_; rintro e w' ⟨rfl, hw2⟩))
      have hbe : Hid (Below w2.heap.size w2 w') := (‹_ ∧ _ ∧ _ ∧ _ ∧ Hid (Below w2.heap.size w2 w')›).2.2.2.2
      clear h00 h01 h10 h11 hx hy hk hbr
      go_upto_region 9 with fail
      go_cut [8] (fun t wx => t = .bool (z && (!x || y)) ∧ wx = w')
      case first =>
        cases z <;> cases x <;> cases y <;> (go_wp2_with fail; go_meet; exact ⟨rfl, rfl⟩)
      case rest =>
        obtain ⟨rfl, rfl⟩ := hcut
        have HIN : Hid ((z && (!x || y)) = inTo (a, b) (c, d) (k + 1)) := HI2.out.symm
        generalize (z && (!x || y)) = z2 at *
        have hM := hM2.up hbe.out
        have hm0 := hM.c0
        have hm1 := hM.c1
        go_upto_region 10 with fail
        go_cut [54] (fun t wx => t = .bool false ∧ Hid (Below w2.heap.size w2 wx))
        case first =>
          cases p with
          | false =>
            have HS3 : Hid ((x && y) = false) := HS2.out
            cases x with
            | false => go_wp2_with fail; go_meet; exact ⟨rfl, hbe⟩
            | true =>
              obtain rfl : y = false := HS3.out
              go_wp2_with fail; go_meet; exact ⟨rfl, hbe⟩
          | true =>
            have HS3 : Hid ((x && y) = q) := HS2.out
            cases x with
            | false =>
              obtain rfl : false = q := HS3.out
              go_wp2_with (go_at_call 11; refine (hm _).mono ?_; rintro e w5 ⟨rfl, hw5⟩); go_meet; exact ⟨rfl, below_step hbe.out hw5⟩
            | true =>
              obtain rfl : y = q := HS3.out
              cases y with
              | false => go_wp2_with (go_at_call 11; refine (hm _).mono ?_; rintro e w5 ⟨rfl, hw5⟩); go_meet; exact ⟨rfl, below_step hbe.out hw5⟩
              | true => go_wp2_with (go_at_call 11; refine (hm _).mono ?_; rintro e w5 ⟨rfl, hw5⟩); go_meet; exact ⟨rfl, below_step hbe.out hw5⟩
        case rest =>
          obtain ⟨rfl, hbx⟩ := hcut
          clear hm0 hm1 hM hm HS2 HI2 hbe
          have hlen := HL.out
          have hbd := hsl.hcap
          have hbm := hsl.bd
          unfold maxLen at hbm
          have hidx := fun (j : Nat) (w : World) (h : j < cs.length) => hsl.idx cs.length j w h (Nat.le_refl _)
          go_wp2
          go_loopw [13, 14] (fun t i wr' => ∃ j : Nat, j ≤ cs.length ∧ i = .int .i64 j ∧ (∃ n : Nat, n ≤ 8 ∧ t = .int .i64 (n : Int) ∧ Hid (n = cntTo cs k j)) ∧ Hid (Below w2.heap.size w2 wr')) (fun _ i _ => cs.length - (intOf i).toNat)
          case atStart => exact ⟨0, Nat.zero_le _, rfl, ⟨0, by decide, rfl, rfl⟩, hbx⟩
          case round =>
            obtain ⟨j, hj, rfl, ⟨n, hn, rfl, HNC⟩, hbj⟩ := hrel
            by_cases hjl : j < cs.length
            · have hslj := hsl.up hbj.out
              have hd0 := hslj.c0 j hjl
              have hd1 := hslj.c1 j hjl
              have hokj := hslj.get_ok j
              have HC1 : Hid _ := cntTo_succ (l := k) hjl
              have HC3 : Hid _ := Nat.le_trans (cntTo_le cs k (j + 1)) hlen
              generalize cs.getD j (0, 0) = y1 at *
              obtain ⟨y10, y11⟩ := y1
              have hh := fun w => Try.has_any y10 y11 k w hokj.1 hokj.2 hlt
              generalize hasC (y10, y11) k = r at *
              go_wp2_with fail
              refine (hh _).mono ?_
              rintro e w6 ⟨rfl, hw6⟩
              cases r with
              | false =>
                have HN2 : Hid (n = cntTo cs k (j + 1)) := by have := HC1.out; simp at this; rw [this]; exact HNC.out
                go_wp2
                go_roundw
                case rel => exact ⟨j + 1, by omega, by go_num, ⟨n, hn, rfl, HN2⟩, below_step hbj.out hw6⟩
                case measure => simp [intOf]; omega
              | true =>
                have HN2 : Hid (n + 1 = cntTo cs k (j + 1)) := by have := HC1.out; simp at this; show _ = _; rw [this, HNC.out]
                have HN3 : Hid (n + 1 ≤ 8) := by rw [HN2.out]; exact HC3.out
                go_wp2
                go_roundw
                case rel => exact ⟨j + 1, by omega, by go_num, ⟨n + 1, HN3.out, by go_num, HN2⟩, below_step hbj.out hw6⟩
                case measure => simp [intOf]; omega
            · obtain rfl : j = cs.length := by omega
              have HNX : Hid (n = if x && !y then 1 else 0) := by
                rw [HNC.out, cntTo_end]; exact HC2.out
              cases x with
              | false =>
                obtain rfl : n = 0 := HNX.out
                go_wp2
                go_roundw
                case rel => exact ⟨k + 1, by omega, by go_num, ⟨z2, rfl, HIN⟩, hbj⟩
                case measure => simp [intOf]; omega
              | true =>
                cases y with
                | false =>
                  obtain rfl : n = 1 := HNX.out
                  go_wp2
                  go_roundw
                  case rel => exact ⟨k + 1, by omega, by go_num, ⟨z2, rfl, HIN⟩, hbj⟩
                  case measure => simp [intOf]; omega
                | true =>
                  obtain rfl : n = 0 := HNX.out
                  go_wp2
                  go_roundw
                  case rel => exact ⟨k + 1, by omega, by go_num, ⟨z2, rfl, HIN⟩, hbj⟩
                  case measure => simp [intOf]; omega
    · obtain rfl : k = 256 := by omega
      have HE : Hid (z = inC (a, b) (c, d)) := by show _ = _; rw [HZ.out, inTo_end hb]
      have ht : ∀ w, Calls Try.prog 11 #[.agg #[.int .u8 0, .int .u8 0], .int .u8 255] w fun e w' => e = .returned (.bool true) ∧ Below w.heap.size w w' := fun w => by
        have := Try.has_any 0 0 255 w (by decide) (by decide) (by decide); rw [has_all] at this; exact this
      rw [← HE.out] at hwi
      clear HE HZ hk
      go_wp2_with fail
      refine (hwi _).mono ?_
      rintro e w7 ⟨rfl, hw7⟩
      have hzz : (z == z) = true := by simp
      go_wp2_with fail
      refine (ht _).mono ?_
      rintro e w8 ⟨rfl, hw8⟩
      go_wp2
      go_ret
      exact ⟨rfl, below_step hbw2 (below_step (below_step hbr.out hw7) hw8)⟩
end Go.Proofs.Ytnaalbcbmhpfjaa
