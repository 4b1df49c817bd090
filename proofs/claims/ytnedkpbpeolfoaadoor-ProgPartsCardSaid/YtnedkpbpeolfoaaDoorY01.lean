/- Texts of the proof, put together: what it uses. -/
import Derived.Lib.AppendZerosOnto
import Derived.Lib.LazyBuf
import Derived.Lib.TrailingZeros
import Derived.Laws.BitsAllLaws
import Derived.WalkKit
import Derived.Test.YtnedkpbpeolfoaaDoorRows
import Derived.ProofKit
import Derived.OpenShut
import Derived.ShutString
import Derived.ChangeOld
import Derived.SizedLaws
import Derived.Lib.SmallJoins
import Derived.Deep.SlicePairs
import Derived.Test.YtnedkpbpeolfoaaDoorTie
import Derived.Test.YtnedkpbpeolfoaaDoorCards
import Derived.LaidMore
import Derived.Lay
import Derived.SevenTiedAt
import Derived.Stop.Joined
import Derived.HandedShaped
import Derived.Lib.LaidU8
import Derived.Test.YtnedkpbpeolfoaaDoorY00
namespace Go.Proofs.YtnedkpbpeolfoaaDoor
open Go.RowKit Go.Maps
open Go.Sort (swp PermIn SortedIn)
/-- What pdqsort answers, of parts shorter than n. -/
def PdqC (n : Nat) : Prop := ∀ (g c a b lim : Nat) (d : Array Int) (t : List Int) (w : World), SoAt w g d t → a ≤ b → b ≤ d.size → d.size ≤ 1000000 → lim ≤ 64 → b - a < n → Go.Sort.Below lt64 a b d →
  Calls Tryd.prog 81 #[.slice (some ⟨g, 0, none⟩) d.size c, .int .i64 (a : Int), .int .i64 (b : Int), .int .i64 (lim : Int)] w fun e w' => e = .returned (.tuple #[]) ∧ ∃ d', PermIn a b d d' ∧ SortedIn lt64 a b d' ∧ SoAt w' g d' t ∧ w.grownBy w' (some g)
theorem none_grown {w w' : World} (h : w.grownBy w' none) (g : Nat) : w.grownBy w' (some g) := ⟨h.os, h.tape, h.output, h.size, fun j hj _ => h.block j hj (fun e => by cases e)⟩
set_option maxRecDepth 100000 in
set_option maxHeartbeats 32000000 in
theorem Tryd.pdq_step (n : Nat) (IH : PdqC n) : PdqC (n + 1) := by
  intro g c a0 b0 lim0 d0 t w h hab hb hn hlim hlt hB
  obtain ⟨N, hN⟩ : ∃ N, d0.size = N := ⟨_, rfl⟩
  have HS0 : Hid (SoAt w g d0 t) := h
  have HD0 : Hid (d0.size = N) := hN
  have HG0 : Hid (w.grownBy w (some g)) := World.grownBy.refl _ _
  have HQ0 : Hid (PQ a0 b0 a0 b0 d0 d0) := pq_start hab hB
  have HBB : Hid (b0 ≤ d0.size) := hb
  have HIH : Hid (PdqC n) := IH
  have HFIN : Hid (∀ (a b : Nat) (d d' : Array Int) (w' : World), PQ a0 b0 a b d0 d → PermIn a b d d' → SortedIn lt64 a b d' → SoAt w' g d' t → w.grownBy w' (some g) → ∃ d', PermIn a0 b0 d0 d' ∧ SortedIn lt64 a0 b0 d' ∧ SoAt w' g d' t ∧ w.grownBy w' (some g)) := fun a b d d' w' hq hp hs h1 h2 => ⟨d', hq.up hb hp, hq.fin d' hp hs, h1, h2⟩
  rw [hN] at hb hn ⊢
  clear h hN hB IH
  go_enter Tryd.func81, Tryd.ntmps81
  go_wp2
  go_loopw [1, 2, 3, 8, 9] (fun av bv lv f1v f2v wr => ∃ (a b lim : Nat) (f1 f2 : Bool), av = .int .i64 (a : Int) ∧ bv = .int .i64 (b : Int) ∧ lv = .int .i64 (lim : Int) ∧ f1v = .bool f1 ∧ f2v = .bool f2 ∧ lim ≤ 64 ∧ ∃ dk : Array Int, Hid (dk.size = N) ∧ Hid (SoAt wr g dk t) ∧ Hid (PQ a0 b0 a b d0 dk) ∧ Hid (w.grownBy wr (some g))) (fun av bv _ _ _ _ => (intOf bv - intOf av).toNat)
  case atStart => exact ⟨a0, b0, lim0, true, true, rfl, rfl, rfl, rfl, rfl, hlim, d0, HD0, HS0, HQ0, HG0⟩
  case round =>
    obtain ⟨a, b, lim, f1, f2, rfl, rfl, rfl, rfl, rfl, hlm, dk, HD, HS, HQ, HG⟩ := hrel
    clear HS0 HD0 HG0 HQ0
    have q1 := HQ.out.a1
    have q2 := HQ.out.ab
    have q3 := HQ.out.b1
    obtain ⟨L, hL⟩ : ∃ L, L = b - a := ⟨_, rfl⟩
    have wL : IntKind.i64.wrap ((b : Int) - (a : Int)) = (L : Int) := by rw [IntKind.wrap_i64]; omega
    have eL : (b : Int) - (a : Int) = (L : Int) := by omega
    have HL : Hid (L = b - a) := hL
    by_cases h12 : L ≤ 12
    · have h12' : (L : Int) ≤ 12 := by omega
      have hins := Tryd.insSort_any g c a b dk t wr HS.out q2 (by rw [HD.out]; omega) (by rw [HD.out]; omega)
      have HI : Hid _ := Go.Sort.insertionSort_holds swo64 dk a b q2 (by rw [HD.out]; omega)
      rw [HD.out] at hins
      clear hL
      go_wp2_with fail
      refine hins.mono ?_
      rintro e w1 ⟨rfl, hs1, hg1⟩
      have HZ : Hid _ := HFIN.out a b dk _ w1 HQ.out HI.out.1 HI.out.2 hs1 (grow_thenS HG.out hg1)
      clear hins hs1 hg1
      go_wp2
      refine bodyPost_ret (results_none rfl _ _ _) rfl ?_
      exact ⟨rfl, HZ.out⟩
    · have h12' : ¬ (L : Int) ≤ 12 := by omega
      have hab12 : a + 12 < b := by omega
      by_cases hl0 : lim = 0
      · have hl0' : ((lim : Int) == 0) = true := by rw [beq_iff_eq]; omega
        have hhp := Tryd.heapSort_any g c a b dk t wr HS.out (by omega) (by rw [HD.out]; omega) (by rw [HD.out]; omega)
        have HI : Hid _ := Go.Sort.heapSort_holds swo64 dk a b q2 (by rw [HD.out]; omega)
        rw [HD.out] at hhp
        clear hL hl0
        go_wp2_with fail
        refine hhp.mono ?_
        rintro e w1 ⟨rfl, hs1, hg1⟩
        have HZ : Hid _ := HFIN.out a b dk _ w1 HQ.out HI.out.1 HI.out.2 hs1 (grow_thenS HG.out hg1)
        clear hhp hs1 hg1
        go_wp2
        refine bodyPost_ret (results_none rfl _ _ _) rfl ?_
        exact ⟨rfl, HZ.out⟩
      · have hl0' : ((lim : Int) == 0) = false := by rw [beq_eq_false_iff_ne]; omega
        obtain ⟨lm, hlm1⟩ : ∃ lm, lm = lim - 1 := ⟨_, rfl⟩
        have wlm : IntKind.i64.wrap ((lim : Int) - 1) = (lm : Int) := by rw [IntKind.wrap_i64]; omega
        have elm : (lim : Int) - 1 = (lm : Int) := by omega
        have hlm2 : lm ≤ 64 := by omega
        have hbr := Tryd.break_any g c a b dk t wr HS.out hab12 (by rw [HD.out]; omega) (by rw [HD.out]; omega)
        rw [HD.out] at hbr
        clear hL hl0 hlm1
        go_upto_if 35 with fail
        go_cut [3] (fun lv wx => ∃ l1 : Nat, lv = .int .i64 (l1 : Int) ∧ l1 ≤ 64 ∧ ∃ d1 : Array Int, Hid (d1.size = N) ∧ Hid (SoAt wx g d1 t) ∧ Hid (PQ a0 b0 a b d0 d1) ∧ Hid (w.grownBy wx (some g)))
        case first =>
          cases f1 with
          | true =>
            go_wp2
            go_meet
            case rel => exact ⟨lim, rfl, hlm, dk, HD, HS, HQ, HG⟩
          | false =>
            go_wp2_with fail
            refine hbr.mono ?_
            rintro e w1 ⟨rfl, d1, hp1, hz1, hs1, hg1⟩
            have HQ1 : Hid (PQ a0 b0 a b d0 d1) := HQ.out.move HBB.out hp1
            have HS1 : Hid (SoAt w1 g d1 t) := hs1
            have HD1 : Hid (d1.size = N) := hz1
            have HG1 : Hid (w.grownBy w1 (some g)) := grow_thenS HG.out hg1
            clear hbr hp1 hz1 hs1 hg1
            go_wp2
            go_meet
            case rel => exact ⟨lm, rfl, hlm2, d1, HD1, HS1, HQ1, HG1⟩
        case rest =>
          obtain ⟨l1, rfl, hl1, d1, HD1, HS1, HQ1, HG1⟩ := hcut
          clear hbr HD HS HQ HG wlm elm hl0' hlm2
          generalize wc = w1 at *
          have hch := Tryd.choose_any g c a b d1 t w1 HS1.out hab12 (by rw [HD1.out]; omega) (by rw [HD1.out]; omega)
          rw [HD1.out] at hch
          go_wp2_with fail
          refine hch.mono ?_
          rintro e w2 ⟨q, k, rfl, hqa, hqb, hk, hs2, hg2⟩
          have HS2 : Hid (SoAt w2 g d1 t) := hs2
          have HG2 : Hid (w.grownBy w2 (some g)) := grow_thenS HG1.out (none_grown hg2 g)
          clear hch hs2 hg2 HS1 HG1
          obtain ⟨b1, hb1⟩ : ∃ b1, b1 = b - 1 := ⟨_, rfl⟩
          obtain ⟨qa, hqa1⟩ : ∃ qa, qa = q - a := ⟨_, rfl⟩
          obtain ⟨q1, hqq⟩ : ∃ q1, q1 = b1 - qa := ⟨_, rfl⟩
          have wb1 : IntKind.i64.wrap ((b : Int) - 1) = (b1 : Int) := by rw [IntKind.wrap_i64]; omega
          have eb1 : (b : Int) - 1 = (b1 : Int) := by omega
          have wqa : IntKind.i64.wrap ((q : Int) - (a : Int)) = (qa : Int) := by rw [IntKind.wrap_i64]; omega
          have eqa : (q : Int) - (a : Int) = (qa : Int) := by omega
          have wqq : IntKind.i64.wrap ((b1 : Int) - (qa : Int)) = (q1 : Int) := by rw [IntKind.wrap_i64]; omega
          have eqq : (b1 : Int) - (qa : Int) = (q1 : Int) := by omega
          have hq1a : a ≤ q1 := by omega
          have hq1b : q1 < b := by omega
          have hrv := Tryd.revRange_any g c a b d1 t w2 HS2.out q2 (by rw [HD1.out]; omega) (by rw [HD1.out]; omega)
          have HRV : Hid _ := Go.Sort.reverseRange_holds d1 a b q2 (by rw [HD1.out]; omega)
          rw [HD1.out] at hrv
          clear hb1 hqa1 hqq
          go_upto_if 50 with fail
          go_cut [11, 12] (fun qv kv wx => ∃ q k : Nat, qv = .int .i64 (q : Int) ∧ kv = .int .i64 (k : Int) ∧ a ≤ q ∧ q < b ∧ k ≤ 2 ∧ ∃ d1 : Array Int, Hid (d1.size = N) ∧ Hid (SoAt wx g d1 t) ∧ Hid (PQ a0 b0 a b d0 d1) ∧ Hid (w.grownBy wx (some g)))
          case first =>
            by_cases hk2 : k = 2
            · have hk2' : ((k : Int) == 2) = true := by rw [beq_iff_eq]; omega
              clear hk2
              go_wp2_with fail
              refine hrv.mono ?_
              rintro e w3 ⟨rfl, hs3, hg3⟩
              have HQ3 : Hid (PQ a0 b0 a b d0 (Go.Sort.reverseRange d1 a b)) := HQ1.out.move HBB.out HRV.out
              have HS3 : Hid (SoAt w3 g (Go.Sort.reverseRange d1 a b) t) := hs3
              have HD3 : Hid ((Go.Sort.reverseRange d1 a b).size = N) := HRV.out.1.trans HD1.out
              have HG3 : Hid (w.grownBy w3 (some g)) := grow_thenS HG2.out hg3
              clear hrv hs3 hg3
              go_wp2_with fail
              go_meet
              case rel => exact ⟨q1, 1, rfl, rfl, hq1a, hq1b, by omega, _, HD3, HS3, HQ3, HG3⟩
            · have hk2' : ((k : Int) == 2) = false := by rw [beq_eq_false_iff_ne]; omega
              clear hk2
              go_wp2_with fail
              go_meet
              case rel => exact ⟨q, k, rfl, rfl, hqa, hqb, hk, d1, HD1, HS2, HQ1, HG2⟩
          case rest =>
            clear hrv HRV wb1 eb1 wqa eqa wqq eqq hq1a hq1b HD1 HS2 HQ1 HG2 hqa hqb hk
            obtain ⟨q, k, rfl, rfl, hqa, hqb, hk, d2, HD2, HS2, HQ2, HG2⟩ := hcut
            generalize wc = w3 at *
            go_upto_region 15 with fail
            go_cut [68] (fun cv wx => cv = .bool (f1 && f2 && ((k : Int) == 1)) ∧ wx = w3)
            case first =>
              cases f1 <;> cases f2 <;> (go_wp2_with fail; go_meet; exact ⟨rfl, rfl⟩)
            case rest =>
              obtain ⟨rfl, rfl⟩ := hcut
              generalize (f1 && f2 && ((k : Int) == 1)) = y at *
              generalize wc = w4 at *
              have hpi := Tryd.pins_any g c a b d2 t w4 HS2.out (by omega) (by rw [HD2.out]; omega) (by rw [HD2.out]; omega)
              have HPI : Hid _ := Go.Sort.partialInsertionSort_holds swo64 d2 a b (by omega) (by rw [HD2.out]; omega) HQ2.out.bel
              rw [HD2.out] at hpi
              generalize Go.Sort.partialInsertionSort lt64 d2 a b = R at *
              obtain ⟨R1, R2⟩ := R
              go_upto_if 68 with fail
              go_cut [12] (fun kv wx => kv = .int .i64 (k : Int) ∧ ∃ d1 : Array Int, Hid (d1.size = N) ∧ Hid (SoAt wx g d1 t) ∧ Hid (PQ a0 b0 a b d0 d1) ∧ Hid (w.grownBy wx (some g)))
              case first =>
                cases y with
                | false =>
                  go_wp2_with fail
                  go_meet
                  case rel => exact ⟨rfl, d2, HD2, HS2, HQ2, HG2⟩
                | true =>
                  go_wp2_with fail
                  refine hpi.mono ?_
                  rintro e w5 ⟨rfl, hs5, hg5⟩
                  have HS5 : Hid (SoAt w5 g R1 t) := hs5
                  have HG5 : Hid (w.grownBy w5 (some g)) := grow_thenS HG2.out hg5
                  clear hpi hs5 hg5
                  cases R2 with
                  | true =>
                    have HZ : Hid _ := HFIN.out a b d2 _ w5 HQ2.out HPI.out.1 (HPI.out.2 rfl) HS5.out HG5.out
                    go_wp2_with fail
                    refine bodyPost_ret (results_none rfl _ _ _) rfl ?_
                    exact ⟨rfl, HZ.out⟩
                  | false =>
                    have HQ5 : Hid (PQ a0 b0 a b d0 R1) := HQ2.out.move HBB.out HPI.out.1
                    have HD5 : Hid (R1.size = N) := HPI.out.1.1.trans HD2.out
                    go_wp2_with fail
                    go_meet
                    case rel => exact ⟨rfl, R1, HD5, HS5, HQ5, HG5⟩
              case rest =>
                clear hpi HPI HD2 HS2 HQ2 HG2
                obtain ⟨rfl, d3, HD3, HS3, HQ3, HG3⟩ := hcut
                generalize wc = w5 at *
                obtain ⟨am, ham⟩ : ∃ am, am = a - 1 := ⟨_, rfl⟩
                have HAM : Hid (am = a - 1) := ham
                obtain ⟨y2, hy2⟩ : ∃ y2 : Bool, y2 = (decide (0 < a) && !lt64 d3[am]! d3[q]!) := ⟨_, rfl⟩
                have HY : Hid (y2 = (decide (0 < a) && !lt64 d3[am]! d3[q]!)) := hy2
                clear hy2
                go_upto_region 17 with fail
                go_cut [87] (fun cv wx => cv = .bool y2 ∧ Hid (SoAt wx g d3 t) ∧ Hid (w.grownBy wx (some g)))
                case first =>
                  by_cases hij : 0 < a
                  · have hd : decide ((0 : Int) < (a : Int)) = true := decide_eq_true (by omega)
                    have wam : IntKind.i64.wrap ((a : Int) - 1) = (am : Int) := by rw [IntKind.wrap_i64]; omega
                    have eam : (a : Int) - 1 = (am : Int) := by omega
                    have j1 := fun w' => Tryd.idxSo g N c am w' (by omega)
                    have j2 := fun w' => Tryd.idxSo g N c q w' (by omega)
                    have hsw : SoAt w5 g d3 t := HS3.out
                    have c3 := hsw.cell (i := am) (by rw [HD3.out]; omega)
                    have c4 := hsw.cell (i := q) (by rw [HD3.out]; omega)
                    have hless := fun w' => Tryd.less_any d3[am]! d3[q]! w'
                    have HY2 : Hid (y2 = !(lt64 d3[am]! d3[q]!)) := by
                      show _ = _
                      rw [HY.out, decide_eq_true hij]; rfl
                    clear hsw HY ham
                    generalize lt64 d3[am]! d3[q]! = lv at *
                    generalize d3[am]! = xv at *
                    generalize d3[q]! = xa at *
                    obtain rfl := HY2.out
                    go_quiet ((go_at_call 90; exact Calls.quiet_of_same (hless _)))
                    go_wp2_with fail
                    go_meet
                    case rel => exact ⟨rfl, SoAt.drewN HS3.out _, grown_drewN HG3.out _⟩
                  · have hd : decide ((0 : Int) < (a : Int)) = false := decide_eq_false (by omega)
                    have HY2 : Hid (y2 = false) := by
                      show _ = _
                      rw [HY.out, decide_eq_false hij]; rfl
                    clear HY ham
                    obtain rfl := HY2.out
                    go_quiet (fail)
                    go_wp2_with fail
                    go_meet
                    case rel => exact ⟨rfl, SoAt.drewN HS3.out _, grown_drewN HG3.out _⟩
                case rest =>
                  clear HS3 HG3 ham
                  obtain ⟨rfl, HS3, HG3⟩ := hcut
                  generalize wc = w6 at *
                  cases y2 with
                  | true =>
                    have HY3 : Hid (0 < a ∧ lt64 d3[a - 1]! d3[q]! = false) := by
                      have h0 := HY.out
                      rw [HAM.out] at h0
                      simp only [Bool.true_eq, Bool.and_eq_true, decide_eq_true_eq, Bool.not_eq_true'] at h0
                      exact h0
                    have hpe := Tryd.partEq_any g c a b q d3 t w6 HS3.out (by omega) (by rw [HD3.out]; omega) hqa hqb (by rw [HD3.out]; omega)
                    rw [HD3.out] at hpe
                    go_wp2_with fail
                    refine hpe.mono ?_
                    rintro e w7 ⟨m, d4, rfl, hP, hs7, hg7⟩
                    have HQ7 : Hid (PQ a0 b0 m b d0 d4) := HQ3.out.eq HBB.out HY3.out.1 HY3.out.2 hP
                    have HD7 : Hid (d4.size = N) := hP.sz.trans HD3.out
                    have HS7 : Hid (SoAt w7 g d4 t) := hs7
                    have HG7 : Hid (w.grownBy w7 (some g)) := grow_thenS HG3.out hg7
                    have hm1 := hP.ma
                    have hm2 := hP.mb
                    clear hpe hP hs7 hg7
                    go_wp2_with fail
                    go_roundw
                    case rel => exact ⟨m, b, l1, f1, f2, rfl, rfl, rfl, rfl, rfl, hl1, d4, HD7, HS7, HQ7, HG7⟩
                    case measure => simp [intOf]; omega
                  | false =>
                    have hpt := Tryd.part_any g c a b q d3 t w6 HS3.out (by omega) (by rw [HD3.out]; omega) hqa hqb (by rw [HD3.out]; omega)
                    rw [HD3.out] at hpt
                    clear HY HAM
                    go_wp2_with fail
                    refine hpt.mono ?_
                    rintro e w7 ⟨m, f, d4, rfl, hP, hs7, hg7⟩
                    have HP : Hid (Parted d3 a b m d4) := hP
                    have HD7 : Hid (d4.size = N) := hP.sz.trans HD3.out
                    have HS7 : Hid (SoAt w7 g d4 t) := hs7
                    have HG7 : Hid (w.grownBy w7 (some g)) := grow_thenS HG3.out hg7
                    have hm1 := hP.ma
                    have hm2 := hP.mb
                    obtain ⟨la, hla⟩ : ∃ la, la = m - a := ⟨_, rfl⟩
                    obtain ⟨lb, hlb⟩ : ∃ lb, lb = b - m := ⟨_, rfl⟩
                    obtain ⟨T, hT⟩ : ∃ T, T = L / 8 := ⟨_, rfl⟩
                    obtain ⟨ms, hms⟩ : ∃ ms, ms = m + 1 := ⟨_, rfl⟩
                    have wla : IntKind.i64.wrap ((m : Int) - (a : Int)) = (la : Int) := by rw [IntKind.wrap_i64]; omega
                    have ela : (m : Int) - (a : Int) = (la : Int) := by omega
                    have wlb : IntKind.i64.wrap ((b : Int) - (m : Int)) = (lb : Int) := by rw [IntKind.wrap_i64]; omega
                    have elb : (b : Int) - (m : Int) = (lb : Int) := by omega
                    have tT : ((L : Int)).tdiv 8 = (T : Int) := by rw [Int.tdiv_eq_ediv_of_nonneg (by omega)]; omega
                    have wms : IntKind.i64.wrap ((m : Int) + 1) = (ms : Int) := by rw [IntKind.wrap_i64]; omega
                    have ems : (m : Int) + 1 = (ms : Int) := by omega
                    have HMS : Hid (ms = m + 1) := hms
                    have hBl : Go.Sort.Below lt64 a m d4 := by
                      rcases (HQ3.out.move HBB.out hP.perm).bel with k0 | k0
                      · exact Or.inl k0
                      · exact Or.inr fun i k1 k2 => k0 i k1 (by omega)
                    have hBr : Go.Sort.Below lt64 ms b d4 := by
                      rw [hms]
                      exact Or.inr fun i k1 k2 => by rw [show m + 1 - 1 = m by omega]; exact hP.hi i (by omega) k2
                    have hcl := HIH.out g c a m l1 d4 t w7 hs7 hm1 (by rw [HD7.out]; omega) (by rw [HD7.out]; omega) hl1 (by omega) hBl
                    have hcr := HIH.out g c ms b l1 d4 t w7 hs7 (by omega) (by rw [HD7.out]; omega) (by rw [HD7.out]; omega) hl1 (by omega) hBr
                    rw [HD7.out] at hcl hcr
                    clear hpt hP hs7 hg7 hBl hBr hla hlb hT hms
                    by_cases hlt2 : la < lb
                    · have hlt2' : (la : Int) < (lb : Int) := by omega
                      clear hcr
                      go_wp2_with fail
                      refine hcl.mono ?_
                      rintro e w8 ⟨rfl, d5, hp5, hs5, hs8, hg8⟩
                      have HQ8 : Hid (PQ a0 b0 ms b d0 d5) := by
                        rw [HMS.out]
                        exact HQ3.out.left HBB.out HP.out hp5 hs5
                      have HD8 : Hid (d5.size = N) := hp5.1.trans HD7.out
                      have HS8 : Hid (SoAt w8 g d5 t) := hs8
                      have HG8 : Hid (w.grownBy w8 (some g)) := grow_thenS HG7.out hg8
                      clear hcl hp5 hs5 hs8 hg8
                      go_wp2_with fail
                      go_roundw
                      case rel => exact ⟨ms, b, l1, _, f, rfl, rfl, rfl, rfl, rfl, hl1, d5, HD8, HS8, HQ8, HG8⟩
                      case measure => simp [intOf]; omega
                    · have hlt2' : ¬ (la : Int) < (lb : Int) := by omega
                      clear hcl
                      go_wp2_with fail
                      refine hcr.mono ?_
                      rintro e w8 ⟨rfl, d5, hp5, hs5, hs8, hg8⟩
                      have HQ8 : Hid (PQ a0 b0 a m d0 d5) := by
                        rw [HMS.out] at hp5 hs5
                        exact HQ3.out.right HBB.out HP.out hp5 hs5
                      have HD8 : Hid (d5.size = N) := hp5.1.trans HD7.out
                      have HS8 : Hid (SoAt w8 g d5 t) := hs8
                      have HG8 : Hid (w.grownBy w8 (some g)) := grow_thenS HG7.out hg8
                      clear hcr hp5 hs5 hs8 hg8
                      go_wp2_with fail
                      go_roundw
                      case rel => exact ⟨a, m, l1, _, f, rfl, rfl, rfl, rfl, rfl, hl1, d5, HD8, HS8, HQ8, HG8⟩
                      case measure => simp [intOf]; omega
theorem Tryd.pdq_all (n : Nat) : PdqC n := by
  induction n with
  | zero => intro g c a b lim d t w h hab hb hn hl hlt; omega
  | succ n ih => exact Tryd.pdq_step n ih
end Go.Proofs.YtnedkpbpeolfoaaDoor
namespace Go.Proofs.YtnedkpbpeolfoaaDoor
open Go.RowKit Go.Maps
open Go.Sort (swp PermIn SortedIn)
theorem bitLen_le (x : Nat) : Go.Lib.bitLen x ≤ 64 := by
  have h : ∀ f x, Go.Lib.bitLenAux f x ≤ f := by
    intro f
    induction f with
    | zero => intro x; exact Nat.le_refl _
    | succ f ih =>
      intro x
      show (if x = 0 then 0 else 1 + Go.Lib.bitLenAux f (x / 2)) ≤ f + 1
      split
      · omega
      · have := ih (x / 2); omega
  exact h 64 x
/-- Sorted from end to end: a rising row of the same numbers. -/
theorem sorted_list {d d' : Array Int} (hp : PermIn 0 d.size d d') (hs : SortedIn lt64 0 d.size d') : d'.toList.Perm d.toList ∧ d'.toList.Pairwise (· ≤ ·) := by
  constructor
  · have h := hp.2.2
    rw [Array.extract_size] at h
    rw [show d'.extract 0 d.size = d' by rw [← hp.1]; exact Array.extract_size] at h
    exact h
  · rw [List.pairwise_iff_getElem]
    intro i j hi hj hij
    rw [Array.length_toList] at hi hj
    have h := hs i j (Nat.zero_le _) hij (by rw [← hp.1]; exact hj)
    rw [getElem!_pos d' i hi, getElem!_pos d' j hj] at h
    simp only [lt64, Go.Sort.ltInt, decide_eq_false_iff_not] at h
    rw [Array.getElem_toList, Array.getElem_toList]
    omega
set_option maxRecDepth 100000 in
set_option maxHeartbeats 4000000 in
theorem Tryd.sort_any (g c : Nat) (d : Array Int) (t : List Int) (w : World) (h : SoAt w g d t) (hn : d.size ≤ 1000000) :
    Calls Tryd.prog 74 #[.slice (some ⟨g, 0, none⟩) d.size c] w fun e w' => e = .returned (.tuple #[]) ∧ ∃ d' : Array Int, d'.toList.Perm d.toList ∧ d'.toList.Pairwise (· ≤ ·) ∧ SoAt w' g d' t ∧ w.grownBy w' (some g) := by
  have hb := Tryd.bits_Len (d.size : Int) w (by omega) (by omega)
  have hl := bitLen_le (d.size : Int).toNat
  have hpq := Tryd.pdq_all (d.size + 1) g c 0 d.size (Go.Lib.bitLen (d.size : Int).toNat) d t w h (Nat.zero_le _) (Nat.le_refl _) hn hl (by omega) (Or.inl rfl)
  have HF : Hid (∀ d' : Array Int, PermIn 0 d.size d d' → SortedIn lt64 0 d.size d' → d'.toList.Perm d.toList ∧ d'.toList.Pairwise (· ≤ ·)) := fun d' => sorted_list
  have wN : IntKind.u64.wrap (d.size : Int) = (d.size : Int) := by rw [IntKind.wrap_u64]; omega
  generalize Go.Lib.bitLen (d.size : Int).toNat = lim at *
  generalize d.size = N at *
  go_enter Tryd.func74, Tryd.ntmps74
  go_wp2_with fail
  refine hb.mono ?_
  rintro e w0 ⟨rfl, hw⟩
  rw [hw]
  clear hw w0
  go_wp2_with fail
  refine hpq.mono ?_
  rintro e w1 ⟨rfl, d', hp, hs, h1, hg⟩
  have HZ : Hid (∃ d' : Array Int, d'.toList.Perm d.toList ∧ d'.toList.Pairwise (· ≤ ·) ∧ SoAt w1 g d' t ∧ w.grownBy w1 (some g)) := ⟨d', (HF.out d' hp hs).1, (HF.out d' hp hs).2, h1, hg⟩
  clear hpq hb hp hs h1 hg HF
  go_wp2
  go_end0
  exact ⟨rfl, HZ.out⟩
/-- Nothing to sort, wherever the slice stands. -/
theorem Tryd.ins_none (p : Option Addr) (c : Nat) (w : World) :
    Calls Tryd.prog 84 #[.slice p 0 c, .int .i64 0, .int .i64 0] w fun e w' => e = .returned (.tuple #[]) ∧ w' = w := by
  go_enter Tryd.func84, Tryd.ntmps84
  go_wp2
  go_loopw [6] (fun iv wr => iv = .int .i64 1 ∧ wr = w) (fun _ _ => 0)
  case atStart => exact ⟨rfl, rfl⟩
  case round =>
    obtain ⟨rfl, rfl⟩ := hrel
    go_wp2
    go_end0
    exact ⟨rfl, rfl⟩
set_option maxRecDepth 100000 in
theorem Tryd.pdq_none (p : Option Addr) (c lim : Nat) (w : World) :
    Calls Tryd.prog 81 #[.slice p 0 c, .int .i64 0, .int .i64 0, .int .i64 (lim : Int)] w fun e w' => e = .returned (.tuple #[]) ∧ w' = w := by
  have hi := Tryd.ins_none p c w
  go_enter Tryd.func81, Tryd.ntmps81
  go_wp2
  go_loopw [1, 2] (fun iv jv wr => iv = .int .i64 0 ∧ jv = .int .i64 0 ∧ wr = w) (fun _ _ _ => 0)
  case atStart => exact ⟨rfl, rfl, rfl⟩
  case round =>
    obtain ⟨rfl, rfl, rfl⟩ := hrel
    go_wp2_with fail
    refine hi.mono ?_
    rintro e w0 ⟨rfl, rfl⟩
    go_wp2
    refine bodyPost_ret (results_none rfl _ _ _) rfl ?_
    exact ⟨rfl, rfl⟩
theorem Tryd.sort_none (p : Option Addr) (c : Nat) (w : World) :
    Calls Tryd.prog 74 #[.slice p 0 c] w fun e w' => e = .returned (.tuple #[]) ∧ w' = w := by
  have hb := Tryd.bits_Len 0 w (by omega) (by omega)
  have hpq := Tryd.pdq_none p c (Go.Lib.bitLen (0 : Int).toNat) w
  generalize Go.Lib.bitLen (0 : Int).toNat = lim at *
  go_enter Tryd.func74, Tryd.ntmps74
  go_wp2_with fail
  refine hb.mono ?_
  rintro e w0 ⟨rfl, hw⟩
  rw [hw]
  clear hw w0
  go_wp2_with fail
  refine hpq.mono ?_
  rintro e w0 ⟨rfl, rfl⟩
  go_wp2
  go_end0
  exact ⟨rfl, rfl⟩
end Go.Proofs.YtnedkpbpeolfoaaDoor
namespace Go.Proofs.YtnedkpbpeolfoaaDoor
open Go.RowKit Go.Maps
theorem own_slU {w : World} {base e size n : Nat} {v : Value} {xs : List Value} (h : w.ownsRow base e size v n xs) : ∃ a c, v = .slice a n c := by
  rcases h.2 with ⟨rfl, rfl⟩ | ⟨g, cap, cur, rfl, _⟩
  · exact ⟨none, 0, rfl⟩
  · exact ⟨_, cap, rfl⟩
/-- One set more behind a list of the call's own. -/
theorem Tryd.append_u {w : World} {ops : Array Oper} {rest : List Oper} {o : Oper} {a : Act} {Q : Exit → Act → World → Prop} (hgd : o.guard = none) (s x : Operand)
    (ho : o.op = .call { callee := .builtin .append, args := #[s, x], argTypes := #[22, 22] }) (base : Nat)
    (v : Value) (n : Nat) (zs : List Int) (hs : a.eval s = v) (hown : w.ownsRow base 60 1 v n (zs.map (Value.int .u64))) (g' : Nat) (z : Int) (hx : a.eval x = .slice (some ⟨g', 0, none⟩) 1 1) (hc : w.cell? ⟨g', 0, none⟩ = some (.int .u64 z))
    (hn : n + 1 ≤ 2000000) (hbase : base ≤ w.heap.size)
    (h : ∀ v' w', w'.ownsRow base 60 1 v' (n + 1) ((zs ++ [z]).map (Value.int .u64)) → w.grownBy w' v.ownBlock → wpList Tryd.prog ops Q rest (a.put o.dst v') w') : wpList Tryd.prog ops Q (o :: rest) a w := by
  obtain ⟨i, hi, hz0, hz1, hz2⟩ := info_parts Tryd.infoSU
  refine wpList_append_own w hgd s x 22 ho base 60 i _ 1 8 Tryd.underlying22 hi hz0 hz1 hz2 rfl (by decide) v n _ hs hown ⟨g', 0, none⟩ 1 1 [.int .u64 z] hx rfl ?_ (fun u hu => by simp at hu; subst hu; rfl) (by unfold maxLen; omega) (by omega) hbase ?_
  · intro j u hj
    match j with
    | 0 => simp at hj; rw [← hj, add_plain]; exact hc
    | j + 1 => simp at hj
  · intro v' w' h1 h2 _
    exact h v' w' (by rw [List.map_append]; exact h1) h2
theorem usl_cells {w : World} {a : Addr} {n c : Nat} {l : List Nat} (h : USl w (some a) n c l) : ∀ j u, ((iU l).map (Value.int .u64))[j]? = some u → w.cell? (a.add j) = some u := by
  intro j u hj
  have hjl : j < (iU l).length := by have := (List.getElem?_eq_some_iff.1 hj).1; simpa using this
  have hc := h.cell j (by rw [← h.hlen]; exact hjl)
  have e : u = .int .u64 ((iU l).getD j 0) := by
    rw [List.getElem?_map, List.getElem?_eq_getElem hjl] at hj
    rw [List.getD_eq_getElem?_getD, List.getElem?_eq_getElem hjl]
    simpa using hj.symm
  rw [e]; exact hc
theorem zeros_u (m : Nat) : (Builtin.zeroCells (Value.int .u64 0).cells m).toList = List.replicate m (Value.int .u64 0) := by
  have hc : (Value.int .u64 0).cells = #[.int .u64 0] := rfl
  unfold Builtin.zeroCells
  rw [hc]
  refine List.ext_getElem (by simp) fun i h1 h2 => ?_
  simp [Nat.mod_one]
/-- A list behind an empty one that has no room: a new block, all of it known. -/
theorem Tryd.append_first {w : World} {ops : Array Oper} {rest : List Oper} {o : Oper} {a : Act} {Q : Exit → Act → World → Prop} (hgd : o.guard = none) (s y : Operand)
    (ho : o.op = .call { callee := .builtin .append, args := #[s, y], argTypes := #[22, 22] }) (g : Nat) (x : Addr) (n c : Nat) (l : List Nat) (hs : a.eval s = .slice (some ⟨g, 0, none⟩) 0 0) (hy : a.eval y = .slice (some x) n c) (hU : USl w (some x) n c l) (h0 : 0 < n) (hn : n ≤ 1000000)
    (h : ∀ G w', n ≤ G → G ≤ maxLen → SoAt w' w.heap.size (iU l).toArray (List.replicate (G - n) 0) → Below w.heap.size w w' → wpList Tryd.prog ops Q rest (a.put o.dst (.slice (some ⟨w.heap.size, 0, none⟩) n G)) w') : wpList Tryd.prog ops Q (o :: rest) a w := by
  refine wpList_plain hgd fun _ hK => ?_
  obtain ⟨i0, hi, hz0, hz1, hz2⟩ := info_parts Tryd.infoSU
  have hln := hU.len
  have hrun : ∀ ty, (Builtin.append_ #[22, 22] ty #[.slice (some ⟨g, 0, none⟩) 0 0, .slice (some x) n c]).run Tryd.prog w = .ok (.slice (some ⟨w.heap.size, 0, none⟩) n (grownCap w n 0 60)) (w.drew.alloc (.cells (((iU l).map (Value.int .u64)).toArray ++ Builtin.zeroCells (Value.int .u64 0).cells (grownCap w n 0 60 - n)) 60)) := fun ty => by
    have h := run_append_grow (P := Tryd.prog) w 22 ty 60 i0 (.int .u64 0) Tryd.underlying22 hi hz0 ⟨g, 0, none⟩ 0 0 [] (by simp) (fun j v hj => by simp at hj) x n c ((iU l).map (Value.int .u64)) (by rw [hz1]; simp [hln]) (usl_cells hU) (by omega) (by omega) (growslice_fits (by omega) (by rw [hz2]; omega))
    simpa using h
  have hG := grownCap_ge w n 0 60
  have hG2 := grownCap_le_maxLen w n 0 60 (by unfold maxLen; omega)
  have hr := hrun o.type
  clear hrun
  generalize grownCap w n 0 60 = G at *
  have HB : Below w.heap.size w (w.drew.alloc (.cells (((iU l).map (Value.int .u64)).toArray ++ Builtin.zeroCells (Value.int .u64 0).cells (G - n)) 60)) := (Below.refl _ w).drew.alloc (Nat.le_refl _) _
  have HS : SoAt (w.drew.alloc (.cells (((iU l).map (Value.int .u64)).toArray ++ Builtin.zeroCells (Value.int .u64 0).cells (G - n)) 60)) w.heap.size (iU l).toArray (List.replicate (G - n) 0) := by
    have h1 := (MapKept.heap_alloc w.drew (.cells (((iU l).map (Value.int .u64)).toArray ++ Builtin.zeroCells (Value.int .u64 0).cells (G - n)) 60)).1
    show _ = _
    refine h1.trans ?_
    refine congrArg some (congrArg (fun c => Obj.cells c 60 (0, 0)) (Array.toList_inj.1 ?_))
    rw [Array.toList_append, List.map_append, List.map_replicate, zeros_u]
  generalize (w.drew.alloc (.cells (((iU l).map (Value.int .u64)).toArray ++ Builtin.zeroCells (Value.int .u64 0).cells (G - n)) 60)) = w2 at *
  unfold Oper.wp execOp
  simp only [ho, resolve, invoke, builtin, Sem.run_bind, Sem.run_pure, Result.andThen_ok, List.map_toArray, List.map_cons, List.map_nil, hs, hy, hr]
  exact hK _ _ (h G w2 hG hG2 HS HB)
/-- What a copy of a list is: nothing, or a block of its own. -/
def CloU (l : List Nat) (w : World) (e : Ending) (w' : World) : Prop :=
  Below w.heap.size w w' ∧ ((l = [] ∧ ∃ p, e = .returned (.slice p 0 0)) ∨ ∃ G t, l ≠ [] ∧ e = .returned (.slice (some ⟨w.heap.size + 1, 0, none⟩) l.length G) ∧ SoAt w' (w.heap.size + 1) (iU l).toArray t ∧ l.length ≤ G ∧ G ≤ maxLen)
set_option maxRecDepth 100000 in
set_option maxHeartbeats 2000000 in
theorem Tryd.clone_any (a : Option Addr) (n c : Nat) (l : List Nat) (w : World) (hS : USl w a n c l) (hn : n ≤ 1000000) :
    Calls Tryd.prog 19 #[.slice a n c] w (CloU l w) := by
  have hln := hS.len
  cases a with
  | none =>
    have hc0 := hS.nn rfl
    have hn0 : n = 0 := by have := hS.hcap; omega
    subst hc0 hn0
    have hl : l = [] := List.eq_nil_of_length_eq_zero hln.symm
    subst hl
    clear hln hS hn
    have hnil := fun w => _root_.Go.run_eql_slice_nil (P := Tryd.prog) w 22 60 none 0 0 Tryd.underlying22
    dsimp only [Option.isNone] at hnil
    go_enter Tryd.func19, Tryd.ntmps19
    go_wp2
    go_ret
    exact ⟨Below.refl _ _, Or.inl ⟨rfl, none, rfl⟩⟩
  | some x =>
    obtain ⟨i0, hi, hz0, hz1, hz2⟩ := info_parts Tryd.infoSU
    have hnil := fun w => _root_.Go.run_eql_slice_nil (P := Tryd.prog) w 22 60 (some x) n c Tryd.underlying22
    dsimp only [Option.isNone] at hnil
    by_cases h0 : n = 0
    · subst h0
      have hl : l = [] := List.eq_nil_of_length_eq_zero hln.symm
      subst hl
      have hown := ownsRow_emptyI w 60
      have HI : Hid (Tryd.prog.info? 60 = some i0) := hi
      have HZ1 : Hid (i0.size = 1) := hz1
      have HB : Hid (∀ w1, (w.alloc (.cells #[] 60)).grownBy w1 (some w.heap.size) → Below w.heap.size w w1) := fun w1 h2 => ((Below.refl _ _).alloc (Nat.le_refl _) _).grown h2 (by simp) (fun k hk => by cases hk; exact Nat.le_refl _)
      clear hi hz0 hz1 hz2 hS hln hn
      go_enter Tryd.func19, Tryd.ntmps19
      go_wp2_with (at_builtin; refine wpList_append_fits_any _ rfl _ _ 22 rfl w.heap.size 60 i0 1 Tryd.underlying22 HI.out HZ1.out w.heap.size 0 0 [] rfl hown (some x) 0 c [] rfl rfl (fun h => by cases h) (fun _ _ j u hj => by simp at hj) (fun _ h => by cases h) (Nat.le_refl _) ?_)
      intro w1 hown1 hgrow1
      have HE := HB.out w1 hgrow1
      clear hown1 hgrow1 hown
      go_wp2
      go_ret
      exact ⟨HE, Or.inl ⟨rfl, _, rfl⟩⟩
    · have hl0 : l ≠ [] := fun e => h0 (by rw [hln, e]; rfl)
      have HL : Hid (n = l.length) := hln
      have HU : Hid _ := hS.up (below_new w (.cells #[] 60))
      clear hi hz0 hz1 hz2 hS hln
      go_enter Tryd.func19, Tryd.ntmps19
      go_wp2_with (at_builtin; refine Tryd.append_first rfl _ _ rfl w.heap.size x n c l rfl rfl HU.out (by omega) hn ?_)
      intro G w2 hG hG2 HS HB
      have HS2 : Hid _ := HS
      have HB2 : Hid (Below w.heap.size w w2) := (below_new w (.cells #[] 60)).trans (HB.mono (Nat.le_succ _))
      have hgl : Hid (n ≤ G ∧ G ≤ maxLen) := ⟨hG, hG2⟩
      clear HS HB hG hG2 HU
      go_wp2
      go_ret
      exact ⟨HB2.out, Or.inr ⟨G, List.replicate (G - n) 0, hl0, by rw [← HL.out]; simp, HS2.out, by rw [← HL.out]; exact hgl.out.1, hgl.out.2⟩⟩
end Go.Proofs.YtnedkpbpeolfoaaDoor
namespace Go.Proofs.YtnedkpbpeolfoaaDoor
open Go.RowKit Go.Maps
/-- A block of numbers, read as a list of sets. -/
theorem SoAt.usl {w : World} {g n G : Nat} {s : List Nat} {d : Array Int} {t : List Int} (h : SoAt w g d t) (hd : d.toList = iU s) (hn : s.length = n) (hG : n ≤ G) (hm : G ≤ maxLen) : USl w (some ⟨g, 0, none⟩) n G s := by
  have had : ∀ k, adOf (some ⟨g, 0, none⟩) k = ⟨g, k, none⟩ := fun k => by simp [adOf, add_plain]
  have hsz : d.size = n := by rw [← Array.length_toList, hd]; simpa using hn
  refine ⟨by simp [hn], hG, hm, fun m k w hk hm => idx_of Tryd.underlying22 Tryd.sizeSU (by simp) k w hk, fun k hk => ?_, fun k hk => ?_, by simp⟩
  · rw [had, h.cell (by omega : k < d.size)]
    congr 2
    rw [← hd, List.getD_eq_getElem?_getD]
    simp [show k < d.size by omega]
  · rw [had]; exact h.lt
theorem usl_own {w : World} {base n : Nat} {v : Value} {l : List Nat} (h : w.ownsRow base 60 1 v n ((iU l).map (Value.int .u64))) : ∃ a c, v = .slice a n c ∧ USl w a n c l := by
  obtain ⟨a, c, h1, h2, _⟩ := ownU_sl h Tryd.underlying22 Tryd.sizeSU
  exact ⟨a, c, h1, h2⟩
theorem usl_own2 {w : World} {base n : Nat} {v : Value} {l : List Nat} (h : w.ownsRow base 60 1 v n ((iU l).map (Value.int .u64))) : ∃ a c, v = .slice a n c ∧ USl w a n c l ∧ ∀ k, k < n → base ≤ (adOf a k).block := by
  obtain ⟨a, c, h1, h2, h3, _⟩ := ownU_sl h Tryd.underlying22 Tryd.sizeSU
  exact ⟨a, c, h1, h2, h3⟩
/-- An answer that is a list of sets, in new memory. -/
def LRN (r : List Nat) (w : World) (e : Ending) (w' : World) : Prop := ∃ (a : Option Addr) (c : Nat), e = .returned (.slice a r.length c) ∧ USl w' a r.length c r ∧ Below w.heap.size w w' ∧ ∀ k, k < r.length → w.heap.size ≤ (adOf a k).block
def LEN (E : Nat) (r : List Nat) (w : World) (e : Ending) (w' : World) : Prop := ∃ (a : Option Addr) (c : Nat), e = .returned (.tuple #[.slice a r.length c, .int .i64 (E : Int)]) ∧ USl w' a r.length c r ∧ Below w.heap.size w w' ∧ ∀ k, k < r.length → w.heap.size ≤ (adOf a k).block
theorem iU_snoc (l : List Nat) (x : Nat) : iU (l ++ [x]) = iU l ++ [(x : Int)] := by simp [iU]
set_option maxRecDepth 100000 in
set_option maxHeartbeats 4000000 in
/-- Least: the least sets, rising. -/
theorem Tryd.least_new (a : Option Addr) (n c : Nat) (l : List Nat) (w : World) (hS : USl w a n c l) (sL : Sm l) (hn : n ≤ 1000000) :
    Calls Tryd.prog 60 #[.slice a n c] w (LRN (leastL l) w) := by
  have hln := hS.len
  have hcl := Tryd.clone_any a n c l w hS hn
  have hso : ∀ w1, Below w.heap.size w w1 → ∀ e, CloU l w e w1 → ∃ p G, e = .returned (.slice p n G) ∧ Calls Tryd.prog 74 #[.slice p n G] w1 fun e w2 => e = .returned (.tuple #[]) ∧ ∃ s : List Nat, s.Perm l ∧ s.Pairwise (· ≤ ·) ∧ USl w2 p n G s ∧ Below w.heap.size w w2 := by
    intro w1 hb1 e ⟨hb, hh⟩
    rcases hh with ⟨rfl, p, rfl⟩ | ⟨G, t, h0, rfl, hA, hG1, hG2⟩
    · obtain rfl : n = 0 := hln
      refine ⟨p, 0, rfl, (Tryd.sort_none p 0 w1).mono ?_⟩
      rintro e w2 ⟨rfl, rfl⟩
      refine ⟨rfl, [], List.Perm.refl _, List.Pairwise.nil, ?_, hb⟩
      exact ⟨rfl, Nat.le_refl _, Nat.zero_le _, fun m k w hk hm => absurd hk (by omega), fun k hk => absurd hk (by omega), fun k hk => absurd hk (by omega), fun _ => rfl⟩
    · have hsz : (iU l).toArray.size = n := by simp [hln]
      have h := Tryd.sort_any (w.heap.size + 1) G (iU l).toArray t w1 hA (by rw [hsz]; exact hn)
      rw [hsz] at h
      refine ⟨some ⟨w.heap.size + 1, 0, none⟩, G, by rw [← hln], h.mono ?_⟩
      rintro e w2 ⟨rfl, d, hp, hu, h2, hg⟩
      obtain ⟨s, hs1, hs2, hs3⟩ := row_back (l := l) (d := d.toList) (by simpa [iU] using hp) hu
      refine ⟨rfl, s, hs2, hs3, h2.usl hs1 (by rw [hs2.length_eq, hln]) (by rw [hln]; exact hG1) hG2, ?_⟩
      exact hb.grown hg hb.size (fun k hk => by cases hk; omega)
  have HSO : Hid _ := hso
  have HP : Hid (∀ s : List Nat, s.Perm l → Sm s ∧ s.length = n ∧ leastL s = leastL l) := fun s h => ⟨fun x hx => sL x (h.mem_iff.1 hx), by rw [h.length_eq, hln], least_perm h⟩
  clear hS sL hso hln
  go_enter Tryd.func60, Tryd.ntmps60
  go_wp2_with fail
  refine hcl.mono ?_
  intro e w1 hC
  obtain ⟨p, G, rfl, hsort⟩ := HSO.out w1 hC.1 e hC
  clear hC hcl HSO
  go_wp2_with fail
  refine hsort.mono ?_
  rintro e w2 ⟨rfl, s, hs1, hs2, hU, hB⟩
  clear hsort
  obtain ⟨sS, sN, sL2⟩ := HP.out s hs1
  clear HP hs1
  have HT : Hid (∀ k, k < n → leastL (s.take (k + 1)) = if hoB (leastL (s.take k)) (s.getD k 0) then leastL (s.take k) else leastL (s.take k) ++ [s.getD k 0]) := fun k hk => least_take hs2 (by omega)
  have HE : Hid (leastL (s.take n) = leastL l) := by show _ = _; rw [List.take_of_length_le (by omega)]; exact sL2
  have HM : Hid (∀ k, Sm (leastL (s.take k)) ∧ (leastL (s.take k)).length ≤ n) := fun k => ⟨fun x hx => sS x (List.mem_of_mem_take (leastL_sub hx)), by have := leastL_len (s.take k); rw [List.length_take] at this; omega⟩
  have HC : Hid (∀ k, k < n → ∀ wr, Below w2.heap.size w2 wr → wr.cell? (adOf p k) = some (.int .u64 ((s.getD k 0 : Nat) : Int))) := fun k hk wr hb => by
    rw [(hU.up hb).cell k hk]
    congr 2
    simp only [List.getD_eq_getElem?_getD, iU, List.getElem?_map]
    cases s[k]? <;> rfl
  have HX : Hid (∀ k, k < n → s.getD k 0 < 2 ^ 64) := fun k hk => by
    have hk' : k < s.length := by omega
    rw [List.getD_eq_getElem?_getD, List.getElem?_eq_getElem hk']
    exact sS _ (List.getElem_mem hk')
  have hidx := fun (k : Nat) (w : World) (h : k < n) => hU.idx n k w h (Nat.le_refl _)
  have HB0 : Hid (Below w.heap.size w w2) := hB
  clear hU hs2 sS sN sL2 hB
  go_wp2
  go_loopw [4, 13] (fun v i wr => ∃ k : Nat, k ≤ n ∧ i = .int .i64 (k : Int) ∧ Hid (wr.ownsRow w2.heap.size 60 1 v (leastL (s.take k)).length ((iU (leastL (s.take k))).map (Value.int .u64))) ∧ Hid (Below w2.heap.size w2 wr)) (fun _ i _ => n - (intOf i).toNat)
  case atStart => exact ⟨0, Nat.zero_le _, rfl, ⟨rfl, Or.inl ⟨rfl, rfl⟩⟩, Below.refl _ _⟩
  case round =>
    obtain ⟨k, hk, rfl, HO, HW⟩ := hrel
    obtain ⟨va, vc, rfl, hUs⟩ := usl_own HO.out
    by_cases hlt : k < n
    · have hc := HC.out k hlt wr HW.out
      have hx := fun w' => hidx k w' hlt
      have hho := Tryd.holds_any va _ vc _ (s.getD k 0) wr hUs (HM.out k).1 (HX.out k hlt)
      have HS : Hid _ := HT.out k hlt
      have hb := (HM.out k).2
      clear HC HX HT HM hidx hUs
      generalize s.getD k 0 = x at *
      have HL : Hid (leastL (s.take k) = leastL (s.take k)) := rfl
      generalize hq : leastL (s.take k) = r at *
      clear HL
      by_cases hh : hoB r x = true
      · rw [hh] at hho
        have HSE : Hid (leastL (s.take (k + 1)) = r) := by show _ = _; rw [HS.out, if_pos hh]
        clear HS hh
        go_wp2_with fail
        refine hho.mono ?_
        rintro e w3 ⟨rfl, hb3⟩
        have HO3 : Hid _ := owns_up HO.out hb3
        have HW3 : Hid _ := HW.out.trans (hb3.mono HW.out.size)
        clear hho HO HW hb3
        go_wp2
        go_roundw
        case rel => exact ⟨k + 1, by omega, by go_num, by rw [HSE.out]; exact HO3, HW3⟩
        case measure => simp [intOf]; omega
      · have hh2 : hoB r x = false := by cases h : hoB r x; rfl; exact absurd h hh
        rw [hh2] at hho
        have HSE : Hid (leastL (s.take (k + 1)) = r ++ [x]) := by show _ = _; rw [HS.out, if_neg hh]
        clear HS hh hh2
        go_wp2_with fail
        refine hho.mono ?_
        rintro e w3 ⟨rfl, hb3⟩
        have HO3 : Hid _ := owns_up HO.out hb3
        have HW3 : Hid (Below w2.heap.size w2 w3) := HW.out.trans (hb3.mono HW.out.size)
        clear hho HO HW hb3
        have HOA : Hid ((w3.alloc (.cells #[.int .u64 (x : Int)] 60)).ownsRow w2.heap.size 60 1 (.slice va r.length vc) r.length ((iU r).map (Value.int .u64))) := World.ownsRow.alloc HO3.out _
        have HCA : Hid ((w3.alloc (.cells #[.int .u64 (x : Int)] 60)).cell? ⟨w3.heap.size, 0, none⟩ = some (.int .u64 (x : Int))) := cell_row (MapKept.heap_alloc w3 _).1 0
        have HWA : Hid (Below w2.heap.size w2 (w3.alloc (.cells #[.int .u64 (x : Int)] 60))) := HW3.out.alloc HW3.out.size _
        have hszA : w2.heap.size ≤ (w3.alloc (.cells #[.int .u64 (x : Int)] 60)).heap.size := HWA.out.size
        have HGE : Hid (∀ q, (Value.slice va r.length vc).ownBlock = some q → w2.heap.size ≤ q) := own_ge HO3.out
        clear HO3 HW3
        go_wp2_with (at_builtin; refine Tryd.append_u rfl _ _ rfl w2.heap.size _ r.length (iU r) rfl HOA.out w3.heap.size (x : Int) rfl HCA.out (by omega) hszA ?_)
        intro v7 w7 hown7 hgr7
        have HO7 : Hid (w7.ownsRow w2.heap.size 60 1 v7 (r.length + 1) ((iU r ++ [(x : Int)]).map (Value.int .u64))) := by show World.ownsRow _ _ _ _ _ _ _; simpa using hown7
        have HW7 : Hid (Below w2.heap.size w2 w7) := HWA.out.grown hgr7 hszA (fun q e => HGE.out q e)
        clear hown7 hgr7 HOA HCA HWA hszA HGE
        go_wp2
        go_roundw
        case rel =>
          refine ⟨k + 1, by omega, by go_num, ?_, HW7⟩
          show World.ownsRow _ _ _ _ _ _ _
          rw [HSE.out, List.length_append, iU_snoc]
          exact HO7.out
        case measure => simp [intOf]; omega
    · obtain rfl : k = n := by omega
      obtain ⟨va2, vc2, hv2, hU2, hf2⟩ := usl_own2 HO.out
      injection hv2 with hv2 _ hv3
      subst hv2 hv3
      have HUs : Hid _ := hUs
      have HFS : Hid _ := hf2
      clear hUs hU2 hf2
      go_wp2
      go_ret
      refine ⟨va, vc, ?_, ?_, below_step HB0.out HW.out, ?_⟩
      · rw [← HE.out]; rfl
      · rw [← HE.out]; exact HUs.out
      · rw [← HE.out]; exact fun k hk => Nat.le_trans HB0.out.size (HFS.out k hk)
end Go.Proofs.YtnedkpbpeolfoaaDoor
namespace Go.Proofs.YtnedkpbpeolfoaaDoor
open Go.RowKit Go.Maps
theorem size_zeroU (n : Nat) : (Builtin.zeroCells (Value.int .u64 0).cells n).size = n * 1 := by
  rw [size_zeroCells]; rfl
theorem iU_append (l k : List Nat) : iU (l ++ k) = iU l ++ iU k := by simp [iU]
/-- Sets behind a list of the call's own. -/
theorem Tryd.append_us {w : World} {ops : Array Oper} {rest : List Oper} {o : Oper} {a : Act} {Q : Exit → Act → World → Prop} (hgd : o.guard = none) (s x : Operand)
    (ho : o.op = .call { callee := .builtin .append, args := #[s, x], argTypes := #[22, 22] }) (base : Nat)
    (v : Value) (xs ys : List Nat) (b : Option Addr) (len cap : Nat) (hs : a.eval s = v) (hx : a.eval x = .slice b len cap) (hown : w.ownsRow base 60 1 v xs.length ((iU xs).map (Value.int .u64))) (hT : USl w b len cap ys)
    (hn : xs.length ≤ 10000000) (hm : ys.length ≤ 10000000) (hbase : base ≤ w.heap.size)
    (h : ∀ v' w', w'.ownsRow base 60 1 v' (xs ++ ys).length ((iU (xs ++ ys)).map (Value.int .u64)) → w.grownBy w' v.ownBlock → wpList Tryd.prog ops Q rest (a.put o.dst v') w') : wpList Tryd.prog ops Q (o :: rest) a w := by
  obtain ⟨i, hi, hz0, hz1, hz2⟩ := info_parts Tryd.infoSU
  have hl := hT.len
  cases b with
  | none =>
    have hc := hT.nn rfl
    have hcl := hT.hcap
    obtain rfl : len = 0 := by omega
    subst hc
    have hy : ys = [] := List.eq_nil_of_length_eq_zero hl.symm
    subst hy
    refine wpList_plain hgd fun _ hK => ?_
    have hrun := run_append_owned_none (P := Tryd.prog) w base 22 o.type 60 i 1 Tryd.underlying22 hi v xs.length _ hown
    unfold Oper.wp execOp
    simp only [ho, resolve, invoke, builtin, Sem.run_bind, Sem.run_pure, Result.andThen_ok, List.map_toArray, List.map_cons, List.map_nil, hs, hx, hrun]
    refine hK _ _ ?_
    exact h v w (by rw [List.append_nil]; exact hown) (World.grownBy.refl _ _)
  | some y =>
    refine wpList_append_own w hgd s x 22 ho base 60 i _ 1 8 Tryd.underlying22 hi hz0 hz1 hz2 rfl (by decide) v xs.length _ hs hown y len cap ((iU ys).map (Value.int .u64)) hx (by simp [hl]) (usl_cells hT) (ints_oneCell .u64 (iU ys)) (by unfold maxLen; omega) (by omega) hbase ?_
    intro v' w' h1 h2 _
    exact h v' w' (by rw [iU_append, List.map_append, List.length_append, ← hl]; exact h1) h2
theorem Tryd.append_zerosU {w : World} {ops : Array Oper} {rest : List Oper} {o : Oper} {a : Act} {Q : Exit → Act → World → Prop} (hgd : o.guard = none) (s x : Operand)
    (ho : o.op = .call { callee := .builtin .append, args := #[s, x], argTypes := #[22, 3] }) (n : Nat) (hs : a.eval s = .slice none 0 0) (hx : a.eval x = .int .i64 (n : Int)) (h0 : 0 < n) (hn : n ≤ 1000000)
    (h : ∀ G w', n ≤ G → w'.ownsRow w.heap.size 60 1 (.slice (some ⟨w.heap.size, 0, none⟩) 0 G) 0 (([] : List Value)) → Below w.heap.size w w' → wpList Tryd.prog ops Q rest (a.put o.dst (.slice (some ⟨w.heap.size, 0, none⟩) n G)) w') : wpList Tryd.prog ops Q (o :: rest) a w := by
  refine wpList_plain hgd fun _ hK => ?_
  obtain ⟨i, hi, hz0, hz1, hz2⟩ := info_parts Tryd.infoSU
  have hrz : ∀ ty, (Builtin.append_ #[22, 3] ty #[.slice none 0 0, .int .i64 (n : Int)]).run Tryd.prog w = .ok (.slice (some ⟨w.heap.size, 0, none⟩) n (grownCap w n 0 60)) (w.drew.alloc (.cells (Builtin.zeroCells (Value.int .u64 0).cells n ++ Builtin.zeroCells (Value.int .u64 0).cells (grownCap w n 0 60 - n)) 60)) := fun ty => by
    have h := Lib.run_append_grow_zeros w 22 3 ty 60 i (.int .u64 0) .i64 .i64 Tryd.underlying22 Tryd.underlying3 hi hz0 none 0 0 [] (run_firstCells_none w.drew i.size 0 0 0) n (by omega) (by omega) (by omega) (by omega) (by rw [hz2]; omega) (growslice_fits (by omega) (by rw [hz2]; omega))
    simpa using h
  have hG := grownCap_ge w n 0 60
  have hG2 := grownCap_le_maxLen w n 0 60 (by unfold maxLen; omega)
  have hcs : (Builtin.zeroCells (Value.int .u64 0).cells n ++ Builtin.zeroCells (Value.int .u64 0).cells (grownCap w n 0 60 - n)).size = grownCap w n 0 60 * 1 := by
    rw [Array.size_append, size_zeroU, size_zeroU]; omega
  generalize Builtin.zeroCells (Value.int .u64 0).cells n ++ Builtin.zeroCells (Value.int .u64 0).cells (grownCap w n 0 60 - n) = cs at *
  generalize grownCap w n 0 60 = G at *
  have HW : (w.drew.alloc (.cells cs 60)).ownsRow w.heap.size 60 1 (.slice (some ⟨w.heap.size, 0, none⟩) 0 G) 0 (([] : List Value)) := ⟨rfl, Or.inr ⟨w.heap.size, G, cs, rfl, Nat.le_refl _, (MapKept.heap_alloc w.drew _).1, Nat.zero_le _, hG2, hcs, rfl⟩⟩
  have HB : Below w.heap.size w (w.drew.alloc (.cells cs 60)) := (Below.refl _ w).drew.alloc (Nat.le_refl _) _
  have hrun := hrz o.type
  unfold Oper.wp execOp
  simp only [ho, resolve, invoke, builtin, Sem.run_bind, Sem.run_pure, Result.andThen_ok, List.map_toArray, List.map_cons, List.map_nil, hs, hx, hrun]
  exact hK _ _ (h G _ hG HW HB)
theorem Tryd.grow_nilU (n : Nat) (w : World) (hn : n ≤ 1000000) :
    Calls Tryd.prog 78 #[.slice none 0 0, .int .i64 (n : Int)] w fun e w' => ∃ v, e = .returned v ∧ w'.ownsRow w.heap.size 60 1 v 0 (([] : List Value)) ∧ Below w.heap.size w w' := by
  have h1 : ¬ ((n : Int) < 0) := by omega
  by_cases h0 : n = 0
  · subst h0
    go_enter Tryd.func78, Tryd.ntmps78
    go_wp2
    go_ret
    exact ⟨_, rfl, ⟨rfl, Or.inl ⟨rfl, rfl⟩⟩, Below.refl _ _⟩
  · have hpos : (0 : Int) < (n : Int) := by omega
    have hw2 : IntKind.i64.wrap ((n : Int) - 0) = (n : Int) := by rw [IntKind.wrap_i64]; omega
    go_enter Tryd.func78, Tryd.ntmps78
    go_wp2_with (at_builtin; refine Tryd.append_zerosU rfl _ _ rfl n rfl rfl (by omega) hn ?_)
    intro G w' hG HW HB
    have HW1 : Hid (World.ownsRow w' w.heap.size 60 1 (.slice (some ⟨w.heap.size, 0, none⟩) 0 G) 0 (([] : List Value))) := HW
    clear HW
    have hG0 : G ≠ 0 := by omega
    go_wp2
    go_ret
    exact ⟨.slice (some ⟨w.heap.size, 0, none⟩) 0 G, rfl, HW1.out, HB⟩
/-- A piece: a list of sets, wherever it lies. -/
structure PcU where
  a : Option Addr
  len : Nat
  cap : Nat
  ts : List Nat
def joinU (ps : List PcU) : List Nat := ps.flatMap (·.ts)
def lensU (ps : List PcU) (k : Nat) : Nat := (joinU (ps.take k)).length
theorem joinU_next {ps : List PcU} {k : Nat} (h : k < ps.length) : joinU (ps.take (k + 1)) = joinU (ps.take k) ++ ps[k].ts := by
  unfold joinU; rw [List.take_add_one, List.getElem?_eq_getElem h, List.flatMap_append]; simp
theorem joinU_le (ps : List PcU) (k : Nat) : (joinU (ps.take k)).length ≤ (joinU ps).length := by
  have h : joinU ps = joinU (ps.take k) ++ joinU (ps.drop k) := by
    unfold joinU; rw [← List.flatMap_append, List.take_append_drop]
  rw [h, List.length_append]; omega
theorem Tryd.sizeSUs : (Tryd.prog.info? 22).map (·.size) = some 1 := by kernel_rfl
set_option maxHeartbeats 2000000 in
theorem Tryd.concatU_any (g : Nat) (ps : List PcU) (w : World) (hc : ∀ k (h : k < ps.length), w.cell? ⟨g, k, none⟩ = some (.slice ps[k].a ps[k].len ps[k].cap)) (hg : g < w.heap.size) (hT : ∀ p ∈ ps, USl w p.a p.len p.cap p.ts) (hn : (joinU ps).length ≤ 1000000) (hp : ps.length ≤ 1000) :
    Calls Tryd.prog 67 #[.slice (some ⟨g, 0, none⟩) ps.length ps.length] w fun e w' => ∃ v, e = .returned v ∧ w'.ownsRow w.heap.size 60 1 v (joinU ps).length ((iU (joinU ps)).map (Value.int .u64)) ∧ Below w.heap.size w w' := by
  have hix : ∀ k w', k < ps.length → (Instr.indexAt 120 (.slice (some ⟨g, 0, none⟩) ps.length ps.length) (.int .i64 (k : Nat))).run Tryd.prog w' = .ok (.pointer (some ⟨g, k, none⟩)) w' := fun k w' h => by
    have := idx_of (a := some ⟨g, 0, none⟩) (cap := ps.length) (n := ps.length) Tryd.underlying120 Tryd.sizeSUs (by simp) k w' h
    simpa [adOf, add_plain] using this
  have HC : Hid _ := hc
  have HT : Hid _ := hT
  clear hc hT
  have hgr := fun (n : Nat) (h : n ≤ 1000000) w' => Tryd.grow_nilU n w' h
  obtain ⟨n, hnn⟩ : ∃ n, n = ps.length := ⟨_, rfl⟩
  have HN : Hid (n = ps.length) := hnn
  rw [← hnn] at hp hix ⊢
  clear hnn
  have hbk0 : ∀ k, (joinU (ps.take k)).length ≤ 1000000 := fun k => Nat.le_trans (joinU_le ps k) hn
  go_enter Tryd.func67, Tryd.ntmps67
  go_wp2
  go_loopw [3, 11] (fun s j wr => ∃ k : Nat, k ≤ n ∧ j = .int .i64 k ∧ s = .int .i64 (lensU ps k : Nat) ∧ wr = w) (fun _ j _ => n - (intOf j).toNat)
  case atStart => exact ⟨0, Nat.zero_le _, rfl, by simp [lensU, joinU], rfl⟩
  case round =>
    obtain ⟨k, hk, rfl, rfl, hww⟩ := hrel
    obtain rfl : w = wr := hww.symm
    by_cases hlt : k < n
    · have hkl : k < ps.length := by rw [← HN.out]; exact hlt
      have hi := fun w' => hix k w' hlt
      have hc1 := HC.out k hkl
      have hl := (HT.out ps[k] (List.getElem_mem hkl)).len
      have HLL : Hid _ := hl
      have HS : Hid (lensU ps (k + 1) = lensU ps k + ps[k].len) := by
        show _ = _; unfold lensU; rw [joinU_next hkl, List.length_append, hl]
      have hb1 : lensU ps k + ps[k].len ≤ 1000000 := by rw [← HS.out]; exact hbk0 (k + 1)
      generalize lensU ps k = S at *
      generalize ps[k] = p at *
      obtain ⟨pa, pl, pc, pt⟩ := p
      dsimp only at *
      have hw : IntKind.i64.wrap ((S : Int) + (pl : Int)) = ((S + pl : Nat) : Int) := by rw [IntKind.wrap_i64]; omega
      have hneg : ¬ (((S + pl : Nat) : Int) < 0) := by omega
      clear hix
      go_wp2
      go_roundw
      case rel => exact ⟨k + 1, by omega, by go_num, by rw [HS.out]; simp [HLL.out], trivial⟩
      case measure => simp [intOf]; omega
    · obtain rfl : k = n := by omega
      have hbn := hbk0 k
      have HJ : Hid (joinU (ps.take k) = joinU ps) := by show _ = _; rw [List.take_of_length_le (by rw [HN.out]; exact Nat.le_refl _)]
      have hgn := hgr (lensU ps k) hbn
      generalize lensU ps k = S at *
      clear hix
      have hix : ∀ j w', j < k → (Instr.indexAt 120 (.slice (some ⟨g, 0, none⟩) k k) (.int .i64 (j : Nat))).run Tryd.prog w' = .ok (.pointer (some ⟨g, j, none⟩)) w' := fun j w' h => by
        have := idx_of (a := some ⟨g, 0, none⟩) (cap := k) (n := k) Tryd.underlying120 Tryd.sizeSUs (by simp) j w' h
        simpa [adOf, add_plain] using this
      go_wp2_with fail
      refine (hgn _).mono ?_
      rintro e w1 ⟨v, rfl, hown, hw1⟩
      have HO : Hid (w1.ownsRow w.heap.size 60 1 v 0 (([] : List Value))) := hown
      clear hown
      go_wp2
      go_loopw [6, 27] (fun s j w2 => ∃ m : Nat, m ≤ k ∧ j = .int .i64 m ∧ Hid (w2.ownsRow w.heap.size 60 1 s (joinU (ps.take m)).length ((iU (joinU (ps.take m))).map (Value.int .u64))) ∧ Hid (Below w.heap.size w w2)) (fun _ j _ => k - (intOf j).toNat)
      case atStart => exact ⟨0, Nat.zero_le _, rfl, HO, hw1⟩
      case round =>
        obtain ⟨m, hm, rfl, HO2, hb2⟩ := hrel
        by_cases hltm : m < k
        · have hml : m < ps.length := by rw [← HN.out]; exact hltm
          have hi := fun w' => hix m w' hltm
          have hc1 := (hb2.out.cell hg).trans (HC.out m hml)
          have hTm := (HT.out ps[m] (List.getElem_mem hml)).up hb2.out
          have HS : Hid (joinU (ps.take (m + 1)) = joinU (ps.take m) ++ ps[m].ts) := joinU_next hml
          have hbm := hbk0 m
          have hpm : ps[m].ts.length ≤ 1000000 := by
            have := hbk0 (m + 1); rw [HS.out, List.length_append] at this; omega
          have hlt := World.ownsRow.lt HO2.out
          have hsz := hb2.out.size
          generalize joinU (ps.take m) = J at *
          generalize ps[m] = p at *
          obtain ⟨pa, pl, pc, pt⟩ := p
          dsimp only at *
          clear hix
          go_wp2_with (at_builtin; refine Tryd.append_us rfl _ _ rfl w.heap.size _ J pt pa pl pc rfl rfl HO2.out hTm (by omega) (by omega) (by omega) ?_)
          intro v3 w3 hown3 hgr3
          have HO3 : Hid (w3.ownsRow w.heap.size 60 1 v3 (J ++ pt).length ((iU (J ++ pt)).map (Value.int .u64))) := by show World.ownsRow _ _ _ _ _ _ _; rw [List.length_append]; simpa using hown3
          have hb3 : Hid (Below w.heap.size w w3) := hb2.out.grown hgr3 hsz (fun j e => (hlt j e).1)
          clear hown3 hgr3
          go_wp2
          go_roundw
          case rel => exact ⟨m + 1, by omega, by go_num, by rw [HS.out]; exact HO3, hb3⟩
          case measure => simp [intOf]; omega
        · obtain rfl : m = k := by omega
          have HF : Hid _ := HO2.out
          rw [HJ.out] at HF
          go_wp2
          go_ret
          exact ⟨_, rfl, HF.out, hb2.out⟩
end Go.Proofs.YtnedkpbpeolfoaaDoor
namespace Go.Proofs.YtnedkpbpeolfoaaDoor
open Go.RowKit Go.Maps
set_option maxHeartbeats 2000000 in
theorem Tryd.or_new (a : Option Addr) (n c : Nat) (l : List Nat) (b : Option Addr) (m d : Nat) (k : List Nat) (w : World) (hA : USl w a n c l) (hB : USl w b m d k) (sL : Sm l) (sK : Sm k) (hn : n + m ≤ 1024) :
    Calls Tryd.prog 52 #[.slice a n c, .slice b m d] w (LEN 0 (leastL (l ++ k)) w) := by
  have hl := hA.len
  have hk := hB.len
  have hbn := below_new w (.cells #[.slice a n c, .slice b m d] 22)
  have hrow := (MapKept.heap_alloc w (.cells #[.slice a n c, .slice b m d] 22)).1
  have hj : joinU [⟨a, n, c, l⟩, ⟨b, m, d, k⟩] = l ++ k := by simp [joinU]
  have hcc := Tryd.concatU_any w.heap.size [⟨a, n, c, l⟩, ⟨b, m, d, k⟩] (w.alloc (.cells #[.slice a n c, .slice b m d] 22)) (fun i hi => by
      rw [cell_row hrow i]
      match i, hi with
      | 0, _ => rfl
      | 1, _ => rfl) (by simp) (fun p hp => by
      rcases List.mem_cons.1 hp with rfl | hp
      · exact hA.up hbn
      · rcases List.mem_cons.1 hp with rfl | hp
        · exact hB.up hbn
        · cases hp) (by rw [hj, List.length_append]; omega) (by simp)
  rw [hj] at hcc
  dsimp only [List.length_cons, List.length_nil, Nat.zero_add, Nat.reduceAdd] at hcc
  have HL : Hid (∀ w1 v, w1.ownsRow (w.alloc (.cells #[.slice a n c, .slice b m d] 22)).heap.size 60 1 v (l ++ k).length ((iU (l ++ k)).map (Value.int .u64)) → ∃ q C, v = .slice q (l ++ k).length C ∧ Calls Tryd.prog 60 #[.slice q (l ++ k).length C] w1 (LRN (leastL (l ++ k)) w1)) := fun w1 v ho => by
    obtain ⟨q, C, rfl, hU⟩ := usl_own ho
    exact ⟨q, C, rfl, Tryd.least_new q _ C _ w1 hU (sm_append sL sK) (by rw [List.length_append]; omega)⟩
  have HBN : Hid _ := hbn
  have hw1 : IntKind.i64.wrap ((n : Int) + (m : Int)) = ((n + m : Nat) : Int) := by rw [IntKind.wrap_i64]; omega
  have hg1 : ¬ ((1024 : Int) < ((n + m : Nat) : Int)) := by omega
  have hb1 := hA.bd
  have hb2 := hB.bd
  clear hbn hrow hA hB sL sK hj hl hk
  generalize leastL (l ++ k) = r at *
  generalize l ++ k = lk at *
  go_enter Tryd.func52, Tryd.ntmps52
  go_wp2_with fail
  refine hcc.mono ?_
  rintro e w1 ⟨v, rfl, hown, hb⟩
  obtain ⟨q, C, rfl, hle⟩ := HL.out w1 v hown
  have HB1 : Hid (Below w.heap.size w w1) := below_step HBN.out hb
  clear hown hb hcc HL HBN
  go_wp2_with fail
  refine hle.mono ?_
  rintro e w2 ⟨q2, C2, rfl, hU2, hb2, hf2⟩
  have HU : Hid _ := hU2
  have HB2 : Hid (Below w.heap.size w w2) := below_step HB1.out hb2
  have HFS : Hid (∀ k, k < r.length → w.heap.size ≤ (adOf q2 k).block) := fun k hk => Nat.le_trans HB1.out.size (hf2 k hk)
  clear hU2 hb2 HB1 hle hf2
  go_wp2
  go_ret2
  exact ⟨q2, C2, rfl, HU.out, HB2.out, HFS.out⟩
theorem Tryd.or_no (a : Option Addr) (n c : Nat) (b : Option Addr) (m d : Nat) (w : World) (hn1 : n ≤ 1000000) (hn2 : m ≤ 1000000) (hn : 1024 < n + m) :
    Calls Tryd.prog 52 #[.slice a n c, .slice b m d] w (LE 9 [] w) := by
  have hw1 : IntKind.i64.wrap ((n : Int) + (m : Int)) = ((n + m : Nat) : Int) := by rw [IntKind.wrap_i64]; omega
  have hg1 : (1024 : Int) < ((n + m : Nat) : Int) := by omega
  go_enter Tryd.func52, Tryd.ntmps52
  go_wp2
  go_ret2
  exact ⟨none, 0, rfl, usl_nil, Below.refl _ _⟩
theorem Tryd.many_any (n m : Nat) (w : World) (_hn : n ≤ 1000000) (_hm : m ≤ 1000000) :
    Calls Tryd.prog 59 #[.int .i64 (n : Int), .int .i64 (m : Int)] w fun e w' => e = .returned (.bool (decide (1024 < n * m))) ∧ w' = w := by
  by_cases h0 : n = 0
  · subst h0
    go_enter Tryd.func59, Tryd.ntmps59
    go_wp2
    go_ret
    exact ⟨by simp, rfl⟩
  · have hpos : (0 : Int) < (n : Int) := by omega
    have hne : ¬ ((n : Int) = 0) := by omega
    have hq : IntKind.i64.wrap ((1024 : Int).tdiv (n : Int)) = ((1024 / n : Nat) : Int) := by
      have : (1024 : Int).tdiv (n : Int) = ((1024 / n : Nat) : Int) := rfl
      rw [this, IntKind.wrap_i64]
      have h2 := Nat.div_le_self 1024 n
      generalize 1024 / n = q at *
      omega
    have HD : Hid (decide (1024 / n < m) = decide (1024 < n * m)) := by
      show _ = _
      have h1 : 1024 / n < m ↔ 1024 < n * m := by rw [Nat.div_lt_iff_lt_mul (by omega), Nat.mul_comm]
      by_cases h : 1024 < n * m
      · rw [decide_eq_true h, decide_eq_true (h1.2 h)]
      · rw [decide_eq_false h, decide_eq_false fun k => h (h1.1 k)]
    generalize 1024 / n = q at *
    go_enter Tryd.func59, Tryd.ntmps59
    go_wp2
    go_ret
    exact ⟨by rw [← HD.out]; rfl, rfl⟩
theorem uni_len2 (l k : List Nat) (i j : Nat) (x : Nat) (hi : i < l.length) (hj : j ≤ k.length) : (uniL (l.take i) k ++ (k.take j).map fun y => x ||| y).length ≤ l.length * k.length := by
  rw [List.length_append, uniL_length, List.length_map, List.length_take, List.length_take, Nat.min_eq_left (by omega), Nat.min_eq_left hj]
  have : (i + 1) * k.length ≤ l.length * k.length := Nat.mul_le_mul_right _ hi
  rw [Nat.succ_mul] at this
  omega
theorem usl_get {w : World} {a : Option Addr} {n c : Nat} {l : List Nat} (h : USl w a n c l) {k : Nat} (hk : k < n) : w.cell? (adOf a k) = some (.int .u64 ((l.getD k 0 : Nat) : Int)) := by
  rw [h.cell k hk]
  congr 2
  simp only [List.getD_eq_getElem?_getD, iU, List.getElem?_map]
  cases l[k]? <;> rfl
theorem sm_get {l : List Nat} (h : Sm l) {k : Nat} (hk : k < l.length) : l.getD k 0 < 18446744073709551616 := by
  rw [List.getD_eq_getElem?_getD, List.getElem?_eq_getElem hk]
  exact h _ (List.getElem_mem hk)
set_option maxRecDepth 100000 in
set_option maxHeartbeats 4000000 in
theorem Tryd.and_new (a : Option Addr) (n c : Nat) (l : List Nat) (b : Option Addr) (m d : Nat) (k : List Nat) (w : World) (hA : USl w a n c l) (hB : USl w b m d k) (sL : Sm l) (sK : Sm k) (hn : n * m ≤ 1024) (hn1 : n ≤ 2000) (hm1 : m ≤ 2000) :
    Calls Tryd.prog 49 #[.slice a n c, .slice b m d] w (LEN 0 (leastL (uniL l k)) w) := by
  have hl := hA.len
  have hk := hB.len
  have hmany := Tryd.many_any n m w (by omega) (by omega)
  rw [decide_eq_false (by omega : ¬ (1024 < n * m))] at hmany
  have HL : Hid (∀ w1 v, w1.ownsRow w.heap.size 60 1 v (uniL l k).length ((iU (uniL l k)).map (Value.int .u64)) → ∃ q C, v = .slice q (uniL l k).length C ∧ Calls Tryd.prog 60 #[.slice q (uniL l k).length C] w1 (LRN (leastL (uniL l k)) w1)) := fun w1 v ho => by
    obtain ⟨q, C, rfl, hU⟩ := usl_own ho
    exact ⟨q, C, rfl, Tryd.least_new q _ C _ w1 hU (sm_uni sL sK) (by rw [uniL_length, ← hl, ← hk]; omega)⟩
  have HLT : Hid (uniL (l.take n) k = uniL l k) := by show _ = _; rw [List.take_of_length_le (by omega)]
  have HN : Hid (∀ i, i < n → uniL (l.take (i + 1)) k = uniL (l.take i) k ++ (k.take m).map fun y => l.getD i 0 ||| y) := fun i hi => by
    rw [uni_next (by omega), List.take_of_length_le (l := k) (by omega)]
  have HM : Hid (∀ x j, j < m → ((k.take (j + 1)).map fun y => x ||| y) = ((k.take j).map fun y => x ||| y) ++ [x ||| k.getD j 0]) := fun x j hj => map_next (by omega)
  have HW : Hid (∀ i j x, i < n → j ≤ m → (uniL (l.take i) k ++ (k.take j).map fun y => x ||| y).length ≤ 1024) := fun i j x hi hj => by
    have := uni_len2 l k i j x (by omega) (by omega)
    rw [← hl, ← hk] at this
    omega
  have HCA : Hid (∀ i, i < n → ∀ wr, Below w.heap.size w wr → wr.cell? (adOf a i) = some (.int .u64 ((l.getD i 0 : Nat) : Int))) := fun i hi wr hb => usl_get (hA.up hb) hi
  have HCB : Hid (∀ i, i < m → ∀ wr, Below w.heap.size w wr → wr.cell? (adOf b i) = some (.int .u64 ((k.getD i 0 : Nat) : Int))) := fun i hi wr hb => usl_get (hB.up hb) hi
  have HO : Hid (∀ i j, i < n → j < m → bits .or .u64 ((l.getD i 0 : Nat) : Int) ((k.getD j 0 : Nat) : Int) = ((l.getD i 0 ||| k.getD j 0 : Nat) : Int)) := fun i j hi hj => u64_or_nat _ _ (sm_get sL (by omega)) (sm_get sK (by omega))
  have hidA := fun (i : Nat) (w : World) (h : i < n) => hA.idx n i w h (Nat.le_refl _)
  have hidB := fun (i : Nat) (w : World) (h : i < m) => hB.idx m i w h (Nat.le_refl _)
  clear hA hB sL sK hl hk hn
  go_enter Tryd.func49, Tryd.ntmps49
  go_wp2_with fail
  refine hmany.mono ?_
  rintro e w0 ⟨rfl, hw0⟩
  obtain rfl : w = w0 := hw0.symm
  clear hmany
  go_wp2
  go_loopw [6, 18] (fun v i wr => ∃ p : Nat, p ≤ n ∧ i = .int .i64 (p : Int) ∧ Hid (wr.ownsRow w.heap.size 60 1 v (uniL (l.take p) k).length ((iU (uniL (l.take p) k)).map (Value.int .u64))) ∧ Hid (Below w.heap.size w wr)) (fun _ i _ => n - (intOf i).toNat)
  case atStart => exact ⟨0, Nat.zero_le _, rfl, ⟨rfl, Or.inl ⟨rfl, rfl⟩⟩, Below.refl _ _⟩
  case round =>
    obtain ⟨p, hp, rfl, HV, HB⟩ := hrel
    by_cases hlt : p < n
    · have hc := HCA.out p hlt wr HB.out
      have hx := fun w' => hidA p w' hlt
      have HNp : Hid _ := HN.out p hlt
      have HWp : Hid (∀ j x, j ≤ m → (uniL (l.take p) k ++ (k.take j).map fun y => x ||| y).length ≤ 1024) := fun j x hj => HW.out p j x hlt hj
      have HOp : Hid (∀ j, j < m → bits .or .u64 ((l.getD p 0 : Nat) : Int) ((k.getD j 0 : Nat) : Int) = ((l.getD p 0 ||| k.getD j 0 : Nat) : Int)) := fun j hj => HO.out p j hlt hj
      have HMp : Hid (∀ j, j < m → ((k.take (j + 1)).map fun y => l.getD p 0 ||| y) = ((k.take j).map fun y => l.getD p 0 ||| y) ++ [l.getD p 0 ||| k.getD j 0]) := fun j hj => HM.out _ j hj
      clear hidA HCA HN HW HO HM HL HLT
      generalize l.getD p 0 = x at *
      generalize hU : uniL (l.take p) k = U at *
      clear hU
      go_wp2
      clear hc hx
      go_loopw [6, 24] (fun v i w3 => ∃ j : Nat, j ≤ m ∧ i = .int .i64 (j : Int) ∧ Hid (w3.ownsRow w.heap.size 60 1 v (U ++ (k.take j).map fun y => x ||| y).length ((iU (U ++ (k.take j).map fun y => x ||| y)).map (Value.int .u64))) ∧ Hid (Below w.heap.size w w3)) (fun _ i _ => m - (intOf i).toNat)
      case atStart => exact ⟨0, Nat.zero_le _, rfl, by show World.ownsRow _ _ _ _ _ _ _; simpa using HV.out, HB⟩
      case round =>
        clear HV HB
        obtain ⟨j, hj, rfl, HV, HB⟩ := hrel
        by_cases hltj : j < m
        · have hc := HCB.out j hltj _ HB.out
          have hx := fun w' => hidB j w' hltj
          have hor := HOp.out j hltj
          have HMj : Hid _ := HMp.out j hltj
          have hbd := HWp.out j x (by omega)
          obtain ⟨va, vc, rfl⟩ := own_slU HV.out
          clear HWp HOp HMp HCB hidB HNp
          generalize k.getD j 0 = y at *
          generalize hR : (U ++ (k.take j).map fun y => x ||| y) = R at *
          have HRE : Hid (U ++ (k.take (j + 1)).map (fun y => x ||| y) = R ++ [x ||| y]) := by show _ = _; rw [HMj.out, ← List.append_assoc, hR]
          clear HMj hR
          generalize x ||| y = z at *
          have HOA : Hid ((wr.alloc (.cells #[.int .u64 (z : Int)] 60)).ownsRow w.heap.size 60 1 (.slice va R.length vc) R.length ((iU R).map (Value.int .u64))) := World.ownsRow.alloc HV.out _
          have HCA : Hid ((wr.alloc (.cells #[.int .u64 (z : Int)] 60)).cell? ⟨wr.heap.size, 0, none⟩ = some (.int .u64 (z : Int))) := cell_row (MapKept.heap_alloc wr _).1 0
          have HWA : Hid (Below w.heap.size w (wr.alloc (.cells #[.int .u64 (z : Int)] 60))) := HB.out.alloc HB.out.size _
          have hszA : w.heap.size ≤ (wr.alloc (.cells #[.int .u64 (z : Int)] 60)).heap.size := HWA.out.size
          have HGE : Hid (∀ q, (Value.slice va R.length vc).ownBlock = some q → w.heap.size ≤ q) := own_ge HV.out
          clear HV HB
          go_wp2_with (at_builtin; refine Tryd.append_u rfl _ _ rfl w.heap.size _ R.length (iU R) rfl HOA.out wr.heap.size (z : Int) rfl HCA.out (by omega) hszA ?_)
          intro v7 w7 hown7 hgr7
          have HO7 : Hid (w7.ownsRow w.heap.size 60 1 v7 (R.length + 1) ((iU R ++ [(z : Int)]).map (Value.int .u64))) := by show World.ownsRow _ _ _ _ _ _ _; simpa using hown7
          have HW7 : Hid (Below w.heap.size w w7) := HWA.out.grown hgr7 hszA (fun q e => HGE.out q e)
          clear hown7 hgr7 HOA HCA HWA hszA HGE
          go_wp2
          go_roundw
          case rel =>
            refine ⟨j + 1, by omega, by go_num, ?_, HW7⟩
            show World.ownsRow _ _ _ _ _ _ _
            rw [HRE.out, List.length_append, iU_snoc]
            exact HO7.out
          case measure => simp [intOf]; omega
        · obtain rfl : j = m := by omega
          clear HWp HOp HMp HCB hidB
          go_wp2
          go_roundw
          case rel =>
            refine ⟨p + 1, by omega, by go_num, ?_, HB⟩
            show World.ownsRow _ _ _ _ _ _ _
            rw [HNp.out]
            exact HV.out
          case measure => simp [intOf]; omega
    · obtain rfl : p = n := by omega
      have HV2 : Hid _ := HV.out
      rw [HLT.out] at HV2
      obtain ⟨q, C, rfl, hle⟩ := HL.out wr _ HV2.out
      clear HV HV2 HN HM HW HCA HCB HO HL HLT hidA hidB
      generalize leastL (uniL l k) = r at *
      generalize (uniL l k).length = N at *
      go_wp2_with fail
      refine hle.mono ?_
      rintro e w2 ⟨q2, C2, rfl, hU2, hb2, hf2⟩
      have HU : Hid _ := hU2
      have HB2 : Hid (Below w.heap.size w w2) := below_step HB.out hb2
      have HFS : Hid (∀ k, k < r.length → w.heap.size ≤ (adOf q2 k).block) := fun k hk => Nat.le_trans HB.out.size (hf2 k hk)
      clear hU2 hb2 hle hf2
      go_wp2
      go_ret2
      exact ⟨q2, C2, rfl, HU.out, HB2.out, HFS.out⟩
theorem Tryd.and_no (a : Option Addr) (n c : Nat) (b : Option Addr) (m d : Nat) (w : World) (hn1 : n ≤ 2000) (hm1 : m ≤ 2000) (hn : 1024 < n * m) :
    Calls Tryd.prog 49 #[.slice a n c, .slice b m d] w (LE 9 [] w) := by
  have hmany := Tryd.many_any n m w (by omega) (by omega)
  rw [decide_eq_true hn] at hmany
  clear hn
  go_enter Tryd.func49, Tryd.ntmps49
  go_wp2_with fail
  refine hmany.mono ?_
  rintro e w0 ⟨rfl, hw0⟩
  obtain rfl : w = w0 := hw0.symm
  clear hmany
  go_wp2
  go_ret2
  exact ⟨none, 0, rfl, usl_nil, Below.refl _ _⟩
end Go.Proofs.YtnedkpbpeolfoaaDoor
namespace Go.Proofs.YtnedkpbpeolfoaaDoor
/-- The numbers in a set, rising. -/
def itemsL (s : Nat) : List Nat := (List.range 64).filter fun i => s.testBit i
theorem itemsL_mem {s i : Nat} : i ∈ itemsL s ↔ i < 64 ∧ s.testBit i = true := by
  unfold itemsL; rw [List.mem_filter, List.mem_range]
theorem itemsL_up (s : Nat) : (itemsL s).Pairwise (· < ·) := List.pairwise_lt_range.filter _
theorem itemsL_zero : itemsL 0 = [] := by
  unfold itemsL
  rw [List.filter_eq_nil_iff]
  intro i _
  rw [Nat.zero_testBit]; simp
theorem itemsL_len (s : Nat) : (itemsL s).length ≤ 64 := by
  unfold itemsL
  exact Nat.le_trans (List.length_filter_le _ _) (by simp)
/-- The least number of a set. -/
theorem low_bits (x : Nat) (h0 : x ≠ 0) (h : x < 2 ^ 64) : Lib.ctz 64 x < 64 ∧ x.testBit (Lib.ctz 64 x) = true ∧ ∀ i, i < Lib.ctz 64 x → x.testBit i = false := by
  obtain ⟨m, hm, hk⟩ := Lib.ctzFrom_spec 64 x (by omega) h
  have e : Lib.ctz 64 x = Lib.ctzFrom 64 x := by simp [Lib.ctz, h0]
  rw [e]
  generalize Lib.ctzFrom 64 x = k at *
  refine ⟨hk, ?_, fun i hi => ?_⟩
  · rw [hm, Nat.mul_comm, Nat.testBit_mul_two_pow]
    simp [Nat.testBit_zero]
  · rw [hm, Nat.mul_comm, Nat.testBit_mul_two_pow]
    simp; omega
/-- The set without one number. -/
def dropB (x k : Nat) : Nat := x &&& (18446744073709551615 - 2 ^ k)
theorem dropB_bit {x k i : Nat} (hk : k < 64) : (dropB x k).testBit i = (x.testBit i && (decide (i < 64) && !decide (k = i))) := by
  unfold dropB
  have hb := Nat.testBit_two_pow_sub_succ (n := 64) (x := 2 ^ k) (Nat.pow_lt_pow_right (by decide) hk) i
  rw [show 2 ^ 64 - (2 ^ k + 1) = 18446744073709551615 - 2 ^ k by omega] at hb
  rw [Nat.testBit_and, hb, Nat.testBit_two_pow]
theorem dropB_le (x k : Nat) : dropB x k ≤ x := Nat.and_le_left
theorem dropB_lt {x k : Nat} (hk : k < 64) (h : x.testBit k = true) : dropB x k < x := by
  refine Nat.lt_of_le_of_ne (dropB_le x k) fun e => ?_
  have := dropB_bit (x := x) (k := k) (i := k) hk
  rw [e, h] at this
  simp at this
theorem items_step {x : Nat} (h0 : x ≠ 0) (h : x < 2 ^ 64) : itemsL x = Lib.ctz 64 x :: itemsL (dropB x (Lib.ctz 64 x)) := by
  obtain ⟨hk, hb, hl⟩ := low_bits x h0 h
  generalize Lib.ctz 64 x = k at *
  refine rising_ext (itemsL_up x) (List.pairwise_cons.2 ⟨fun i hi => ?_, itemsL_up _⟩) fun i => ?_
  · obtain ⟨h1, h2⟩ := itemsL_mem.1 hi
    rw [dropB_bit hk] at h2
    simp at h2
    have h3 : ¬ i < k := fun hlt => by rw [hl i hlt] at h2; simp at h2
    omega
  · rw [List.mem_cons, itemsL_mem, itemsL_mem, dropB_bit hk]
    constructor
    · rintro ⟨h1, h2⟩
      by_cases e : i = k
      · exact Or.inl e
      · refine Or.inr ⟨h1, ?_⟩
        rw [h2, decide_eq_true h1, decide_eq_false (by omega)]; rfl
    · rintro (rfl | ⟨h1, h2⟩)
      · exact ⟨hk, hb⟩
      · exact ⟨h1, by rw [Bool.and_eq_true] at h2; exact h2.1⟩
end Go.Proofs.YtnedkpbpeolfoaaDoor
namespace Go.Proofs.YtnedkpbpeolfoaaDoor
open Go.RowKit Go.Maps
/-- The table of math/bits, in its variable. -/
def Tab64 (w : World) : Prop := ∀ j, j < 64 → w.cell? ⟨0, j, none⟩ = some (.int .u8 ((Lib.deBruijn64tab.getD j 0 : Nat) : Int))
theorem Tab64.up {w w' : World} (h : Tab64 w) (hb : Below w.heap.size w w') : Tab64 w' := fun j hj => kept_cell (h j hj) hb
theorem Tryd.tz_core (x k idx : Nat) (w : World) (hx0 : ((x : Int) == 0) = false)
    (key : IntKind.u64.wrap (bits BinOp.and IntKind.u64 (x : Int) (IntKind.u64.wrap (-(x : Int))) * 285870213051353865) / 288230376151711744 = (idx : Int))
    (hi : idx < 64) (hk : k < 64) (hcell : w.cell? ⟨0, idx, none⟩ = some (.int .u8 (k : Int))) :
    Calls Tryd.prog 47 #[.int .u64 (x : Int)] w fun e w' => e = .returned (.int .i64 (k : Int)) ∧ w' = w := by
  go_enter Tryd.func47, Tryd.ntmps47
  go_wp2_with (simp only [key])
  go_ret
  exact ⟨rfl, rfl⟩
theorem tz_key (x a : Nat) (hx : x < 18446744073709551616) (hx0 : x ≠ 0) (hlow : x &&& (18446744073709551616 - x) = a) :
    IntKind.u64.wrap (bits BinOp.and IntKind.u64 (x : Int) (IntKind.u64.wrap (-(x : Int))) * 285870213051353865) / 288230376151711744 = ((a * 285870213051353865 % 18446744073709551616 / 288230376151711744 : Nat) : Int) := by
  have e1 : IntKind.u64.wrap (-(x : Int)) = ((18446744073709551616 - x : Nat) : Int) := by rw [IntKind.wrap_u64]; omega
  rw [e1, u64_and_nat x _ hx (by omega), hlow, IntKind.wrap_u64]
  omega
theorem Tryd.tz_any (x : Nat) (hx : x < 2 ^ 64) (hx0 : x ≠ 0) (w : World) (hT : Tab64 w) :
    Calls Tryd.prog 47 #[.int .u64 (x : Int)] w fun e w' => e = .returned (.int .i64 ((Lib.ctz 64 x : Nat) : Int)) ∧ w' = w := by
  obtain ⟨hlow, hk⟩ := Lib.lowest_bit 64 x hx0 hx
  obtain ⟨hi, htab⟩ := Lib.deBruijn64_at _ hk
  have hcell := hT _ hi
  rw [htab] at hcell
  exact Tryd.tz_core x _ _ w (by simp; omega) (tz_key x _ hx hx0 hlow) hi hk hcell
theorem Tryd.infoI64 : (Tryd.prog.info? 3).map (fun i => (i.zero, i.size, i.bytes)) = some (some (.int .i64 0), 1, 8) := by kernel_rfl
theorem Tryd.sizeI64 : (Tryd.prog.info? 3).map (·.size) = some 1 := by kernel_rfl
/-- One number more behind a list of the call's own. -/
theorem Tryd.append_i {w : World} {ops : Array Oper} {rest : List Oper} {o : Oper} {a : Act} {Q : Exit → Act → World → Prop} (hgd : o.guard = none) (s x : Operand)
    (ho : o.op = .call { callee := .builtin .append, args := #[s, x], argTypes := #[31, 31] }) (base : Nat)
    (v : Value) (n : Nat) (zs : List Int) (hs : a.eval s = v) (hown : w.ownsRow base 3 1 v n (zs.map (Value.int .i64))) (g' : Nat) (z : Int) (hx : a.eval x = .slice (some ⟨g', 0, none⟩) 1 1) (hc : w.cell? ⟨g', 0, none⟩ = some (.int .i64 z))
    (hn : n + 1 ≤ 2000000) (hbase : base ≤ w.heap.size)
    (h : ∀ v' w', w'.ownsRow base 3 1 v' (n + 1) ((zs ++ [z]).map (Value.int .i64)) → w.grownBy w' v.ownBlock → wpList Tryd.prog ops Q rest (a.put o.dst v') w') : wpList Tryd.prog ops Q (o :: rest) a w := by
  obtain ⟨i, hi, hz0, hz1, hz2⟩ := info_parts Tryd.infoI64
  refine wpList_append_own w hgd s x 31 ho base 3 i _ 1 8 Tryd.underlying31 hi hz0 hz1 hz2 rfl (by decide) v n _ hs hown ⟨g', 0, none⟩ 1 1 [.int .i64 z] hx rfl ?_ (fun u hu => by simp at hu; subst hu; rfl) (by unfold maxLen; omega) (by omega) hbase ?_
  · intro j u hj
    match j with
    | 0 => simp at hj; rw [← hj, add_plain]; exact hc
    | j + 1 => simp at hj
  · intro v' w' h1 h2 _
    exact h v' w' (by rw [List.map_append]; exact h1) h2
/-- A list of numbers. -/
abbrev ISl (w : World) (a : Option Addr) (len cap : Nat) (l : List Nat) : Prop := IntSl Tryd.prog 31 .i64 w a len cap (iU l)
theorem ownN_sl {w : World} {base n : Nat} {v : Value} {l : List Nat} (h : w.ownsRow base 3 1 v n ((iU l).map (Value.int .i64))) : ∃ a cap, v = .slice a n cap ∧ ISl w a n cap l := by
  obtain ⟨hl, h⟩ := h
  simp at hl
  rcases h with ⟨rfl, rfl⟩ | ⟨g, cap, cur, rfl, hg, hcell, hnc, hcm, hsz, htk⟩
  · have : l = [] := List.eq_nil_of_length_eq_zero hl
    subst this
    exact ⟨none, 0, rfl, ⟨rfl, Nat.le_refl _, Nat.zero_le _, fun m k w hk hm => absurd hk (by omega), fun k hk => absurd hk (by omega), fun k hk => absurd hk (by omega), fun _ => rfl⟩⟩
  · have had : ∀ k, adOf (some ⟨g, 0, none⟩) k = ⟨g, k, none⟩ := fun k => by simp [adOf, add_plain]
    have hlt : g < w.heap.size := (Array.getElem?_eq_some_iff.1 hcell).1
    refine ⟨some ⟨g, 0, none⟩, cap, rfl, ⟨by simpa using hl, hnc, hcm, fun m k w hk hm => idx_of Tryd.underlying31 Tryd.sizeI64 (by simp) k w hk, fun k hk => ?_, fun k hk => by rw [had]; exact hlt, by simp⟩⟩
    rw [had]
    have hk2 : (cur.toList.take (n * 1))[k]? = some (.int .i64 ((iU l).getD k 0)) := by
      rw [htk]; simp [List.getD_eq_getElem?_getD, List.getElem?_eq_getElem (show k < l.length by omega)]
    rw [List.getElem?_take, if_pos (by omega)] at hk2
    simp [World.cell?, hcell]
    simpa using hk2
end Go.Proofs.YtnedkpbpeolfoaaDoor
namespace Go.Proofs.YtnedkpbpeolfoaaDoor
/-- A token: its Op, its P. -/
abbrev Tk := Nat × Nat
/-- A part: is it a path, is it plain, how deep it is, where its block begins. -/
structure Pt where
  path : Bool
  plain : Bool
  dep : Nat
  frm : Nat
/-- How many parts a token takes; none: there is no such token. -/
def takesN (t : Tk) : Option Nat :=
  if 23 < t.1 ∨ (t.1 ≠ 2 ∧ t.2 ≠ 0) ∨ (t.1 = 2 ∧ 7 < t.2) then none
  else if t.1 ≤ 5 then some 0
  else if t.1 ≤ 10 ∨ t.1 = 19 ∨ t.1 = 20 ∨ t.1 = 23 then some 1
  else some 2
theorem takesN_le {t : Tk} {n : Nat} (h : takesN t = some n) : n ≤ 2 := by
  unfold takesN at h
  split at h
  · cases h
  · split at h
    · cases h; decide
    · split at h <;> (cases h; decide)
def isPathB (op : Nat) : Bool := decide (19 ≤ op)
def plainB (op : Nat) : Bool := decide (op ≤ 2) || decide (op = 6) || (decide (11 ≤ op) && decide (op ≤ 14))
/-- May a token take these parts? -/
def fitsP (op : Nat) (a : List Pt) : Bool :=
  if op = 17 ∨ op = 18 then (match a with | [x, y] => x.path && !y.path | _ => false)
  else if op = 19 then (match a with | [x] => !x.path && x.plain | _ => false)
  else if op = 21 ∨ op = 22 then (match a with | [x, y] => x.path && y.path | _ => false)
  else if op = 23 then (match a with | [x] => x.path | _ => false)
  else a.all fun x => !x.path
/-- The part that a token puts. -/
def putP (t : Tk) (a : List Pt) (i : Nat) : Pt :=
  ⟨isPathB t.1, plainB t.1 && a.all (·.plain), a.foldl (fun d x => max d (x.dep + 1)) 1, match a with | [] => i | x :: _ => x.frm⟩
/-- Of each token its part, and what is on the stack in the end. -/
def readP : List Tk → Nat → List Pt → Option (List Pt × List Pt)
  | [], _, st => some ([], st)
  | t :: r, i, st =>
    match takesN t with
    | none => none
    | some n =>
      if st.length < n then none
      else if fitsP t.1 (st.drop (st.length - n)) then
        (readP r (i + 1) (st.take (st.length - n) ++ [putP t (st.drop (st.length - n)) i])).map fun x => (putP t (st.drop (st.length - n)) i :: x.1, x.2)
      else none
inductive Tr where
  | leaf (t : Tk) : Tr
  | un (t : Tk) (c : Tr) : Tr
  | bin (t : Tk) (c d : Tr) : Tr
namespace Tr
def flat : Tr → List Tk
  | leaf t => [t]
  | un t c => c.flat ++ [t]
  | bin t c d => c.flat ++ d.flat ++ [t]
def size : Tr → Nat
  | leaf _ => 1
  | un _ c => c.size + 1
  | bin _ c d => c.size + d.size + 1
def part : Tr → Nat → Pt
  | leaf t, o => putP t [] o
  | un t c, o => putP t [c.part o] (o + c.size)
  | bin t c d, o => putP t [c.part o, d.part (o + c.size)] (o + c.size + d.size)
def parts : Tr → Nat → List Pt
  | leaf t, o => [putP t [] o]
  | un t c, o => c.parts o ++ [putP t [c.part o] (o + c.size)]
  | bin t c d, o => c.parts o ++ d.parts (o + c.size) ++ [putP t [c.part o, d.part (o + c.size)] (o + c.size + d.size)]
def WF : Tr → Prop
  | leaf t => takesN t = some 0 ∧ fitsP t.1 [] = true
  | un t c => takesN t = some 1 ∧ fitsP t.1 [c.part 0] = true ∧ c.WF
  | bin t c d => takesN t = some 2 ∧ fitsP t.1 [c.part 0, d.part 0] = true ∧ c.WF ∧ d.WF
end Tr
theorem flat_len : ∀ t : Tr, t.flat.length = t.size
  | .leaf _ => rfl
  | .un _ c => by simp [Tr.flat, Tr.size, flat_len c]
  | .bin _ c d => by simp [Tr.flat, Tr.size, flat_len c, flat_len d]; omega
theorem size_pos : ∀ t : Tr, 0 < t.size
  | .leaf _ => Nat.one_pos
  | .un _ _ => Nat.succ_pos _
  | .bin _ _ _ => Nat.succ_pos _
theorem part_shift : ∀ (t : Tr) (o : Nat), (t.part o).path = (t.part 0).path ∧ (t.part o).plain = (t.part 0).plain ∧ (t.part o).dep = (t.part 0).dep
  | .leaf _, _ => ⟨rfl, rfl, rfl⟩
  | .un t c, o => by
    have h := part_shift c o
    simp [Tr.part, putP, h.2.1, h.2.2]
  | .bin t c d, o => by
    have h := part_shift c o
    have h2 := part_shift d (o + c.size)
    have h3 := part_shift d (0 + c.size)
    simp [Tr.part, putP, h.2.1, h.2.2, h2.2.1, h2.2.2]
    simp at h3
    simp [h3.2.1, h3.2.2]
theorem fits_same {op : Nat} {a b : List Pt} (h : a.map (fun x => (x.path, x.plain)) = b.map (fun x => (x.path, x.plain))) : fitsP op a = fitsP op b := by
  have hl : a.length = b.length := by simpa using congrArg List.length h
  match a, b, hl with
  | [], [], _ => rfl
  | [x], [y], _ => simp at h; simp [fitsP, h.1, h.2]
  | [x, x'], [y, y'], _ => simp at h; simp [fitsP, h.1.1, h.2.1]
  | x :: x' :: x'' :: r, y :: y' :: y'' :: r', _ =>
    unfold fitsP
    split
    · rfl
    · split
      · rfl
      · split
        · rfl
        · split
          · rfl
          · have : ∀ l : List Pt, l.all (fun x => !x.path) = (l.map (fun x => (x.path, x.plain))).all (fun q => !q.1) := fun l => by simp [List.all_map, Function.comp_def]
            rw [this, this, h]
theorem fits_un {t : Tk} {c : Tr} (o : Nat) : fitsP t.1 [c.part o] = fitsP t.1 [c.part 0] := fits_same (by simp [(part_shift c o).1, (part_shift c o).2.1])
theorem fits_bin {t : Tk} {c d : Tr} (o o' : Nat) : fitsP t.1 [c.part o, d.part o'] = fitsP t.1 [c.part 0, d.part 0] := fits_same (by simp [(part_shift c o).1, (part_shift c o).2.1, (part_shift d o').1, (part_shift d o').2.1])
theorem drop_snoc (st : List Pt) (x : Pt) : (st ++ [x]).drop ((st ++ [x]).length - 1) = [x] := by
  rw [List.length_append]; simp
theorem take_snoc1 (st : List Pt) (x : Pt) : (st ++ [x]).take ((st ++ [x]).length - 1) = st := by
  rw [List.length_append]; simp
theorem drop_snoc2 (st : List Pt) (x y : Pt) : (st ++ [x] ++ [y]).drop ((st ++ [x] ++ [y]).length - 2) = [x, y] := by
  have : (st ++ [x] ++ [y]).length - 2 = st.length := by simp
  rw [this, List.append_assoc, List.drop_left]; rfl
theorem take_snoc2 (st : List Pt) (x y : Pt) : (st ++ [x] ++ [y]).take ((st ++ [x] ++ [y]).length - 2) = st := by
  have : (st ++ [x] ++ [y]).length - 2 = st.length := by simp
  rw [this, List.append_assoc, List.take_left]
/-- A tree's tokens put its part, from whatever stack. -/
theorem read_flat : ∀ (t : Tr), t.WF → ∀ (r : List Tk) (i : Nat) (st : List Pt), readP (t.flat ++ r) i st = (readP r (i + t.size) (st ++ [t.part i])).map fun x => (t.parts i ++ x.1, x.2)
  | .leaf t, h, r, i, st => by
    show readP (t :: r) i st = _
    rw [readP, h.1]
    have hd : st.drop (st.length - 0) = [] := by simp
    have ht : st.take (st.length - 0) = st := by simp
    simp only [hd, ht, h.2, if_true]
    rw [if_neg (by omega)]
    rfl
  | .un t c, h, r, i, st => by
    show readP (c.flat ++ [t] ++ r) i st = _
    rw [List.append_assoc, read_flat c h.2.2]
    show Option.map _ (readP (t :: r) _ _) = _
    rw [readP, h.1]
    simp only [drop_snoc, take_snoc1]
    rw [if_neg (by simp), fits_un, if_pos h.2.1, Option.map_map]
    simp only [Tr.size, Tr.part, Tr.parts, Nat.add_assoc]
    congr 1
    funext x
    simp
  | .bin t c d, h, r, i, st => by
    show readP (c.flat ++ d.flat ++ [t] ++ r) i st = _
    rw [List.append_assoc, List.append_assoc, read_flat c h.2.2.1, read_flat d h.2.2.2]
    show Option.map _ (Option.map _ (readP (t :: r) _ _)) = _
    rw [readP, h.1]
    simp only [drop_snoc2, take_snoc2]
    rw [if_neg (by simp), fits_bin, if_pos h.2.1, Option.map_map, Option.map_map]
    simp only [Tr.size, Tr.part, Tr.parts, Nat.add_assoc]
    congr 1
    funext x
    simp
end Go.Proofs.YtnedkpbpeolfoaaDoor
namespace Go.Proofs.YtnedkpbpeolfoaaDoor
def stk : List Tr → Nat → List Pt
  | [], _ => []
  | t :: r, o => t.part o :: stk r (o + t.size)
def flatA (ts : List Tr) : List Tk := ts.flatMap Tr.flat
def sizeA : List Tr → Nat
  | [] => 0
  | t :: r => t.size + sizeA r
def partsA : List Tr → Nat → List Pt
  | [], _ => []
  | t :: r, o => t.parts o ++ partsA r (o + t.size)
theorem sizeA_append : ∀ (xs ys : List Tr), sizeA (xs ++ ys) = sizeA xs + sizeA ys
  | [], ys => by simp [sizeA]
  | t :: r, ys => by simp only [List.cons_append, sizeA, sizeA_append r ys]; omega
theorem stk_append : ∀ (xs ys : List Tr) (o : Nat), stk (xs ++ ys) o = stk xs o ++ stk ys (o + sizeA xs)
  | [], ys, o => by simp [stk, sizeA]
  | t :: r, ys, o => by simp only [List.cons_append, stk, stk_append r ys, sizeA, Nat.add_assoc]
theorem partsA_append : ∀ (xs ys : List Tr) (o : Nat), partsA (xs ++ ys) o = partsA xs o ++ partsA ys (o + sizeA xs)
  | [], ys, o => by simp [partsA, sizeA]
  | t :: r, ys, o => by simp only [List.cons_append, partsA, partsA_append r ys, sizeA, Nat.add_assoc, List.append_assoc]
theorem stk_len : ∀ (xs : List Tr) (o : Nat), (stk xs o).length = xs.length
  | [], _ => rfl
  | t :: r, o => by simp [stk, stk_len r]
theorem flatA_append (xs ys : List Tr) : flatA (xs ++ ys) = flatA xs ++ flatA ys := by simp [flatA]
/-- What is on the stack is trees, side by side. -/
theorem read_trees : ∀ (l : List Tk) (ts : List Tr) (all s : List Pt), (∀ t ∈ ts, t.WF) → readP l (sizeA ts) (stk ts 0) = some (all, s) →
    ∃ ts' : List Tr, (∀ t ∈ ts', t.WF) ∧ flatA ts' = flatA ts ++ l ∧ s = stk ts' 0 ∧ partsA ts' 0 = partsA ts 0 ++ all := by
  intro l
  induction l with
  | nil =>
    intro ts all s hw h
    unfold readP at h
    injection h with h
    injection h with h1 h2
    subst h1 h2
    exact ⟨ts, hw, by simp, rfl, by simp⟩
  | cons t r ih =>
    intro ts all s hw h
    rw [readP] at h
    cases ht : takesN t with
    | none => rw [ht] at h; cases h
    | some n =>
      rw [ht] at h
      simp only at h
      by_cases hl : (stk ts 0).length < n
      · rw [if_pos hl] at h; cases h
      · rw [if_neg hl] at h
        by_cases hf : fitsP t.1 ((stk ts 0).drop ((stk ts 0).length - n)) = true
        · rw [if_pos hf] at h
          cases hr : readP r (sizeA ts + 1) ((stk ts 0).take ((stk ts 0).length - n) ++ [putP t ((stk ts 0).drop ((stk ts 0).length - n)) (sizeA ts)]) with
          | none => rw [hr] at h; cases h
          | some x =>
            rw [hr] at h
            obtain ⟨all', s'⟩ := x
            injection h with h
            injection h with h1 h2
            subst h1 h2
            have hn := takesN_le ht
            rw [stk_len] at hl
            match n, hn with
            | 0, _ =>
              have hd : (stk ts 0).drop ((stk ts 0).length - 0) = [] := by simp
              have htk : (stk ts 0).take ((stk ts 0).length - 0) = stk ts 0 := by simp
              rw [hd] at hf hr ⊢
              rw [htk] at hr
              have e1 : stk ts 0 ++ [putP t [] (sizeA ts)] = stk (ts ++ [.leaf t]) 0 := by rw [stk_append]; simp [stk, Tr.part]
              have e2 : sizeA ts + 1 = sizeA (ts ++ [.leaf t]) := by rw [sizeA_append]; rfl
              rw [e1, e2] at hr
              obtain ⟨ts', h1, h2, h3, h4⟩ := ih (ts ++ [.leaf t]) _ _ (fun x hx => by
                rcases List.mem_append.1 hx with hx | hx
                · exact hw x hx
                · rw [List.mem_singleton.1 hx]; exact ⟨ht, hf⟩) hr
              refine ⟨ts', h1, by rw [h2, flatA_append]; simp [flatA, Tr.flat], h3, ?_⟩
              rw [h4, partsA_append]; simp [partsA, Tr.parts]
            | 1, _ =>
              rcases List.eq_nil_or_concat ts with h0 | ⟨ts0, c, h0⟩
              · subst h0; simp at hl
              · rw [List.concat_eq_append] at h0
                subst h0
                have es : stk (ts0 ++ [c]) 0 = stk ts0 0 ++ [c.part (sizeA ts0)] := by rw [stk_append]; simp [stk]
                rw [es, drop_snoc] at hf hr ⊢
                rw [take_snoc1] at hr
                have ez : sizeA (ts0 ++ [c]) = sizeA ts0 + c.size := by rw [sizeA_append]; rfl
                rw [ez] at hr ⊢
                have e1 : stk ts0 0 ++ [putP t [c.part (sizeA ts0)] (sizeA ts0 + c.size)] = stk (ts0 ++ [.un t c]) 0 := by rw [stk_append]; simp [stk, Tr.part]
                have e2 : sizeA ts0 + c.size + 1 = sizeA (ts0 ++ [.un t c]) := by rw [sizeA_append]; simp [sizeA, Tr.size]; omega
                rw [e1, e2] at hr
                obtain ⟨ts', h1, h2, h3, h4⟩ := ih (ts0 ++ [.un t c]) _ _ (fun x hx => by
                  rcases List.mem_append.1 hx with hx | hx
                  · exact hw x (List.mem_append_left _ hx)
                  · rw [List.mem_singleton.1 hx]; exact ⟨ht, by rw [fits_un] at hf; exact hf, hw c (by simp)⟩) hr
                refine ⟨ts', h1, by rw [h2, flatA_append, flatA_append]; simp [flatA, Tr.flat], h3, ?_⟩
                rw [h4, partsA_append, partsA_append]; simp [partsA, Tr.parts]
            | 2, _ =>
              rcases List.eq_nil_or_concat ts with h0 | ⟨ts1, d, h0⟩
              · subst h0; simp at hl
              · rw [List.concat_eq_append] at h0
                subst h0
                rcases List.eq_nil_or_concat ts1 with h0 | ⟨ts0, c, h0⟩
                · subst h0; simp at hl
                · rw [List.concat_eq_append] at h0
                  subst h0
                  have es : stk (ts0 ++ [c] ++ [d]) 0 = stk ts0 0 ++ [c.part (sizeA ts0)] ++ [d.part (sizeA ts0 + c.size)] := by rw [stk_append, stk_append]; simp [stk, sizeA_append, sizeA]
                  rw [es, drop_snoc2] at hf hr ⊢
                  rw [take_snoc2] at hr
                  have ez : sizeA (ts0 ++ [c] ++ [d]) = sizeA ts0 + c.size + d.size := by rw [sizeA_append, sizeA_append]; simp [sizeA]
                  rw [ez] at hr ⊢
                  have e1 : stk ts0 0 ++ [putP t [c.part (sizeA ts0), d.part (sizeA ts0 + c.size)] (sizeA ts0 + c.size + d.size)] = stk (ts0 ++ [.bin t c d]) 0 := by rw [stk_append]; simp [stk, Tr.part]
                  have e2 : sizeA ts0 + c.size + d.size + 1 = sizeA (ts0 ++ [.bin t c d]) := by rw [sizeA_append]; simp [sizeA, Tr.size]; omega
                  rw [e1, e2] at hr
                  obtain ⟨ts', h1, h2, h3, h4⟩ := ih (ts0 ++ [.bin t c d]) _ _ (fun x hx => by
                    rcases List.mem_append.1 hx with hx | hx
                    · exact hw x (List.mem_append_left _ (List.mem_append_left _ hx))
                    · rw [List.mem_singleton.1 hx]; exact ⟨ht, by rw [fits_bin] at hf; exact hf, hw c (by simp), hw d (by simp)⟩) hr
                  refine ⟨ts', h1, by rw [h2, flatA_append, flatA_append, flatA_append]; simp [flatA, Tr.flat], h3, ?_⟩
                  rw [h4, partsA_append, partsA_append, partsA_append]; simp [partsA, Tr.parts, sizeA_append, sizeA]
        · rw [if_neg hf] at h; cases h
/-- Tokens are one part's just if they are a tree's. -/
theorem read_one {l : List Tk} {all : List Pt} {p : Pt} : readP l 0 [] = some (all, [p]) ↔ ∃ t : Tr, t.WF ∧ l = t.flat ∧ all = t.parts 0 ∧ p = t.part 0 := by
  constructor
  · intro h
    obtain ⟨ts, h1, h2, h3, h4⟩ := read_trees l [] all [p] (fun t ht => by simp at ht) h
    match ts, h3 with
    | [], h3 => cases h3
    | [t], h3 =>
      injection h3 with h3 _
      refine ⟨t, h1 t (by simp), ?_, ?_, h3⟩
      · simpa [flatA] using h2.symm
      · simpa [partsA] using h4.symm
    | t :: t' :: r, h3 => simp [stk] at h3
  · rintro ⟨t, hw, rfl, rfl, rfl⟩
    have := read_flat t hw [] 0 []
    rw [List.append_nil] at this
    rw [this]; simp [readP]
end Go.Proofs.YtnedkpbpeolfoaaDoor
namespace Go.Proofs.YtnedkpbpeolfoaaDoor
theorem op_cases {op : Nat} (h : op ≤ 23) : op = 0 ∨ op = 1 ∨ op = 2 ∨ op = 3 ∨ op = 4 ∨ op = 5 ∨ op = 6 ∨ op = 7 ∨ op = 8 ∨ op = 9 ∨ op = 10 ∨ op = 11 ∨ op = 12 ∨ op = 13 ∨ op = 14 ∨ op = 15 ∨ op = 16 ∨ op = 17 ∨ op = 18 ∨ op = 19 ∨ op = 20 ∨ op = 21 ∨ op = 22 ∨ op = 23 := by omega
/-- A path is never plain. -/
def Sane (p : Pt) : Prop := p.path = true → p.plain = false
theorem putP_sane (t : Tk) (a : List Pt) (i : Nat) : Sane (putP t a i) := by
  intro h
  unfold putP isPathB at h
  dsimp only at h
  have h1 : 19 ≤ t.1 := of_decide_eq_true h
  show (plainB t.1 && _) = false
  have : plainB t.1 = false := by unfold plainB; simp; omega
  rw [this]; rfl
end Go.Proofs.YtnedkpbpeolfoaaDoor
namespace Go.Proofs.YtnedkpbpeolfoaaDoor
open Go.RowKit Go.Maps
def encT (ts : List Tk) : List Value := ts.flatMap fun t => [.int .u8 (t.1 : Int), .int .u8 (t.2 : Int)]
theorem encT_cons (t : Tk) (ts : List Tk) : encT (t :: ts) = .int .u8 (t.1 : Int) :: .int .u8 (t.2 : Int) :: encT ts := rfl
theorem encT_append (xs ys : List Tk) : encT (xs ++ ys) = encT xs ++ encT ys := by simp [encT]
theorem encT_len : ∀ ts : List Tk, (encT ts).length = ts.length * 2
  | [] => rfl
  | t :: ts => by rw [encT_cons]; simp [encT_len ts]; omega
theorem encT_get : ∀ (ts : List Tk) (k : Nat) (h : k < ts.length), (encT ts)[2 * k]? = some (.int .u8 (ts[k].1 : Int)) ∧ (encT ts)[2 * k + 1]? = some (.int .u8 (ts[k].2 : Int))
  | [], k, h => absurd h (by simp)
  | t :: ts, 0, _ => ⟨rfl, rfl⟩
  | t :: ts, k + 1, h => by
    have := encT_get ts k (by simpa using h)
    rw [encT_cons, show 2 * (k + 1) = 2 * k + 1 + 1 by omega, show 2 * k + 1 + 1 + 1 = (2 * k + 1) + 1 + 1 by omega]
    simpa using this
theorem encT_one (ts : List Tk) : ∀ u ∈ encT ts, u.oneCell' = true := by
  intro u hu
  unfold encT at hu
  obtain ⟨c, _, hc⟩ := List.mem_flatMap.1 hu
  exact two_oneCell _ _ u hc
/-- A list of tokens as the walk reads it. -/
structure TkSl (w : World) (a : Option Addr) (len cap : Nat) (ts : List Tk) : Prop where
  hlen : ts.length = len
  hcap : len ≤ cap
  bd : cap ≤ maxLen
  nn : a = none → cap = 0
  c0 : ∀ x, a = some x → ∀ k (h : k < ts.length), w.cell? (x.add (2 * k)) = some (.int .u8 (ts[k].1 : Int))
  c1 : ∀ x, a = some x → ∀ k (h : k < ts.length), w.cell? (x.add (2 * k + 1)) = some (.int .u8 (ts[k].2 : Int))
  ok : ∀ t ∈ ts, t.1 < 256 ∧ t.2 < 256
theorem TkSl.some_of {w : World} {a : Option Addr} {len cap : Nat} {ts : List Tk} (h : TkSl w a len cap ts) (hl : 0 < len) : ∃ x, a = some x := by
  cases a with
  | none => have := h.nn rfl; have := h.hcap; omega
  | some x => exact ⟨x, rfl⟩
theorem TkSl.lt {w : World} {x : Addr} {len cap : Nat} {ts : List Tk} (h : TkSl w (some x) len cap ts) (hl : 0 < len) : x.block < w.heap.size := by
  have h0 := h.c0 x rfl 0 (by have := h.hlen; omega)
  have := World.block_lt_of_cell? _ _ h0
  rwa [add_block] at this
theorem TkSl.keep {w w' : World} {a : Option Addr} {len cap : Nat} {ts : List Tk} (h : TkSl w a len cap ts) (hk : ∀ p v, w.cell? p = some v → (∀ x, a = some x → p.block = x.block) → w'.cell? p = some v) : TkSl w' a len cap ts :=
  ⟨h.hlen, h.hcap, h.bd, h.nn, fun x hx k hk' => hk _ _ (h.c0 x hx k hk') (fun y hy => by rw [add_block]; rw [hx] at hy; injection hy with hy; rw [hy]), fun x hx k hk' => hk _ _ (h.c1 x hx k hk') (fun y hy => by rw [add_block]; rw [hx] at hy; injection hy with hy; rw [hy]), h.ok⟩
theorem TkSl.up {w w' : World} {a : Option Addr} {len cap : Nat} {ts : List Tk} (h : TkSl w a len cap ts) (hb : Below w.heap.size w w') : TkSl w' a len cap ts :=
  h.keep fun _ _ hp _ => kept_cell hp hb
theorem TkSl.nil {w : World} : TkSl w none 0 0 [] :=
  ⟨rfl, Nat.le_refl _, Nat.zero_le _, fun _ => rfl, fun x hx => (by cases hx), fun x hx => (by cases hx), fun t ht => (by simp at ht)⟩
/-- What an index finds, spelled out. -/
theorem TkSl.at {w : World} {a : Option Addr} {len cap : Nat} {ts : List Tk} (h : TkSl w a len cap ts) {P : Program} {T e : TypeId} (hu : P.underlying T = some (.slice e)) (hs : (P.info? e).map (·.size) = some 2) (k : Nat) (hk : k < len) :
    ∃ g o s, (∀ (n : Nat) (w' : World), k < n → (Instr.indexAt T (.slice a n cap) (.int .i64 k)).run P w' = .ok (.pointer (some ⟨g, o, s⟩)) w') ∧ w.cell? ⟨g, o, s⟩ = some (.int .u8 ((ts[k]'(by rw [h.hlen]; exact hk)).1 : Int)) ∧ w.cell? ⟨g, o + 1, none⟩ = some (.int .u8 ((ts[k]'(by rw [h.hlen]; exact hk)).2 : Int)) ∧ g < w.heap.size ∧ ∀ x, a = some x → x.block = g := by
  obtain ⟨x, rfl⟩ := h.some_of (by omega)
  have hkl : k < ts.length := by rw [h.hlen]; exact hk
  have e0 := h.c0 x rfl k hkl
  have e1 := h.c1 x rfl k hkl
  have hlt := h.lt (by omega)
  rw [← add_add] at e1
  have hb := add_block x (2 * k)
  have hrun : ∀ (n : Nat) (w' : World), k < n → (Instr.indexAt T (.slice (some x) n cap) (.int .i64 k)).run P w' = .ok (.pointer (some (x.add (2 * k)))) w' := fun n w' hn => by
    simp [Instr.indexAt, run_underlying hu, asIntOf, sizeOf_run2 hs, hn, Result.andThen, go_sem, Nat.mul_comm]
  generalize x.add (2 * k) = y at *
  obtain ⟨g, o, s⟩ := y
  refine ⟨g, o, s, hrun, e0, ?_, ?_, ?_⟩
  · simpa [Addr.add] using e1
  · dsimp only at hb; omega
  · intro z hz; injection hz with hz; rw [← hz]; exact hb.symm
/-- A row of the call's own as a list of tokens. -/
theorem own_tk {w : World} {base e n : Nat} {v : Value} {ts : List Tk} (h : w.ownsRow base e 2 v n (encT ts)) (hok : ∀ t ∈ ts, t.1 < 256 ∧ t.2 < 256) :
    ∃ a cap, v = .slice a n cap ∧ TkSl w a n cap ts ∧ ∀ x, a = some x → base ≤ x.block ∧ v.ownBlock = some x.block := by
  obtain ⟨hl, h⟩ := h
  rw [encT_len] at hl
  have hl' : ts.length = n := by omega
  rcases h with ⟨rfl, rfl⟩ | ⟨g, cap, cur, rfl, hg, hcell, hnc, hcm, hsz, htk⟩
  · obtain rfl := List.eq_nil_of_length_eq_zero hl'
    exact ⟨none, 0, rfl, TkSl.nil, fun x hx => by cases hx⟩
  · have key : ∀ j, j < n * 2 → w.cell? ⟨g, j, none⟩ = (encT ts)[j]? := fun j hj => by
      rw [← htk, List.getElem?_take, if_pos hj]
      simp [World.cell?, hcell]
    refine ⟨some ⟨g, 0, none⟩, cap, rfl, ⟨hl', hnc, hcm, fun hn => (nomatch hn), fun x hx k hk => ?_, fun x hx k hk => ?_, hok⟩, fun x hx => by injection hx with hx; subst hx; exact ⟨hg, rfl⟩⟩
    · injection hx with hx; subst hx
      rw [add_plain, Nat.zero_add, key _ (by omega)]; exact (encT_get ts k hk).1
    · injection hx with hx; subst hx
      rw [add_plain, Nat.zero_add, key _ (by omega)]; exact (encT_get ts k hk).2
theorem Tryd.sizeTok : (Tryd.prog.info? 49).map (·.size) = some 2 := by kernel_rfl
theorem Tryd.infoTok : (Tryd.prog.info? 49).map (fun i => (i.zero, i.size, i.bytes)) = some (some (.agg #[.int .u8 0, .int .u8 0]), 2, 2) := by kernel_rfl
theorem TkSl.cells {w : World} {x : Addr} {len cap : Nat} {ts : List Tk} (h : TkSl w (some x) len cap ts) : ∀ j u, (encT ts)[j]? = some u → w.cell? (x.add j) = some u := by
  intro j u hj
  have hjl := (List.getElem?_eq_some_iff.1 hj).1
  rw [encT_len] at hjl
  rcases Nat.mod_two_eq_zero_or_one j with h0 | h0
  · obtain ⟨k, rfl⟩ : ∃ k, j = 2 * k := ⟨j / 2, by omega⟩
    rw [(encT_get ts k (by omega)).1] at hj
    rw [← hj]; exact h.c0 x rfl k (by omega)
  · obtain ⟨k, rfl⟩ : ∃ k, j = 2 * k + 1 := ⟨j / 2, by omega⟩
    rw [(encT_get ts k (by omega)).2] at hj
    rw [← hj]; exact h.c1 x rfl k (by omega)
/-- Tokens behind a list of the call's own. -/
theorem Tryd.wp_tks {w : World} {o : Oper} {a : Act} {K : Act → World → Prop} {Q : Exit → Act → World → Prop} (s x : Operand)
    (ho : o.op = .call { callee := .builtin .append, args := #[s, x], argTypes := #[44, 44] }) (base : Nat)
    (v : Value) (xs ys : List Tk) (b : Option Addr) (len cap : Nat) (hs : a.eval s = v) (hx : a.eval x = .slice b len cap) (hown : w.ownsRow base 49 2 v xs.length (encT xs)) (hT : TkSl w b len cap ys)
    (hn : xs.length ≤ 10000000) (hm : ys.length ≤ 10000000) (hbase : base ≤ w.heap.size)
    (h : ∀ v' w', w'.ownsRow base 49 2 v' (xs ++ ys).length (encT (xs ++ ys)) → w.grownBy w' v.ownBlock → K (a.put o.dst v') w') : o.wp Tryd.prog a w K Q := by
  obtain ⟨i, hi, hz0, hz1, hz2⟩ := info_parts Tryd.infoTok
  have hl := hT.hlen
  cases b with
  | none =>
    have hc := hT.nn rfl
    have hcl := hT.hcap
    obtain rfl : len = 0 := by omega
    subst hc
    have hy : ys = [] := List.eq_nil_of_length_eq_zero hl
    subst hy
    have hrun := run_append_owned_none (P := Tryd.prog) w base 44 o.type 49 i 2 Tryd.underlying44 hi v xs.length (encT xs) hown
    unfold Oper.wp execOp
    simp only [ho, resolve, invoke, builtin, Sem.run_bind, Sem.run_pure, Result.andThen_ok, List.map_toArray, List.map_cons, List.map_nil, hs, hx, hrun]
    exact h v w (by rw [List.append_nil]; exact hown) (World.grownBy.refl _ _)
  | some y =>
    refine wp_append_own w s x 44 ho base 49 i _ 2 2 Tryd.underlying44 hi hz0 hz1 hz2 rfl (by decide) v xs.length _ hs hown y len cap (encT ys) hx (by rw [encT_len, hl]) hT.cells (encT_one ys) (by unfold maxLen; omega) (by omega) hbase ?_
    intro v' w' h1 h2 _
    exact h v' w' (by rw [encT_append, List.length_append, hl]; exact h1) h2
theorem Tryd.append_tks {w : World} {ops : Array Oper} {rest : List Oper} {o : Oper} {a : Act} {Q : Exit → Act → World → Prop} (hgd : o.guard = none) (s x : Operand)
    (ho : o.op = .call { callee := .builtin .append, args := #[s, x], argTypes := #[44, 44] }) (base : Nat)
    (v : Value) (xs ys : List Tk) (b : Option Addr) (len cap : Nat) (hs : a.eval s = v) (hx : a.eval x = .slice b len cap) (hown : w.ownsRow base 49 2 v xs.length (encT xs)) (hT : TkSl w b len cap ys)
    (hn : xs.length ≤ 10000000) (hm : ys.length ≤ 10000000) (hbase : base ≤ w.heap.size)
    (h : ∀ v' w', w'.ownsRow base 49 2 v' (xs ++ ys).length (encT (xs ++ ys)) → w.grownBy w' v.ownBlock → wpList Tryd.prog ops Q rest (a.put o.dst v') w') : wpList Tryd.prog ops Q (o :: rest) a w :=
  wpList_plain hgd fun _ hK => Tryd.wp_tks s x ho base v xs ys b len cap hs hx hown hT hn hm hbase fun v' w' h1 h2 => hK _ _ (h v' w' h1 h2)
end Go.Proofs.YtnedkpbpeolfoaaDoor
namespace Go.Proofs.YtnedkpbpeolfoaaDoor
open Go.ChangeShapes Go.WideShapes Go.ChangeAt Go.RowKit Go.Joins
open Go.ChangeMaps (open_string shut_string)
theorem Tryd.own : ownKnob Tryd.prog.godebug = none := by kernel_rfl
theorem Tryd.laidOut : laidOutB Tryd.prog = true := by kernel_rfl
theorem Tryd.cellsTok : Tryd.prog.cellsOf 49 = 2 := by kernel_rfl
theorem Tryd.cellsOp : Tryd.prog.cellsOf 47 = 1 := by kernel_rfl
theorem Tryd.cellsU8 : Tryd.prog.cellsOf 5 = 1 := by kernel_rfl
def vNat : Value → Nat
  | .int _ z => z.toNat
  | _ => 0
theorem Tryd.tkSl_of {H : Type} {enc : TypeId × Value → H} {W : World} {a : Option Addr} {len cap : Nat} {d : DataW H} {p : List MemPlace}
    (h : DataW.Trod enc Tryd.prog W 0 (fun _ => true) true 44 (.slice a len cap) d p) : ∃ ts, TkSl W a len cap ts := by
  obtain ⟨fuel, hf⟩ := h
  rcases Go.Deep.open_slice_pairs Tryd.underlying44 Tryd.underlying49 Tryd.cellsTok rfl rfl Tryd.cellsOp Tryd.cellsU8 hf with ⟨hcs, _⟩ | ⟨x, l, c, m, n, V0, V1, D0, D1, P0, P1, hcs, _, hl, hm, hmm, _, hall⟩
  · simp [Value.cells] at hcs
    obtain ⟨rfl, rfl, rfl⟩ := hcs
    exact ⟨[], TkSl.nil⟩
  · simp [Value.cells] at hcs
    obtain ⟨rfl, rfl, rfl⟩ := hcs
    simp only [if_true] at hmm
    subst hmm
    have key : ∀ i, i < len → W.cell? (x.add (2 * i)) = some (.int .u8 ((vNat (V0 i) : Nat) : Int)) ∧ W.cell? (x.add (2 * i + 1)) = some (.int .u8 ((vNat (V1 i) : Nat) : Int)) ∧ vNat (V0 i) < 256 ∧ vNat (V1 i) < 256 := fun i hi => by
      obtain ⟨h0, h1, h2, h3⟩ := hall i (by omega)
      obtain ⟨z0, e0, _, w0⟩ := DataW.trod_int Tryd.underlying47 h2
      obtain ⟨z1, e1, _, w1⟩ := DataW.trod_int Tryd.underlying5 h3
      simp at e0 e1
      have b0 := bounds_u8 w0
      have b1 := bounds_u8 w1
      rw [Nat.mul_comm] at h0 h1
      rw [e0] at h0
      rw [e1] at h1
      have q0 : ((vNat (V0 i) : Nat) : Int) = z0 := by rw [e0]; show ((z0.toNat : Nat) : Int) = z0; omega
      have q1 : ((vNat (V1 i) : Nat) : Int) = z1 := by rw [e1]; show ((z1.toNat : Nat) : Int) = z1; omega
      rw [q0, q1]
      exact ⟨h0, h1, by omega, by omega⟩
    refine ⟨(List.range len).map fun i => (vNat (V0 i), vNat (V1 i)), ⟨by simp, hl, hm, fun hn => (nomatch hn), fun y hy k hk => ?_, fun y hy k hk => ?_, fun t ht => ?_⟩⟩
    · injection hy with hy; subst hy
      simp at hk
      simpa using (key k hk).1
    · injection hy with hy; subst hy
      simp at hk
      simpa using (key k hk).2.1
    · obtain ⟨i, hi, rfl⟩ := List.mem_map.1 ht
      exact (key i (List.mem_range.1 hi)).2.2
end Go.Proofs.YtnedkpbpeolfoaaDoor
namespace Go.Proofs.YtnedkpbpeolfoaaDoor
open Go.ChangeShapes Go.WideShapes Go.ChangeAt Go.RowKit Go.Joins
open Go.ChangeMaps (open_string shut_string)
theorem Tryd.sizeLet : (Tryd.prog.info? 23).map (·.size) = some 1 := by kernel_rfl
theorem Tryd.cellsLet : Tryd.prog.cellsOf 23 = 1 := by kernel_rfl
theorem Tryd.letSl_of {H : Type} {enc : TypeId × Value → H} {W : World} {a : Option Addr} {len cap : Nat} {d : DataW H} {p : List MemPlace}
    (h : DataW.Trod enc Tryd.prog W 0 (fun _ => true) true 45 (.slice a len cap) d p) : ∃ zs, IntSl Tryd.prog 45 .u8 W a len cap zs ∧ ∀ z ∈ zs, 0 ≤ z ∧ z < 256 := by
  obtain ⟨fuel, hf⟩ := h
  rcases open_ints Tryd.underlying45 Tryd.underlying23 Tryd.cellsLet hf with ⟨hcs, _⟩ | ⟨x, l, c, zs, hcs, _, hl, hm, hz, _, hcell, hwz⟩
  · simp [Value.cells] at hcs
    obtain ⟨rfl, rfl, rfl⟩ := hcs
    exact ⟨[], intSl_nil, fun z hz => by simp at hz⟩
  · simp [Value.cells] at hcs
    obtain ⟨rfl, rfl, rfl⟩ := hcs
    simp only [if_true] at hz
    have hc : ∀ k, k < len → W.cell? (adOf (some x) k) = some (.int .u8 ((zs.take len).getD k 0)) := fun k hk => by
      have := hcell k (by omega)
      simp only [adOf]
      rw [this]; simp [List.getD_eq_getElem?_getD, hk]
    refine ⟨zs.take len, ⟨by simp; omega, hl, hm, fun n k w hk hn => idx_of Tryd.underlying45 Tryd.sizeLet (by simp) k w hk, hc, fun k hk => World.block_lt_of_cell? W _ (hc k hk), by simp⟩, fun z hz => ?_⟩
    have := bounds_u8 (hwz z (List.mem_of_mem_take hz)); omega
end Go.Proofs.YtnedkpbpeolfoaaDoor
namespace Go.Proofs.YtnedkpbpeolfoaaDoor
open Go.ChangeShapes Go.WideShapes Go.ChangeAt Go.RowKit
/-- A row that lists variables, what they hold kept. -/
theorem handed_and_laid {H : Type} {enc : TypeId × Value → H} {C : Checked} {os : Os} {f : FuncId} {fn : Func} {s : ChangeSpec} {conds : List PathCond} {apart fresh handsOn again : Bool} {X : World → Array Value → Prop}
    (own : ownKnob C.prog.godebug = none) (started : os.Started) (noInit : C.prog.inits.idxOf? f = none) (hfn : C.prog.funcs[f]? = some fn)
    (witness : ∃ (w : World) (tape : Tape) (i : Input), w.os = os ∧ (w.forCall tape i).Shaped C.prog ∧ i.vars = [] ∧ Input.okWide C.prog (w.forCall tape i) .any w.heap.size f i ∧
      ((s.pre enc C.prog fn conds apart (w.forCall tape i).memory i.args ∧ X (w.forCall tape i).memory i.args) ∧ sizedMet enc C.prog fn (OpenSpec.ofChange s) apart (w.forCall tape i).memory i.args) ∧ ({} : Assume).holds C.prog (lone (Frame.enter C.prog f i.args .normal) [] (w.forCall tape i)))
    (contract : ∀ (W : World) (base : Nat) (args : Array Value) (ds gs : List (DataW H)) (before : List MemPlace),
      (∀ (j : Nat) t v, fn.params[j]? = some t → args[j]? = some v → Value.okWide C.prog W .any base t v) →
      DataW.Whole enc C.prog fn.params.toList s.vars apart W args.toList ds gs before → (∃ W0 : World, W0.heap = W.heap ∧ X W0 args) →
      Calls C.prog f args W fun e W' => ∃ v, e = .returned v ∧ s.post enc C.prog fn apart fresh handsOn again W args v W') :
    ReturnsInHanded {} C os f .any (fun w args => (s.pre enc C.prog fn conds apart w args ∧ X w args) ∧ sizedMet enc C.prog fn (OpenSpec.ofChange s) apart w args) (s.post enc C.prog fn apart fresh handsOn again) := by
  refine returnsInHanded_of_calls own started noInit witness ?_
  intro w tape i _ _ _ hok hpre _
  obtain ⟨_, _, _, fn', hfn', _, _, _, _, hval⟩ := hok
  obtain rfl : fn' = fn := Option.some.inj (hfn'.symm.trans hfn)
  obtain ⟨⟨⟨ds, gs, before, hw, _⟩, hx⟩, _⟩ := hpre
  refine (contract (w.forCall tape i) w.heap.size i.args ds gs before hval (DataW.Whole.of_heap (w' := w.forCall tape i) (by rfl) hw) ⟨(w.forCall tape i).memory, rfl, hx⟩).mono ?_
  rintro e W' ⟨v, rfl, hp⟩
  exact ChangeSpec.post_blind hp
def laidList : List (String × DataW Unit) := [("math/bits.deBruijn64tab", Rows.laid_math_bits_deBruijn64tab)]
theorem laid_tab : (Rows.laid_math_bits_deBruijn64tab : DataW Unit) = Lib.tabData .u8 (Lib.deBruijn64tab.map fun (x : Nat) => (x : Int)) := by kernel_rfl
theorem tab_of_laid {W0 W : World} (h : laidMetH Tryd.prog laidList W0) (hh : W0.heap = W.heap) : Tab64 W := by
  rw [MakeChecks.laidMetH_plain _ _ _ (by kernel_rfl)] at h
  obtain ⟨g, t, cs, fuel, p, h1, h2, h3, h4⟩ := Lib.laidMet.reads h (n := "math/bits.deBruijn64tab") (d := Rows.laid_math_bits_deBruijn64tab) (by simp [laidList])
  rw [laid_tab] at h4
  have hg : Tryd.prog.globalNamed "math/bits.deBruijn64tab" = some 0 := by kernel_rfl
  have ht : (Tryd.prog.globals[0]?).map (·.type) = some 104 := by kernel_rfl
  rw [hg] at h1
  injection h1 with h1
  subst h1
  rw [ht] at h2
  injection h2 with h2
  subst h2
  have hc := Lib.cells_of_tab Tryd.underlying104 Tryd.underlying5 (by kernel_rfl) (by kernel_rfl) h4
  have e : W.var? Tryd.prog "math/bits.deBruijn64tab" = some cs := by
    rw [← h3]; simp only [World.var?, hh]
  have e2 : ∃ t o, W.heap[0]? = some (.cells cs t o) := by
    simp only [World.var?, hg, Option.bind_some] at e
    split at e
    · rename_i c t o hx
      injection e with e
      subst e
      exact ⟨_, _, hx⟩
    · cases e
  obtain ⟨t, o, hx⟩ := e2
  intro j hj
  have hlen : Lib.deBruijn64tab.length = 64 := rfl
  have hcj : cs[j]? = some (.int .u8 ((Lib.deBruijn64tab.getD j 0 : Nat) : Int)) := by
    rw [← Array.getElem?_toList, hc, List.map_map, List.getElem?_map, List.getD_eq_getElem?_getD, List.getElem?_eq_getElem (by omega)]
    rfl
  simp [World.cell?, hx, hcj]
end Go.Proofs.YtnedkpbpeolfoaaDoor
namespace Go.Proofs.YtnedkpbpeolfoaaDoor
/-- The places where a formula is satisfied, and where a path's ways end. -/
abbrev Sv := (Nat → Prop) × (Nat → Nat → Prop)
/-- Some ways behind one another. -/
def stepsP (w : Nat → Nat → Prop) : Nat → Nat → Nat → Prop
  | 0, i, k => i = k
  | m + 1, i, k => ∃ j, w i j ∧ stepsP w m j k
def leafV (t : List Nat) (op p i : Nat) : Prop :=
  if op = 0 then True else if op = 1 then False else if op = 2 then i < t.length ∧ (t.getD i 0).testBit p = true
  else if op = 3 then i + 1 = t.length else if op = 4 then i < t.length else i = t.length
def unV (n op : Nat) (a : Nat → Prop) (i : Nat) : Prop :=
  if op = 6 then ¬ a i else if op = 7 then i + 1 < n ∧ a (i + 1) else if op = 8 then (i + 1 < n → a (i + 1))
  else if op = 9 then ∃ j, i ≤ j ∧ j < n ∧ a j else ∀ j, i ≤ j → j < n → a j
def unY (n op : Nat) (v : Sv) (i k : Nat) : Prop :=
  if op = 19 then k = i + 1 ∧ i < n ∧ v.1 i else if op = 20 then k = i ∧ v.1 i else ∃ m, stepsP v.2 m i k
def binV (n op : Nat) (x y : Sv) (i : Nat) : Prop :=
  if op = 11 then x.1 i ∧ y.1 i else if op = 12 then x.1 i ∨ y.1 i else if op = 13 then (x.1 i → y.1 i) else if op = 14 then (x.1 i ↔ y.1 i)
  else if op = 15 then ∃ j, i ≤ j ∧ j < n ∧ y.1 j ∧ ∀ k, i ≤ k → k < j → x.1 k
  else if op = 16 then ∀ j, i ≤ j → j < n → y.1 j ∨ ∃ k, i ≤ k ∧ k < j ∧ x.1 k
  else if op = 17 then ∃ k, x.2 i k ∧ y.1 k else ∀ k, x.2 i k → y.1 k
def binY (op : Nat) (x y : Sv) (i k : Nat) : Prop := if op = 21 then x.2 i k ∨ y.2 i k else ∃ j, x.2 i j ∧ y.2 j k
/-- What a token makes of what it takes. -/
def semT (t : List Nat) (op p : Nat) (a : List Sv) : Sv :=
  match a with
  | [] => (leafV t op p, fun _ _ => False)
  | [x] => (unV t.length op x.1, unY t.length op x)
  | x :: y :: _ => (binV t.length op x y, binY op x y)
def takC (t : Tk) : Nat := (takesN t).getD 0
def semStep (t : List Nat) (st : List Sv) (k : Tk) : List Sv := st.take (st.length - takC k) ++ [semT t k.1 k.2 (st.drop (st.length - takC k))]
def semS (t : List Nat) (ts : List Tk) (st : List Sv) : List Sv := ts.foldl (semStep t) st
theorem semS_app (t : List Nat) (a b : List Tk) (st : List Sv) : semS t (a ++ b) st = semS t b (semS t a st) := by unfold semS; rw [List.foldl_append]
/-- Tokens that put one part on any stack. -/
def Cl (t : List Nat) (ts : List Tk) (v : Sv) : Prop := ∀ st, semS t ts st = st ++ [v]
theorem Cl.same {t : List Nat} {ts : List Tk} {v u : Sv} (h : Cl t ts v) (k : Cl t ts u) : v = u := by
  have := h []
  rw [k []] at this
  simpa using this.symm
theorem Cl.leaf (t : List Nat) {op p : Nat} (h : takesN (op, p) = some 0) : Cl t [(op, p)] (semT t op p []) := fun st => by
  have e : takC (op, p) = 0 := by unfold takC; rw [h]; rfl
  simp [semS, semStep, e]
theorem Cl.un {t : List Nat} {ts : List Tk} {v : Sv} (k : Cl t ts v) {op p : Nat} (h : takesN (op, p) = some 1) : Cl t (ts ++ [(op, p)]) (semT t op p [v]) := fun st => by
  have e : takC (op, p) = 1 := by unfold takC; rw [h]; rfl
  rw [semS_app, k st]
  simp [semS, semStep, e]
theorem Cl.bin {t : List Nat} {xs ys : List Tk} {v u : Sv} (k : Cl t xs v) (l : Cl t ys u) {op p : Nat} (h : takesN (op, p) = some 2) : Cl t (xs ++ ys ++ [(op, p)]) (semT t op p [v, u]) := fun st => by
  have e : takC (op, p) = 2 := by unfold takC; rw [h]; rfl
  rw [semS_app, semS_app, k st, l]
  have e1 : (st ++ [v] ++ [u]).length - 2 = st.length := by simp
  have e2 : (st ++ [v] ++ [u]).take st.length = st := by simp
  have e3 : (st ++ [v] ++ [u]).drop st.length = [v, u] := by simp
  simp only [semS, List.foldl_cons, List.foldl_nil, semStep, e, e1, e2, e3]
/-- What a tree means. -/
def semTr (t : List Nat) : Tr → Sv
  | .leaf k => semT t k.1 k.2 []
  | .un k c => semT t k.1 k.2 [semTr t c]
  | .bin k c d => semT t k.1 k.2 [semTr t c, semTr t d]
theorem cl_tree (t : List Nat) : ∀ T : Tr, T.WF → Cl t T.flat (semTr t T)
  | .leaf _, h => Cl.leaf t h.1
  | .un _ c, h => (cl_tree t c h.2.2).un h.1
  | .bin _ c d, h => (cl_tree t c h.2.2.1).bin (cl_tree t d h.2.2.2) h.1
/-- Ways go on, up to the end. -/
theorem steps_in {w : Nat → Nat → Prop} {n : Nat} (hw : ∀ i k, i ≤ n → w i k → i ≤ k ∧ k ≤ n) : ∀ (m i k : Nat), i ≤ n → stepsP w m i k → i ≤ k ∧ k ≤ n
  | 0, i, k, hi, h => by have : i = k := h; omega
  | m + 1, i, k, hi, h => by
    obtain ⟨j, h1, h2⟩ := h
    have := hw i j hi h1
    have := steps_in hw m j k this.2 h2
    omega
theorem ways_in (t : List Nat) : ∀ T : Tr, T.WF → ∀ i k, i ≤ t.length → (semTr t T).2 i k → i ≤ k ∧ k ≤ t.length
  | .leaf _, _, i, k, _, h => by simp [semTr, semT] at h
  | .un q c, hT, i, k, hi, h => by
    simp only [semTr, semT, unY] at h
    split at h
    · omega
    · split at h
      · omega
      · obtain ⟨m, hm⟩ := h
        exact steps_in (ways_in t c hT.2.2) m i k hi hm
  | .bin q c d, hT, i, k, hi, h => by
    simp only [semTr, semT, binY] at h
    split at h
    · rcases h with h | h
      · exact ways_in t c hT.2.2.1 i k hi h
      · exact ways_in t d hT.2.2.2 i k hi h
    · obtain ⟨j, h1, h2⟩ := h
      have := ways_in t c hT.2.2.1 i j hi h1
      have := ways_in t d hT.2.2.2 j k this.2 h2
      omega
section
variable (t : List Nat) (x y z : Sv) (i : Nat)
theorem dual_finally : (semT t 9 0 [x]).1 i ↔ (semT t 15 0 [semT t 0 0 [], x]).1 i := by
  simp [semT, unV, binV, leafV]
theorem dual_globally : (semT t 10 0 [x]).1 i ↔ (semT t 16 0 [semT t 1 0 [], x]).1 i := by
  simp [semT, unV, binV, leafV]
theorem dual_last : (semT t 3 0 []).1 i ↔ (semT t 11 0 [semT t 4 0 [], semT t 8 0 [semT t 1 0 []]]).1 i := by
  simp [semT, unV, binV, leafV]; omega
end
end Go.Proofs.YtnedkpbpeolfoaaDoor
namespace Go.Proofs.YtnedkpbpeolfoaaDoor
theorem steps_shift {w u : Nat → Nat → Prop} {k n : Nat} (hw : ∀ i j, i + k ≤ n → (u i j ↔ w (i + k) (j + k))) (hin : ∀ i j, i ≤ n → w i j → i ≤ j ∧ j ≤ n) : ∀ (m i j : Nat), i + k ≤ n → (stepsP u m i j ↔ stepsP w m (i + k) (j + k))
  | 0, i, j, _ => by show i = j ↔ i + k = j + k; omega
  | m + 1, i, j, hi => by
    constructor
    · rintro ⟨l, h1, h2⟩
      have h1' := (hw i l hi).1 h1
      have := hin _ _ hi h1'
      exact ⟨l + k, h1', (steps_shift hw hin m l j this.2).1 h2⟩
    · rintro ⟨l, h1, h2⟩
      have hl := hin _ _ hi h1
      obtain ⟨q, rfl⟩ : ∃ q, l = q + k := ⟨l - k, by omega⟩
      exact ⟨q, (hw i q hi).2 h1, (steps_shift hw hin m q j hl.2).2 h2⟩
theorem cut_sem (t : List Nat) (k : Nat) (hk : k ≤ t.length) : ∀ T : Tr, T.WF → ∀ i, i + k ≤ t.length → ((semTr (t.drop k) T).1 i ↔ (semTr t T).1 (i + k)) ∧ ∀ j, ((semTr (t.drop k) T).2 i j ↔ (semTr t T).2 (i + k) (j + k))
  | .leaf q, _, i, hi => by
    have hl : (t.drop k).length = t.length - k := by simp
    refine ⟨?_, fun j => by simp [semTr, semT]⟩
    simp only [semTr, semT, leafV, hl]
    have hg : (t.drop k).getD i 0 = t.getD (i + k) 0 := by simp [List.getD_eq_getElem?_getD, Nat.add_comm]
    rw [hg]
    split
    · exact Iff.rfl
    · split
      · exact Iff.rfl
      · split
        · constructor <;> (rintro ⟨h1, h2⟩; exact ⟨by omega, h2⟩)
        · split
          · omega
          · split <;> omega
  | .un q c, hT, i, hi => by
    have hl : (t.drop k).length = t.length - k := by simp
    have ih := cut_sem t k hk c hT.2.2
    refine ⟨?_, fun j => ?_⟩
    · simp only [semTr, semT, unV, hl]
      split
      · rw [(ih i hi).1]
      · split
        · constructor
          · rintro ⟨h1, h2⟩
            exact ⟨by omega, by have := ((ih (i + 1) (by omega)).1).1 h2; rwa [show i + 1 + k = i + k + 1 by omega] at this⟩
          · rintro ⟨h1, h2⟩
            refine ⟨by omega, ((ih (i + 1) (by omega)).1).2 ?_⟩
            rwa [show i + 1 + k = i + k + 1 by omega]
        · split
          · constructor
            · intro h h1
              have := ((ih (i + 1) (by omega)).1).1 (h (by omega)); rwa [show i + 1 + k = i + k + 1 by omega] at this
            · intro h h1
              refine ((ih (i + 1) (by omega)).1).2 ?_
              rw [show i + 1 + k = i + k + 1 by omega]; exact h (by omega)
          · split
            · constructor
              · rintro ⟨j, h1, h2, h3⟩; exact ⟨j + k, by omega, by omega, ((ih j (by omega)).1).1 h3⟩
              · rintro ⟨j, h1, h2, h3⟩
                obtain ⟨j, rfl⟩ : ∃ q, j = q + k := ⟨j - k, by omega⟩
                exact ⟨j, by omega, by omega, ((ih j (by omega)).1).2 h3⟩
            · constructor
              · intro h j h1 h2
                obtain ⟨j, rfl⟩ : ∃ q, j = q + k := ⟨j - k, by omega⟩
                exact ((ih j (by omega)).1).1 (h j (by omega) (by omega))
              · intro h j h1 h2; exact ((ih j (by omega)).1).2 (h (j + k) (by omega) (by omega))
    · simp only [semTr, semT, unY, hl]
      split
      · constructor
        · rintro ⟨h1, h2, h3⟩; exact ⟨by omega, by omega, (ih i hi).1.1 h3⟩
        · rintro ⟨h1, h2, h3⟩; exact ⟨by omega, by omega, (ih i hi).1.2 h3⟩
      · split
        · constructor
          · rintro ⟨h1, h2⟩; exact ⟨by omega, (ih i hi).1.1 h2⟩
          · rintro ⟨h1, h2⟩; exact ⟨by omega, (ih i hi).1.2 h2⟩
        · have hs := fun m => steps_shift (u := (semTr (t.drop k) c).2) (w := (semTr t c).2) (k := k) (n := t.length) (fun a b ha => (ih a ha).2 b) (ways_in t c hT.2.2) m i j hi
          constructor
          · rintro ⟨m, h⟩; exact ⟨m, (hs m).1 h⟩
          · rintro ⟨m, h⟩; exact ⟨m, (hs m).2 h⟩
  | .bin q c d, hT, i, hi => by
    have hl : (t.drop k).length = t.length - k := by simp
    have ic := cut_sem t k hk c hT.2.2.1
    have id := cut_sem t k hk d hT.2.2.2
    have wc := ways_in t c hT.2.2.1
    have wd := ways_in t d hT.2.2.2
    refine ⟨?_, fun j => ?_⟩
    · simp only [semTr, semT, binV, hl]
      split
      · rw [(ic i hi).1, (id i hi).1]
      · split
        · rw [(ic i hi).1, (id i hi).1]
        · split
          · rw [(ic i hi).1, (id i hi).1]
          · split
            · rw [(ic i hi).1, (id i hi).1]
            · split
              · constructor
                · rintro ⟨j, h1, h2, h3, h4⟩
                  refine ⟨j + k, by omega, by omega, (id j (by omega)).1.1 h3, fun l l1 l2 => ?_⟩
                  obtain ⟨l, rfl⟩ : ∃ q, l = q + k := ⟨l - k, by omega⟩
                  exact (ic l (by omega)).1.1 (h4 l (by omega) (by omega))
                · rintro ⟨j, h1, h2, h3, h4⟩
                  obtain ⟨j, rfl⟩ : ∃ q, j = q + k := ⟨j - k, by omega⟩
                  exact ⟨j, by omega, by omega, (id j (by omega)).1.2 h3, fun l l1 l2 => (ic l (by omega)).1.2 (h4 (l + k) (by omega) (by omega))⟩
              · split
                · constructor
                  · intro h j h1 h2
                    obtain ⟨j, rfl⟩ : ∃ q, j = q + k := ⟨j - k, by omega⟩
                    rcases h j (by omega) (by omega) with h | ⟨l, l1, l2, l3⟩
                    · exact Or.inl ((id j (by omega)).1.1 h)
                    · exact Or.inr ⟨l + k, by omega, by omega, (ic l (by omega)).1.1 l3⟩
                  · intro h j h1 h2
                    rcases h (j + k) (by omega) (by omega) with h | ⟨l, l1, l2, l3⟩
                    · exact Or.inl ((id j (by omega)).1.2 h)
                    · obtain ⟨l, rfl⟩ : ∃ q, l = q + k := ⟨l - k, by omega⟩
                      exact Or.inr ⟨l, by omega, by omega, (ic l (by omega)).1.2 l3⟩
                · split
                  · constructor
                    · rintro ⟨j, h1, h2⟩
                      have h1' := ((ic i hi).2 j).1 h1
                      have := wc _ _ hi h1'
                      exact ⟨j + k, h1', (id j this.2).1.1 h2⟩
                    · rintro ⟨j, h1, h2⟩
                      have := wc _ _ hi h1
                      obtain ⟨j, rfl⟩ : ∃ q, j = q + k := ⟨j - k, by omega⟩
                      exact ⟨j, ((ic i hi).2 j).2 h1, (id j this.2).1.2 h2⟩
                  · constructor
                    · intro h j h1
                      have := wc _ _ hi h1
                      obtain ⟨j, rfl⟩ : ∃ q, j = q + k := ⟨j - k, by omega⟩
                      exact (id j this.2).1.1 (h j (((ic i hi).2 j).2 h1))
                    · intro h j h1
                      have h1' := ((ic i hi).2 j).1 h1
                      have := wc _ _ hi h1'
                      exact (id j this.2).1.2 (h (j + k) h1')
    · simp only [semTr, semT, binY]
      split
      · rw [(ic i hi).2 j, (id i hi).2 j]
      · constructor
        · rintro ⟨l, h1, h2⟩
          have h1' := ((ic i hi).2 l).1 h1
          have := wc _ _ hi h1'
          exact ⟨l + k, h1', ((id l this.2).2 j).1 h2⟩
        · rintro ⟨l, h1, h2⟩
          have := wc _ _ hi h1
          obtain ⟨l, rfl⟩ : ∃ q, l = q + k := ⟨l - k, by omega⟩
          exact ⟨l, ((ic i hi).2 l).2 h1, ((id l this.2).2 j).2 h2⟩
end Go.Proofs.YtnedkpbpeolfoaaDoor
namespace Go.Proofs.YtnedkpbpeolfoaaDoor
theorem drop_at {α : Type} (st r : List α) (m : Nat) (h : r.length = m) : (st ++ r).drop ((st ++ r).length - m) = r ∧ (st ++ r).take ((st ++ r).length - m) = st := by
  have : (st ++ r).length - m = st.length := by simp; omega
  rw [this]; simp
theorem tak_of {k : Tk} {m : Nat} (h : takesN k = some m) : takC k = m := by unfold takC; rw [h]; rfl
theorem get_split {a b : List Tk} {P : List Tk → Tk → Prop} (h1 : ∀ k (h : k < a.length), P (a.take k) a[k]) (h2 : ∀ k (h : k < b.length), P (a ++ b.take k) b[k]) : ∀ k (h : k < (a ++ b).length), P ((a ++ b).take k) (a ++ b)[k] := by
  intro k h
  by_cases hk : k < a.length
  · have e1 : (a ++ b).take k = a.take k := by rw [List.take_append_of_le_length (by omega)]
    have e2 : (a ++ b)[k] = a[k] := List.getElem_append_left hk
    rw [e1, e2]; exact h1 k hk
  · have e1 : (a ++ b).take k = a ++ b.take (k - a.length) := by rw [List.take_append, List.take_of_length_le (by omega)]
    have e2 : (a ++ b)[k] = b[k - a.length]'(by simp at h; omega) := List.getElem_append_right (by omega)
    rw [e1, e2]; exact h2 _ _
end Go.Proofs.YtnedkpbpeolfoaaDoor
namespace Go.Proofs.YtnedkpbpeolfoaaDoor
abbrev Kq := List Tk × List Tk
/-- What a token makes of the pairs that it takes. -/
def kOp (op p : Nat) (a : List Kq) : Kq :=
  match a with
  | [] => if op = 0 then ([(0, 0)], [(1, 0)]) else if op = 1 then ([(1, 0)], [(0, 0)]) else if op = 2 then ([(2, p)], [(2, p), (6, 0)]) else if op = 3 then ([(4, 0), (1, 0), (8, 0), (11, 0)], [(5, 0), (0, 0), (7, 0), (12, 0)]) else if op = 4 then ([(4, 0)], [(5, 0)]) else ([(5, 0)], [(4, 0)])
  | [x] => if op = 6 then (x.2, x.1) else if op = 7 then (x.1 ++ [(7, 0)], x.2 ++ [(8, 0)]) else if op = 8 then (x.1 ++ [(8, 0)], x.2 ++ [(7, 0)])
    else if op = 9 then ([(0, 0)] ++ x.1 ++ [(15, 0)], [(1, 0)] ++ x.2 ++ [(16, 0)]) else if op = 10 then ([(1, 0)] ++ x.1 ++ [(16, 0)], [(0, 0)] ++ x.2 ++ [(15, 0)]) else (x.1 ++ [(op, 0)], x.1 ++ [(op, 0)])
  | x :: y :: _ => if op = 11 then (x.1 ++ y.1 ++ [(11, 0)], x.2 ++ y.2 ++ [(12, 0)]) else if op = 12 then (x.1 ++ y.1 ++ [(12, 0)], x.2 ++ y.2 ++ [(11, 0)])
    else if op = 13 then (x.2 ++ y.1 ++ [(12, 0)], x.1 ++ y.2 ++ [(11, 0)])
    else if op = 14 then ((x.1 ++ y.1 ++ [(11, 0)]) ++ (x.2 ++ y.2 ++ [(11, 0)]) ++ [(12, 0)], (x.1 ++ y.2 ++ [(11, 0)]) ++ (x.2 ++ y.1 ++ [(11, 0)]) ++ [(12, 0)])
    else if op = 15 then (x.1 ++ y.1 ++ [(15, 0)], x.2 ++ y.2 ++ [(16, 0)]) else if op = 16 then (x.1 ++ y.1 ++ [(16, 0)], x.2 ++ y.2 ++ [(15, 0)])
    else if op = 17 then (x.1 ++ y.1 ++ [(17, 0)], x.1 ++ y.2 ++ [(18, 0)]) else if op = 18 then (x.1 ++ y.1 ++ [(18, 0)], x.1 ++ y.2 ++ [(17, 0)])
    else (x.1 ++ y.1 ++ [(op, 0)], x.1 ++ y.1 ++ [(op, 0)])
def kStep (st : List Kq) (k : Tk) : List Kq := st.take (st.length - takC k) ++ [kOp k.1 k.2 (st.drop (st.length - takC k))]
def kS (ts : List Tk) (st : List Kq) : List Kq := ts.foldl kStep st
/-- K and K' of a tree (of a path both the same). -/
def kTr : Tr → Tr × Tr
  | .leaf (op, p) => if op = 0 then (.leaf (0, 0), .leaf (1, 0)) else if op = 1 then (.leaf (1, 0), .leaf (0, 0)) else if op = 2 then (.leaf (2, p), .un (6, 0) (.leaf (2, p)))
    else if op = 3 then (.bin (11, 0) (.leaf (4, 0)) (.un (8, 0) (.leaf (1, 0))), .bin (12, 0) (.leaf (5, 0)) (.un (7, 0) (.leaf (0, 0)))) else if op = 4 then (.leaf (4, 0), .leaf (5, 0)) else (.leaf (5, 0), .leaf (4, 0))
  | .un (op, _) c => if op = 6 then ((kTr c).2, (kTr c).1) else if op = 7 then (.un (7, 0) (kTr c).1, .un (8, 0) (kTr c).2) else if op = 8 then (.un (8, 0) (kTr c).1, .un (7, 0) (kTr c).2)
    else if op = 9 then (.bin (15, 0) (.leaf (0, 0)) (kTr c).1, .bin (16, 0) (.leaf (1, 0)) (kTr c).2) else if op = 10 then (.bin (16, 0) (.leaf (1, 0)) (kTr c).1, .bin (15, 0) (.leaf (0, 0)) (kTr c).2)
    else (.un (op, 0) (kTr c).1, .un (op, 0) (kTr c).1)
  | .bin (op, _) c d => if op = 11 then (.bin (11, 0) (kTr c).1 (kTr d).1, .bin (12, 0) (kTr c).2 (kTr d).2) else if op = 12 then (.bin (12, 0) (kTr c).1 (kTr d).1, .bin (11, 0) (kTr c).2 (kTr d).2)
    else if op = 13 then (.bin (12, 0) (kTr c).2 (kTr d).1, .bin (11, 0) (kTr c).1 (kTr d).2)
    else if op = 14 then (.bin (12, 0) (.bin (11, 0) (kTr c).1 (kTr d).1) (.bin (11, 0) (kTr c).2 (kTr d).2), .bin (12, 0) (.bin (11, 0) (kTr c).1 (kTr d).2) (.bin (11, 0) (kTr c).2 (kTr d).1))
    else if op = 15 then (.bin (15, 0) (kTr c).1 (kTr d).1, .bin (16, 0) (kTr c).2 (kTr d).2) else if op = 16 then (.bin (16, 0) (kTr c).1 (kTr d).1, .bin (15, 0) (kTr c).2 (kTr d).2)
    else if op = 17 then (.bin (17, 0) (kTr c).1 (kTr d).1, .bin (18, 0) (kTr c).1 (kTr d).2) else if op = 18 then (.bin (18, 0) (kTr c).1 (kTr d).1, .bin (17, 0) (kTr c).1 (kTr d).2)
    else (.bin (op, 0) (kTr c).1 (kTr d).1, .bin (op, 0) (kTr c).1 (kTr d).1)
def pathT (T : Tr) : Bool := (T.part 0).path
def plainT (T : Tr) : Bool := (T.part 0).plain
theorem path_leaf (k : Tk) : pathT (.leaf k) = isPathB k.1 := rfl
theorem path_un (k : Tk) (c : Tr) : pathT (.un k c) = isPathB k.1 := rfl
theorem path_bin (k : Tk) (c d : Tr) : pathT (.bin k c d) = isPathB k.1 := rfl
theorem plain_leaf (k : Tk) : plainT (.leaf k) = plainB k.1 := by simp [plainT, Tr.part, putP]
theorem plain_un (k : Tk) (c : Tr) : plainT (.un k c) = (plainB k.1 && plainT c) := by simp [plainT, Tr.part, putP]
theorem plain_bin (k : Tk) (c d : Tr) : plainT (.bin k c d) = (plainB k.1 && (plainT c && plainT d)) := by
  have := part_shift d (0 + c.size)
  simp [plainT, Tr.part, putP] at this ⊢
  rw [this.2.1]
/-- What a token may take, by trees. -/
def fit1T (op : Nat) (c : Tr) : Bool := if op = 19 then !pathT c && plainT c else if op = 23 then pathT c else !pathT c
def fit2T (op : Nat) (c d : Tr) : Bool := if op = 17 ∨ op = 18 then pathT c && !pathT d else if op = 21 ∨ op = 22 then pathT c && pathT d else !pathT c && !pathT d
theorem fits1 {op p : Nat} {c : Tr} (h : takesN (op, p) = some 1) : fitsP op [c.part 0] = fit1T op c := by
  have h1 : ¬ (op = 17 ∨ op = 18) ∧ ¬ (op = 21 ∨ op = 22) := by
    unfold takesN at h
    dsimp only at h
    split at h
    · cases h
    · split at h
      · cases h
      · split at h
        · omega
        · cases h
  unfold fitsP fit1T pathT plainT
  rw [if_neg h1.1]
  split
  · rfl
  · rw [if_neg h1.2]
    split
    · rfl
    · simp
theorem fits2 {op p : Nat} {c d : Tr} (h : takesN (op, p) = some 2) : fitsP op [c.part 0, d.part 0] = fit2T op c d := by
  have h1 : ¬ op = 19 ∧ ¬ op = 23 := by
    unfold takesN at h
    dsimp only at h
    split at h
    · cases h
    · split at h
      · cases h
      · split at h
        · cases h
        · omega
  unfold fitsP fit2T pathT
  split
  · rfl
  · rw [if_neg h1.1]
    split
    · rfl
    · rw [if_neg h1.2]
      simp
theorem wf_leaf {op p : Nat} (h : takesN (op, p) = some 0) (h2 : op ≤ 5) : (Tr.leaf (op, p)).WF := by
  refine ⟨h, ?_⟩
  unfold fitsP
  dsimp only
  rw [if_neg (by omega), if_neg (by omega), if_neg (by omega), if_neg (by omega)]
  rfl
theorem wf_un {op : Nat} {c : Tr} (h : takesN (op, 0) = some 1) (hf : fit1T op c = true) (hc : c.WF) : (Tr.un (op, 0) c).WF := ⟨h, (fits1 h).trans hf, hc⟩
theorem wf_bin {op : Nat} {c d : Tr} (h : takesN (op, 0) = some 2) (hf : fit2T op c d = true) (hc : c.WF) (hd : d.WF) : (Tr.bin (op, 0) c d).WF := ⟨h, (fits2 h).trans hf, hc, hd⟩
/-- K and K' are formulas; of what is plain they are plain; K of a path is a path. -/
structure KOk (T : Tr) : Prop where
  w1 : (kTr T).1.WF
  p1 : pathT (kTr T).1 = pathT T
  l1 : plainT T = true → plainT (kTr T).1 = true
  w2 : pathT T = false → (kTr T).2.WF
  p2 : pathT T = false → pathT (kTr T).2 = false
  l2 : pathT T = false → plainT T = true → plainT (kTr T).2 = true
end Go.Proofs.YtnedkpbpeolfoaaDoor
namespace Go.Proofs.YtnedkpbpeolfoaaDoor
theorem takes3 {op p m : Nat} (h : takesN (op, p) = some m) : (op ≤ 5 ∧ m = 0 ∧ (op ≠ 2 → p = 0) ∧ p ≤ 7) ∨ ((6 ≤ op ∧ op ≤ 10 ∨ op = 19 ∨ op = 20 ∨ op = 23) ∧ m = 1 ∧ p = 0) ∨ ((11 ≤ op ∧ op ≤ 18 ∨ op = 21 ∨ op = 22) ∧ m = 2 ∧ p = 0) := by
  unfold takesN at h
  dsimp only at h
  split at h
  · cases h
  · next h0 =>
    split at h
    · cases h; exact Or.inl ⟨by omega, rfl, by omega, by omega⟩
    · split at h
      · cases h; exact Or.inr (Or.inl ⟨by omega, rfl, by omega⟩)
      · cases h; exact Or.inr (Or.inr ⟨by omega, rfl, by omega⟩)
theorem takes_prop {p : Nat} (h : p ≤ 7) : takesN (2, p) = some 0 := by
  unfold takesN
  dsimp only
  rw [if_neg (by omega), if_pos (by omega)]
/-- The cases of a tree that may be. -/
theorem leaf_cases {op p : Nat} (h : (Tr.leaf (op, p)).WF) : (op = 2 ∧ p ≤ 7) ∨ (p = 0 ∧ (op = 0 ∨ op = 1 ∨ op = 3 ∨ op = 4 ∨ op = 5)) := by
  rcases takes3 h.1 with ⟨h1, _, h3, h4⟩ | ⟨_, h, _⟩ | ⟨_, h, _⟩
  · by_cases e : op = 2
    · exact Or.inl ⟨e, h4⟩
    · exact Or.inr ⟨h3 e, by omega⟩
  · cases h
  · cases h
theorem un_cases {op p : Nat} {c : Tr} (h : (Tr.un (op, p) c).WF) : p = 0 ∧ c.WF ∧ fit1T op c = true ∧ (op = 6 ∨ op = 7 ∨ op = 8 ∨ op = 9 ∨ op = 10 ∨ op = 19 ∨ op = 20 ∨ op = 23) := by
  have hf := (fits1 h.1).symm.trans h.2.1
  rcases takes3 h.1 with ⟨_, h, _⟩ | ⟨h1, _, h3⟩ | ⟨_, h, _⟩
  · cases h
  · exact ⟨h3, h.2.2, hf, by omega⟩
  · cases h
theorem bin_cases {op p : Nat} {c d : Tr} (h : (Tr.bin (op, p) c d).WF) : p = 0 ∧ c.WF ∧ d.WF ∧ fit2T op c d = true ∧ (op = 11 ∨ op = 12 ∨ op = 13 ∨ op = 14 ∨ op = 15 ∨ op = 16 ∨ op = 17 ∨ op = 18 ∨ op = 21 ∨ op = 22) := by
  have hf := (fits2 h.1).symm.trans h.2.1
  rcases takes3 h.1 with ⟨_, h, _⟩ | ⟨_, h, _⟩ | ⟨h1, _, h3⟩
  · cases h
  · cases h
  · exact ⟨h3, h.2.2.1, h.2.2.2, hf, by omega⟩
theorem kOk : ∀ T : Tr, T.WF → KOk T
  | .leaf (op, p), h => by
    rcases leaf_cases h with ⟨rfl, hp⟩ | ⟨rfl, rfl | rfl | rfl | rfl | rfl⟩
    · exact ⟨wf_leaf (takes_prop hp) (by decide), rfl, fun _ => rfl, fun _ => wf_un rfl rfl (wf_leaf (takes_prop hp) (by decide)), fun _ => rfl, fun _ _ => rfl⟩
    · exact ⟨wf_leaf rfl (by decide), rfl, fun _ => rfl, fun _ => wf_leaf rfl (by decide), fun _ => rfl, fun _ _ => rfl⟩
    · exact ⟨wf_leaf rfl (by decide), rfl, fun _ => rfl, fun _ => wf_leaf rfl (by decide), fun _ => rfl, fun _ _ => rfl⟩
    · exact ⟨wf_bin rfl rfl (wf_leaf rfl (by decide)) (wf_un rfl rfl (wf_leaf rfl (by decide))), rfl, fun h => (by cases h), fun _ => wf_bin rfl rfl (wf_leaf rfl (by decide)) (wf_un rfl rfl (wf_leaf rfl (by decide))), fun _ => rfl, fun _ h => (by cases h)⟩
    · exact ⟨wf_leaf rfl (by decide), rfl, fun h => (by cases h), fun _ => wf_leaf rfl (by decide), fun _ => rfl, fun _ h => (by cases h)⟩
    · exact ⟨wf_leaf rfl (by decide), rfl, fun h => (by cases h), fun _ => wf_leaf rfl (by decide), fun _ => rfl, fun _ h => (by cases h)⟩
  | .un (op, p) c, h => by
    obtain ⟨rfl, hc, hf, ho⟩ := un_cases h
    have ih := kOk c hc
    rcases ho with rfl | rfl | rfl | rfl | rfl | rfl | rfl | rfl
    · have hn : pathT c = false := by simpa [fit1T] using hf
      have q1 := ih.p1.trans hn
      have q2 := ih.p2 hn
      exact ⟨ih.w2 hn, q2, fun h => ih.l2 hn (by rw [plain_un] at h; simpa [plainB] using h), fun _ => ih.w1, fun _ => q1, fun _ h => ih.l1 (by rw [plain_un] at h; simpa [plainB] using h)⟩
    · have hn : pathT c = false := by simpa [fit1T] using hf
      have q1 := ih.p1.trans hn
      have q2 := ih.p2 hn
      exact ⟨wf_un (op := 7) rfl (by simp [fit1T, q1]) ih.w1, rfl, fun h => by rw [plain_un] at h; simp [plainB] at h, fun _ => wf_un (op := 8) rfl (by simp [fit1T, q2]) (ih.w2 hn), fun _ => rfl, fun _ h => by rw [plain_un] at h; simp [plainB] at h⟩
    · have hn : pathT c = false := by simpa [fit1T] using hf
      have q1 := ih.p1.trans hn
      have q2 := ih.p2 hn
      exact ⟨wf_un (op := 8) rfl (by simp [fit1T, q1]) ih.w1, rfl, fun h => by rw [plain_un] at h; simp [plainB] at h, fun _ => wf_un (op := 7) rfl (by simp [fit1T, q2]) (ih.w2 hn), fun _ => rfl, fun _ h => by rw [plain_un] at h; simp [plainB] at h⟩
    · have hn : pathT c = false := by simpa [fit1T] using hf
      have q1 := ih.p1.trans hn
      have q2 := ih.p2 hn
      exact ⟨wf_bin (op := 15) rfl (by simp [fit2T, q1, path_leaf, isPathB]) (wf_leaf (op := 0) rfl (by decide)) ih.w1, rfl, fun h => by rw [plain_un] at h; simp [plainB] at h, fun _ => wf_bin (op := 16) rfl (by simp [fit2T, q2, path_leaf, isPathB]) (wf_leaf (op := 1) rfl (by decide)) (ih.w2 hn), fun _ => rfl, fun _ h => by rw [plain_un] at h; simp [plainB] at h⟩
    · have hn : pathT c = false := by simpa [fit1T] using hf
      have q1 := ih.p1.trans hn
      have q2 := ih.p2 hn
      exact ⟨wf_bin (op := 16) rfl (by simp [fit2T, q1, path_leaf, isPathB]) (wf_leaf (op := 1) rfl (by decide)) ih.w1, rfl, fun h => by rw [plain_un] at h; simp [plainB] at h, fun _ => wf_bin (op := 15) rfl (by simp [fit2T, q2, path_leaf, isPathB]) (wf_leaf (op := 0) rfl (by decide)) (ih.w2 hn), fun _ => rfl, fun _ h => by rw [plain_un] at h; simp [plainB] at h⟩
    · have hn : pathT c = false ∧ plainT c = true := by simpa [fit1T] using hf
      have q1 := ih.p1.trans hn.1
      exact ⟨wf_un (op := 19) rfl (by simp [fit1T, q1, ih.l1 hn.2]) ih.w1, rfl, fun h => by rw [plain_un] at h; simp [plainB] at h, fun h => (by cases h), fun h => (by cases h), fun h => (by cases h)⟩
    · have hn : pathT c = false := by simpa [fit1T] using hf
      have q1 := ih.p1.trans hn
      exact ⟨wf_un (op := 20) rfl (by simp [fit1T, q1]) ih.w1, rfl, fun h => by rw [plain_un] at h; simp [plainB] at h, fun h => (by cases h), fun h => (by cases h), fun h => (by cases h)⟩
    · have hn : pathT c = true := by simpa [fit1T] using hf
      have q1 := ih.p1.trans hn
      exact ⟨wf_un (op := 23) rfl (by simp [fit1T, q1]) ih.w1, rfl, fun h => by rw [plain_un] at h; simp [plainB] at h, fun h => (by cases h), fun h => (by cases h), fun h => (by cases h)⟩
  | .bin (op, p) c d, h => by
    obtain ⟨rfl, hc, hd, hf, ho⟩ := bin_cases h
    have ih := kOk c hc
    have jh := kOk d hd
    rcases ho with rfl | rfl | rfl | rfl | rfl | rfl | rfl | rfl | rfl | rfl
    · have hn : pathT c = false ∧ pathT d = false := by simpa [fit2T] using hf
      have q1 := ih.p1.trans hn.1
      have q2 := ih.p2 hn.1
      have r1 := jh.p1.trans hn.2
      have r2 := jh.p2 hn.2
      have hp : plainT (.bin (11, 0) c d) = true → plainT c = true ∧ plainT d = true := fun h => by rw [plain_bin] at h; simpa [plainB] using h
      refine ⟨wf_bin (op := 11) rfl (by simp [fit2T, q1, r1]) ih.w1 jh.w1, rfl, fun h => ?_, fun _ => wf_bin (op := 12) rfl (by simp [fit2T, q2, r2]) (ih.w2 hn.1) (jh.w2 hn.2), fun _ => rfl, fun _ h => ?_⟩
      · obtain ⟨h1, h2⟩ := hp h
        have hp := And.intro h1 h2
        show plainT (.bin (11, 0) _ _) = true
        rw [plain_bin, ih.l1 hp.1, jh.l1 hp.2]; rfl
      · obtain ⟨h1, h2⟩ := hp h
        have hp := And.intro h1 h2
        show plainT (.bin (12, 0) _ _) = true
        rw [plain_bin, ih.l2 hn.1 hp.1, jh.l2 hn.2 hp.2]; rfl
    · have hn : pathT c = false ∧ pathT d = false := by simpa [fit2T] using hf
      have q1 := ih.p1.trans hn.1
      have q2 := ih.p2 hn.1
      have r1 := jh.p1.trans hn.2
      have r2 := jh.p2 hn.2
      have hp : plainT (.bin (12, 0) c d) = true → plainT c = true ∧ plainT d = true := fun h => by rw [plain_bin] at h; simpa [plainB] using h
      refine ⟨wf_bin (op := 12) rfl (by simp [fit2T, q1, r1]) ih.w1 jh.w1, rfl, fun h => ?_, fun _ => wf_bin (op := 11) rfl (by simp [fit2T, q2, r2]) (ih.w2 hn.1) (jh.w2 hn.2), fun _ => rfl, fun _ h => ?_⟩
      · obtain ⟨h1, h2⟩ := hp h
        have hp := And.intro h1 h2
        show plainT (.bin (12, 0) _ _) = true
        rw [plain_bin, ih.l1 hp.1, jh.l1 hp.2]; rfl
      · obtain ⟨h1, h2⟩ := hp h
        have hp := And.intro h1 h2
        show plainT (.bin (11, 0) _ _) = true
        rw [plain_bin, ih.l2 hn.1 hp.1, jh.l2 hn.2 hp.2]; rfl
    · have hn : pathT c = false ∧ pathT d = false := by simpa [fit2T] using hf
      have q1 := ih.p1.trans hn.1
      have q2 := ih.p2 hn.1
      have r1 := jh.p1.trans hn.2
      have r2 := jh.p2 hn.2
      have hp : plainT (.bin (13, 0) c d) = true → plainT c = true ∧ plainT d = true := fun h => by rw [plain_bin] at h; simpa [plainB] using h
      refine ⟨wf_bin (op := 12) rfl (by simp [fit2T, q2, r1]) (ih.w2 hn.1) jh.w1, rfl, fun h => ?_, fun _ => wf_bin (op := 11) rfl (by simp [fit2T, q1, r2]) ih.w1 (jh.w2 hn.2), fun _ => rfl, fun _ h => ?_⟩
      · obtain ⟨h1, h2⟩ := hp h
        have hp := And.intro h1 h2
        show plainT (.bin (12, 0) _ _) = true
        rw [plain_bin, ih.l2 hn.1 hp.1, jh.l1 hp.2]; rfl
      · obtain ⟨h1, h2⟩ := hp h
        have hp := And.intro h1 h2
        show plainT (.bin (11, 0) _ _) = true
        rw [plain_bin, ih.l1 hp.1, jh.l2 hn.2 hp.2]; rfl
    · have hn : pathT c = false ∧ pathT d = false := by simpa [fit2T] using hf
      have q1 := ih.p1.trans hn.1
      have q2 := ih.p2 hn.1
      have r1 := jh.p1.trans hn.2
      have r2 := jh.p2 hn.2
      have hp : plainT (.bin (14, 0) c d) = true → plainT c = true ∧ plainT d = true := fun h => by rw [plain_bin] at h; simpa [plainB] using h
      refine ⟨wf_bin (op := 12) rfl rfl (wf_bin (op := 11) rfl (by simp [fit2T, q1, r1]) ih.w1 jh.w1) (wf_bin (op := 11) rfl (by simp [fit2T, q2, r2]) (ih.w2 hn.1) (jh.w2 hn.2)), rfl, fun h => ?_, fun _ => wf_bin (op := 12) rfl rfl (wf_bin (op := 11) rfl (by simp [fit2T, q1, r2]) ih.w1 (jh.w2 hn.2)) (wf_bin (op := 11) rfl (by simp [fit2T, q2, r1]) (ih.w2 hn.1) jh.w1), fun _ => rfl, fun _ h => ?_⟩
      · obtain ⟨h1, h2⟩ := hp h
        have hp := And.intro h1 h2
        show plainT (.bin (12, 0) (.bin (11, 0) _ _) (.bin (11, 0) _ _)) = true
        rw [plain_bin, plain_bin, plain_bin, ih.l1 hp.1, jh.l1 hp.2, ih.l2 hn.1 hp.1, jh.l2 hn.2 hp.2]; rfl
      · obtain ⟨h1, h2⟩ := hp h
        have hp := And.intro h1 h2
        show plainT (.bin (12, 0) (.bin (11, 0) _ _) (.bin (11, 0) _ _)) = true
        rw [plain_bin, plain_bin, plain_bin, ih.l1 hp.1, jh.l2 hn.2 hp.2, ih.l2 hn.1 hp.1, jh.l1 hp.2]; rfl
    · have hn : pathT c = false ∧ pathT d = false := by simpa [fit2T] using hf
      have q1 := ih.p1.trans hn.1
      have q2 := ih.p2 hn.1
      have r1 := jh.p1.trans hn.2
      have r2 := jh.p2 hn.2
      exact ⟨wf_bin (op := 15) rfl (by simp [fit2T, q1, r1]) ih.w1 jh.w1, rfl, fun h => by rw [plain_bin] at h; simp [plainB] at h, fun _ => wf_bin (op := 16) rfl (by simp [fit2T, q2, r2]) (ih.w2 hn.1) (jh.w2 hn.2), fun _ => rfl, fun _ h => by rw [plain_bin] at h; simp [plainB] at h⟩
    · have hn : pathT c = false ∧ pathT d = false := by simpa [fit2T] using hf
      have q1 := ih.p1.trans hn.1
      have q2 := ih.p2 hn.1
      have r1 := jh.p1.trans hn.2
      have r2 := jh.p2 hn.2
      exact ⟨wf_bin (op := 16) rfl (by simp [fit2T, q1, r1]) ih.w1 jh.w1, rfl, fun h => by rw [plain_bin] at h; simp [plainB] at h, fun _ => wf_bin (op := 15) rfl (by simp [fit2T, q2, r2]) (ih.w2 hn.1) (jh.w2 hn.2), fun _ => rfl, fun _ h => by rw [plain_bin] at h; simp [plainB] at h⟩
    · have hn : pathT c = true ∧ pathT d = false := by simpa [fit2T] using hf
      have q1 := ih.p1.trans hn.1
      have r1 := jh.p1.trans hn.2
      have r2 := jh.p2 hn.2
      exact ⟨wf_bin (op := 17) rfl (by simp [fit2T, q1, r1]) ih.w1 jh.w1, rfl, fun h => by rw [plain_bin] at h; simp [plainB] at h, fun _ => wf_bin (op := 18) rfl (by simp [fit2T, q1, r2]) ih.w1 (jh.w2 hn.2), fun _ => rfl, fun _ h => by rw [plain_bin] at h; simp [plainB] at h⟩
    · have hn : pathT c = true ∧ pathT d = false := by simpa [fit2T] using hf
      have q1 := ih.p1.trans hn.1
      have r1 := jh.p1.trans hn.2
      have r2 := jh.p2 hn.2
      exact ⟨wf_bin (op := 18) rfl (by simp [fit2T, q1, r1]) ih.w1 jh.w1, rfl, fun h => by rw [plain_bin] at h; simp [plainB] at h, fun _ => wf_bin (op := 17) rfl (by simp [fit2T, q1, r2]) ih.w1 (jh.w2 hn.2), fun _ => rfl, fun _ h => by rw [plain_bin] at h; simp [plainB] at h⟩
    · have hn : pathT c = true ∧ pathT d = true := by simpa [fit2T] using hf
      have q1 := ih.p1.trans hn.1
      have r1 := jh.p1.trans hn.2
      exact ⟨wf_bin (op := 21) rfl (by simp [fit2T, q1, r1]) ih.w1 jh.w1, rfl, fun h => by rw [plain_bin] at h; simp [plainB] at h, fun h => (by cases h), fun h => (by cases h), fun h => (by cases h)⟩
    · have hn : pathT c = true ∧ pathT d = true := by simpa [fit2T] using hf
      have q1 := ih.p1.trans hn.1
      have r1 := jh.p1.trans hn.2
      exact ⟨wf_bin (op := 22) rfl (by simp [fit2T, q1, r1]) ih.w1 jh.w1, rfl, fun h => by rw [plain_bin] at h; simp [plainB] at h, fun h => (by cases h), fun h => (by cases h), fun h => (by cases h)⟩
end Go.Proofs.YtnedkpbpeolfoaaDoor
namespace Go.Proofs.YtnedkpbpeolfoaaDoor
section
variable {t : List Nat}
/-- K means what T means, K' just the opposite. -/
structure KMn (t : List Nat) (T : Tr) : Prop where
  f1 : pathT T = false → ∀ i, i ≤ t.length → ((semTr t (kTr T).1).1 i ↔ (semTr t T).1 i)
  f2 : pathT T = false → ∀ i, i ≤ t.length → ((semTr t (kTr T).2).1 i ↔ ¬ (semTr t T).1 i)
  w1 : pathT T = true → ∀ i, i ≤ t.length → ∀ k, ((semTr t (kTr T).1).2 i k ↔ (semTr t T).2 i k)
theorem not_un {n : Nat} {A A' : Nat → Prop} (h : ∀ i, i ≤ n → (A' i ↔ ¬ A i)) (i : Nat) : (unV n 7 A' i ↔ ¬ unV n 8 A i) ∧ (unV n 8 A' i ↔ ¬ unV n 7 A i) := by
  simp [unV]
  constructor
  · intro h1; exact h _ (by omega)
  · constructor
    · intro h1 h2; exact (h _ (by omega)).1 (h1 h2)
    · intro h1 h2; exact (h _ (by omega)).2 (h1 h2)
theorem same_un {n op : Nat} {A A' : Nat → Prop} (ho : op = 7 ∨ op = 8) (h : ∀ i, i ≤ n → (A' i ↔ A i)) (i : Nat) : unV n op A' i ↔ unV n op A i := by
  rcases ho with rfl | rfl
  · simp [unV]; intro h1; exact h _ (by omega)
  · simp [unV]
    constructor
    · intro h1 h2; exact (h _ (by omega)).1 (h1 h2)
    · intro h1 h2; exact (h _ (by omega)).2 (h1 h2)
theorem same_until {n : Nat} {x y x' y' : Sv} (hx : ∀ i, i ≤ n → (x'.1 i ↔ x.1 i)) (hy : ∀ i, i ≤ n → (y'.1 i ↔ y.1 i)) (i : Nat) : (binV n 15 x' y' i ↔ binV n 15 x y i) ∧ (binV n 16 x' y' i ↔ binV n 16 x y i) := by
  simp [binV]
  constructor
  · constructor
    · rintro ⟨j, h1, h2, h3, h4⟩; exact ⟨j, h1, h2, (hy j (by omega)).1 h3, fun k k1 k2 => (hx k (by omega)).1 (h4 k k1 k2)⟩
    · rintro ⟨j, h1, h2, h3, h4⟩; exact ⟨j, h1, h2, (hy j (by omega)).2 h3, fun k k1 k2 => (hx k (by omega)).2 (h4 k k1 k2)⟩
  · constructor
    · intro h j h1 h2
      rcases h j h1 h2 with h | ⟨k, k1, k2, k3⟩
      · exact Or.inl ((hy j (by omega)).1 h)
      · exact Or.inr ⟨k, k1, k2, (hx k (by omega)).1 k3⟩
    · intro h j h1 h2
      rcases h j h1 h2 with h | ⟨k, k1, k2, k3⟩
      · exact Or.inl ((hy j (by omega)).2 h)
      · exact Or.inr ⟨k, k1, k2, (hx k (by omega)).2 k3⟩
theorem not_until {n : Nat} {x y x' y' : Sv} (hx : ∀ i, i ≤ n → (x'.1 i ↔ ¬ x.1 i)) (hy : ∀ i, i ≤ n → (y'.1 i ↔ ¬ y.1 i)) (i : Nat) : (binV n 15 x' y' i ↔ ¬ binV n 16 x y i) ∧ (binV n 16 x' y' i ↔ ¬ binV n 15 x y i) := by
  simp [binV]
  constructor
  · constructor
    · rintro ⟨j, h1, h2, h3, h4⟩
      exact ⟨j, h1, h2, (hy j (by omega)).1 h3, fun k k1 k2 => (hx k (by omega)).1 (h4 k k1 k2)⟩
    · rintro ⟨j, h1, h2, h3, h4⟩
      exact ⟨j, h1, h2, (hy j (by omega)).2 h3, fun k k1 k2 => (hx k (by omega)).2 (h4 k k1 k2)⟩
  · constructor
    · intro h j h1 h2 h3
      rcases h j h1 h2 with h | ⟨k, k1, k2, k3⟩
      · exact absurd h3 ((hy j (by omega)).1 h)
      · exact ⟨k, k1, k2, (hx k (by omega)).1 k3⟩
    · intro h j h1 h2
      by_cases h3 : y.1 j
      · obtain ⟨k, k1, k2, k3⟩ := h j h1 h2 h3
        exact Or.inr ⟨k, k1, k2, (hx k (by omega)).2 k3⟩
      · exact Or.inl ((hy j (by omega)).2 h3)
end
theorem kMn (t : List Nat) : ∀ T : Tr, T.WF → KMn t T
  | .leaf (op, p), h => by
    rcases leaf_cases h with ⟨rfl, hp⟩ | ⟨rfl, rfl | rfl | rfl | rfl | rfl⟩
    · exact ⟨fun _ _ _ => Iff.rfl, fun _ i _ => by show (semT t 6 0 [semT t 2 p []]).1 i ↔ _; simp [semT, unV, semTr], fun h => (by cases h)⟩
    · exact ⟨fun _ _ _ => Iff.rfl, fun _ i _ => by show (semT t 1 0 []).1 i ↔ ¬ (semT t 0 0 []).1 i; simp [semT, leafV], fun h => (by cases h)⟩
    · exact ⟨fun _ _ _ => Iff.rfl, fun _ i _ => by show (semT t 0 0 []).1 i ↔ ¬ (semT t 1 0 []).1 i; simp [semT, leafV], fun h => (by cases h)⟩
    · refine ⟨fun _ i hi => (dual_last t i).symm, fun _ i hi => ?_, fun h => (by cases h)⟩
      show (semT t 12 0 [semT t 5 0 [], semT t 7 0 [semT t 0 0 []]]).1 i ↔ ¬ (semT t 3 0 []).1 i
      simp [semT, unV, binV, leafV]; omega
    · exact ⟨fun _ _ _ => Iff.rfl, fun _ i hi => by show (semT t 5 0 []).1 i ↔ ¬ (semT t 4 0 []).1 i; simp [semT, leafV]; omega, fun h => (by cases h)⟩
    · exact ⟨fun _ _ _ => Iff.rfl, fun _ i hi => by show (semT t 4 0 []).1 i ↔ ¬ (semT t 5 0 []).1 i; simp [semT, leafV]; omega, fun h => (by cases h)⟩
  | .un (op, p) c, h => by
    obtain ⟨rfl, hc, hf, ho⟩ := un_cases h
    have ih := kMn t c hc
    have hwi := ways_in t c hc
    rcases ho with rfl | rfl | rfl | rfl | rfl | rfl | rfl | rfl
    · have hn : pathT c = false := by simpa [fit1T] using hf
      have f1 := ih.f1 hn
      have f2 := ih.f2 hn
      refine ⟨fun _ i hi => ?_, fun _ i hi => ?_, fun h => (by cases h)⟩
      · show (semTr t (kTr c).2).1 i ↔ (semT t 6 0 [semTr t c]).1 i
        rw [f2 i hi]; simp [semT, unV]
      · show (semTr t (kTr c).1).1 i ↔ ¬ (semT t 6 0 [semTr t c]).1 i
        rw [f1 i hi]; simp [semT, unV]
    · have hn : pathT c = false := by simpa [fit1T] using hf
      exact ⟨fun _ i hi => same_un (Or.inl rfl) (ih.f1 hn) i, fun _ i hi => (not_un (ih.f2 hn) i).2, fun h => (by cases h)⟩
    · have hn : pathT c = false := by simpa [fit1T] using hf
      exact ⟨fun _ i hi => same_un (Or.inr rfl) (ih.f1 hn) i, fun _ i hi => (not_un (ih.f2 hn) i).1, fun h => (by cases h)⟩
    · have hn : pathT c = false := by simpa [fit1T] using hf
      refine ⟨fun _ i hi => ?_, fun _ i hi => ?_, fun h => (by cases h)⟩
      · exact (same_until (x := semT t 0 0 []) (x' := semT t 0 0 []) (fun _ _ => Iff.rfl) (ih.f1 hn) i).1.trans (dual_finally t _ i).symm
      · have := (not_until (n := t.length) (x := semT t 0 0 []) (x' := semT t 1 0 []) (fun j _ => by simp [semT, leafV]) (ih.f2 hn) i).2
        exact this.trans (not_congr (dual_finally t _ i).symm)
    · have hn : pathT c = false := by simpa [fit1T] using hf
      refine ⟨fun _ i hi => ?_, fun _ i hi => ?_, fun h => (by cases h)⟩
      · exact (same_until (x := semT t 1 0 []) (x' := semT t 1 0 []) (fun _ _ => Iff.rfl) (ih.f1 hn) i).2.trans (dual_globally t _ i).symm
      · have := (not_until (n := t.length) (x := semT t 1 0 []) (x' := semT t 0 0 []) (fun j _ => by simp [semT, leafV]) (ih.f2 hn) i).1
        exact this.trans (not_congr (dual_globally t _ i).symm)
    · have hn : pathT c = false ∧ plainT c = true := by simpa [fit1T] using hf
      refine ⟨fun h => (by cases h), fun h => (by cases h), fun _ i hi k => ?_⟩
      show unY t.length 19 (semTr t (kTr c).1) i k ↔ unY t.length 19 (semTr t c) i k
      simp only [unY, if_true]
      rw [ih.f1 hn.1 i hi]
    · have hn : pathT c = false := by simpa [fit1T] using hf
      refine ⟨fun h => (by cases h), fun h => (by cases h), fun _ i hi k => ?_⟩
      show unY t.length 20 (semTr t (kTr c).1) i k ↔ unY t.length 20 (semTr t c) i k
      simp only [unY, if_neg (show ¬ (20 = 19) by decide), if_true]
      rw [ih.f1 hn i hi]
    · have hn : pathT c = true := by simpa [fit1T] using hf
      refine ⟨fun h => (by cases h), fun h => (by cases h), fun _ i hi k => ?_⟩
      show unY t.length 23 (semTr t (kTr c).1) i k ↔ unY t.length 23 (semTr t c) i k
      simp only [unY, if_neg (show ¬ (23 = 19) by decide), if_neg (show ¬ (23 = 20) by decide)]
      have hst : ∀ m i k, i ≤ t.length → (stepsP (semTr t (kTr c).1).2 m i k ↔ stepsP (semTr t c).2 m i k) := by
        intro m
        induction m with
        | zero => intro i k _; exact Iff.rfl
        | succ m im =>
          intro i k hi
          constructor
          · rintro ⟨j, h1, h2⟩
            have h1' := (ih.w1 hn i hi j).1 h1
            exact ⟨j, h1', (im j k (hwi i j hi h1').2).1 h2⟩
          · rintro ⟨j, h1, h2⟩
            exact ⟨j, (ih.w1 hn i hi j).2 h1, (im j k (hwi i j hi h1).2).2 h2⟩
      exact exists_congr fun m => hst m i k hi
  | .bin (op, p) c d, h => by
    obtain ⟨rfl, hc, hd, hf, ho⟩ := bin_cases h
    have ih := kMn t c hc
    have jh := kMn t d hd
    have hwi := ways_in t c hc
    rcases ho with rfl | rfl | rfl | rfl | rfl | rfl | rfl | rfl | rfl | rfl
    · have hn : pathT c = false ∧ pathT d = false := by simpa [fit2T] using hf
      refine ⟨fun _ i hi => ?_, fun _ i hi => ?_, fun h => (by cases h)⟩
      · show binV t.length 11 (semTr t (kTr c).1) (semTr t (kTr d).1) i ↔ binV t.length 11 (semTr t c) (semTr t d) i
        simp only [binV, if_true]; rw [ih.f1 hn.1 i hi, jh.f1 hn.2 i hi]
      · show binV t.length 12 (semTr t (kTr c).2) (semTr t (kTr d).2) i ↔ ¬ binV t.length 11 (semTr t c) (semTr t d) i
        simp only [binV, if_neg (show ¬ (12 = 11) by decide), if_true]; rw [ih.f2 hn.1 i hi, jh.f2 hn.2 i hi]
        by_cases hx : (semTr t c).1 i <;> simp [hx]
    · have hn : pathT c = false ∧ pathT d = false := by simpa [fit2T] using hf
      refine ⟨fun _ i hi => ?_, fun _ i hi => ?_, fun h => (by cases h)⟩
      · show binV t.length 12 (semTr t (kTr c).1) (semTr t (kTr d).1) i ↔ binV t.length 12 (semTr t c) (semTr t d) i
        simp only [binV, if_neg (show ¬ (12 = 11) by decide), if_true]; rw [ih.f1 hn.1 i hi, jh.f1 hn.2 i hi]
      · show binV t.length 11 (semTr t (kTr c).2) (semTr t (kTr d).2) i ↔ ¬ binV t.length 12 (semTr t c) (semTr t d) i
        simp only [binV, if_neg (show ¬ (12 = 11) by decide), if_true]; rw [ih.f2 hn.1 i hi, jh.f2 hn.2 i hi]
        exact not_or.symm
    · have hn : pathT c = false ∧ pathT d = false := by simpa [fit2T] using hf
      refine ⟨fun _ i hi => ?_, fun _ i hi => ?_, fun h => (by cases h)⟩
      · show binV t.length 12 (semTr t (kTr c).2) (semTr t (kTr d).1) i ↔ binV t.length 13 (semTr t c) (semTr t d) i
        simp only [binV, if_neg (show ¬ (12 = 11) by decide), if_neg (show ¬ (13 = 11) by decide), if_neg (show ¬ (13 = 12) by decide), if_true]; rw [ih.f2 hn.1 i hi, jh.f1 hn.2 i hi]
        by_cases hx : (semTr t c).1 i <;> simp [hx]
      · show binV t.length 11 (semTr t (kTr c).1) (semTr t (kTr d).2) i ↔ ¬ binV t.length 13 (semTr t c) (semTr t d) i
        simp only [binV, if_neg (show ¬ (13 = 11) by decide), if_neg (show ¬ (13 = 12) by decide), if_true]; rw [ih.f1 hn.1 i hi, jh.f2 hn.2 i hi]
        by_cases hx : (semTr t c).1 i <;> simp [hx]
    · have hn : pathT c = false ∧ pathT d = false := by simpa [fit2T] using hf
      refine ⟨fun _ i hi => ?_, fun _ i hi => ?_, fun h => (by cases h)⟩
      · show binV t.length 12 (semT t 11 0 [semTr t (kTr c).1, semTr t (kTr d).1]) (semT t 11 0 [semTr t (kTr c).2, semTr t (kTr d).2]) i ↔ binV t.length 14 (semTr t c) (semTr t d) i
        simp only [semT, binV, if_neg (show ¬ (12 = 11) by decide), if_neg (show ¬ (14 = 11) by decide), if_neg (show ¬ (14 = 12) by decide), if_neg (show ¬ (14 = 13) by decide), if_true]
        rw [ih.f1 hn.1 i hi, jh.f1 hn.2 i hi, ih.f2 hn.1 i hi, jh.f2 hn.2 i hi]
        by_cases hx : (semTr t c).1 i <;> by_cases hy : (semTr t d).1 i <;> simp [hx, hy]
      · show binV t.length 12 (semT t 11 0 [semTr t (kTr c).1, semTr t (kTr d).2]) (semT t 11 0 [semTr t (kTr c).2, semTr t (kTr d).1]) i ↔ ¬ binV t.length 14 (semTr t c) (semTr t d) i
        simp only [semT, binV, if_neg (show ¬ (12 = 11) by decide), if_neg (show ¬ (14 = 11) by decide), if_neg (show ¬ (14 = 12) by decide), if_neg (show ¬ (14 = 13) by decide), if_true]
        rw [ih.f1 hn.1 i hi, jh.f1 hn.2 i hi, ih.f2 hn.1 i hi, jh.f2 hn.2 i hi]
        by_cases hx : (semTr t c).1 i <;> by_cases hy : (semTr t d).1 i <;> simp [hx, hy]
    · have hn : pathT c = false ∧ pathT d = false := by simpa [fit2T] using hf
      exact ⟨fun _ i hi => (same_until (ih.f1 hn.1) (jh.f1 hn.2) i).1, fun _ i hi => (not_until (ih.f2 hn.1) (jh.f2 hn.2) i).2, fun h => (by cases h)⟩
    · have hn : pathT c = false ∧ pathT d = false := by simpa [fit2T] using hf
      exact ⟨fun _ i hi => (same_until (ih.f1 hn.1) (jh.f1 hn.2) i).2, fun _ i hi => (not_until (ih.f2 hn.1) (jh.f2 hn.2) i).1, fun h => (by cases h)⟩
    · have hn : pathT c = true ∧ pathT d = false := by simpa [fit2T] using hf
      refine ⟨fun _ i hi => ?_, fun _ i hi => ?_, fun h => (by cases h)⟩
      · show binV t.length 17 (semTr t (kTr c).1) (semTr t (kTr d).1) i ↔ binV t.length 17 (semTr t c) (semTr t d) i
        simp [binV]
        constructor
        · rintro ⟨k, h1, h2⟩
          have h1' := (ih.w1 hn.1 i hi k).1 h1
          exact ⟨k, h1', (jh.f1 hn.2 k (hwi i k hi h1').2).1 h2⟩
        · rintro ⟨k, h1, h2⟩
          exact ⟨k, (ih.w1 hn.1 i hi k).2 h1, (jh.f1 hn.2 k (hwi i k hi h1).2).2 h2⟩
      · show binV t.length 18 (semTr t (kTr c).1) (semTr t (kTr d).2) i ↔ ¬ binV t.length 17 (semTr t c) (semTr t d) i
        simp [binV]
        constructor
        · intro h k h1
          exact (jh.f2 hn.2 k (hwi i k hi h1).2).1 (h k ((ih.w1 hn.1 i hi k).2 h1))
        · intro h k h1
          have h1' := (ih.w1 hn.1 i hi k).1 h1
          exact (jh.f2 hn.2 k (hwi i k hi h1').2).2 (h k h1')
    · have hn : pathT c = true ∧ pathT d = false := by simpa [fit2T] using hf
      refine ⟨fun _ i hi => ?_, fun _ i hi => ?_, fun h => (by cases h)⟩
      · show binV t.length 18 (semTr t (kTr c).1) (semTr t (kTr d).1) i ↔ binV t.length 18 (semTr t c) (semTr t d) i
        simp [binV]
        constructor
        · intro h k h1
          exact (jh.f1 hn.2 k (hwi i k hi h1).2).1 (h k ((ih.w1 hn.1 i hi k).2 h1))
        · intro h k h1
          have h1' := (ih.w1 hn.1 i hi k).1 h1
          exact (jh.f1 hn.2 k (hwi i k hi h1').2).2 (h k h1')
      · show binV t.length 17 (semTr t (kTr c).1) (semTr t (kTr d).2) i ↔ ¬ binV t.length 18 (semTr t c) (semTr t d) i
        simp [binV]
        constructor
        · rintro ⟨k, h1, h2⟩
          have h1' := (ih.w1 hn.1 i hi k).1 h1
          exact ⟨k, h1', (jh.f2 hn.2 k (hwi i k hi h1').2).1 h2⟩
        · rintro ⟨k, h1, h2⟩
          exact ⟨k, (ih.w1 hn.1 i hi k).2 h1, (jh.f2 hn.2 k (hwi i k hi h1).2).2 h2⟩
    · have hn : pathT c = true ∧ pathT d = true := by simpa [fit2T] using hf
      refine ⟨fun h => (by cases h), fun h => (by cases h), fun _ i hi k => ?_⟩
      show binY 21 (semTr t (kTr c).1) (semTr t (kTr d).1) i k ↔ binY 21 (semTr t c) (semTr t d) i k
      simp only [binY, if_true]; rw [ih.w1 hn.1 i hi k, jh.w1 hn.2 i hi k]
    · have hn : pathT c = true ∧ pathT d = true := by simpa [fit2T] using hf
      refine ⟨fun h => (by cases h), fun h => (by cases h), fun _ i hi k => ?_⟩
      show binY 22 (semTr t (kTr c).1) (semTr t (kTr d).1) i k ↔ binY 22 (semTr t c) (semTr t d) i k
      simp only [binY, if_neg (show ¬ (22 = 21) by decide)]
      constructor
      · rintro ⟨j, h1, h2⟩
        have h1' := (ih.w1 hn.1 i hi j).1 h1
        exact ⟨j, h1', (jh.w1 hn.2 j (hwi i j hi h1').2 k).1 h2⟩
      · rintro ⟨j, h1, h2⟩
        exact ⟨j, (ih.w1 hn.1 i hi j).2 h1, (jh.w1 hn.2 j (hwi i j hi h1).2 k).2 h2⟩
end Go.Proofs.YtnedkpbpeolfoaaDoor
namespace Go.Proofs.YtnedkpbpeolfoaaDoor
/-- Is a tree a kernel formula's, or a path's of one? -/
def kerT : Tr → Bool
  | .leaf (op, _) => op != 3
  | .un (op, _) c => if op = 6 then (match c with | .leaf (o, _) => o == 2 | _ => false) else (op == 7 || op == 8 || op == 19 || op == 20 || op == 23) && kerT c
  | .bin (op, _) c d => (op != 13 && op != 14) && (kerT c && kerT d)
theorem ker_k : ∀ T : Tr, T.WF → kerT (kTr T).1 = true ∧ (pathT T = false → kerT (kTr T).2 = true)
  | .leaf (op, p), h => by
    rcases leaf_cases h with ⟨rfl, hp⟩ | ⟨rfl, rfl | rfl | rfl | rfl | rfl⟩ <;> exact ⟨rfl, fun _ => rfl⟩
  | .un (op, p) c, h => by
    obtain ⟨rfl, hc, hf, ho⟩ := un_cases h
    have ih := ker_k c hc
    rcases ho with rfl | rfl | rfl | rfl | rfl | rfl | rfl | rfl
    · have hn : pathT c = false := by simpa [fit1T] using hf
      exact ⟨ih.2 hn, fun _ => ih.1⟩
    · have hn : pathT c = false := by simpa [fit1T] using hf
      exact ⟨by show kerT (.un (7, 0) _) = true; simp [kerT, ih.1], fun _ => by show kerT (.un (8, 0) _) = true; simp [kerT, ih.2 hn]⟩
    · have hn : pathT c = false := by simpa [fit1T] using hf
      exact ⟨by show kerT (.un (8, 0) _) = true; simp [kerT, ih.1], fun _ => by show kerT (.un (7, 0) _) = true; simp [kerT, ih.2 hn]⟩
    · have hn : pathT c = false := by simpa [fit1T] using hf
      exact ⟨by show kerT (.bin (15, 0) _ _) = true; simp [kerT, ih.1], fun _ => by show kerT (.bin (16, 0) _ _) = true; simp [kerT, ih.2 hn]⟩
    · have hn : pathT c = false := by simpa [fit1T] using hf
      exact ⟨by show kerT (.bin (16, 0) _ _) = true; simp [kerT, ih.1], fun _ => by show kerT (.bin (15, 0) _ _) = true; simp [kerT, ih.2 hn]⟩
    · exact ⟨by show kerT (.un (19, 0) _) = true; simp [kerT, ih.1], fun h => (by cases h)⟩
    · exact ⟨by show kerT (.un (20, 0) _) = true; simp [kerT, ih.1], fun h => (by cases h)⟩
    · exact ⟨by show kerT (.un (23, 0) _) = true; simp [kerT, ih.1], fun h => (by cases h)⟩
  | .bin (op, p) c d, h => by
    obtain ⟨rfl, hc, hd, hf, ho⟩ := bin_cases h
    have ih := ker_k c hc
    have jh := ker_k d hd
    rcases ho with rfl | rfl | rfl | rfl | rfl | rfl | rfl | rfl | rfl | rfl
    · have hn : pathT c = false ∧ pathT d = false := by simpa [fit2T] using hf
      exact ⟨by show kerT (.bin (11, 0) _ _) = true; simp [kerT, ih.1, jh.1], fun _ => by show kerT (.bin (12, 0) _ _) = true; simp [kerT, ih.2 hn.1, jh.2 hn.2]⟩
    · have hn : pathT c = false ∧ pathT d = false := by simpa [fit2T] using hf
      exact ⟨by show kerT (.bin (12, 0) _ _) = true; simp [kerT, ih.1, jh.1], fun _ => by show kerT (.bin (11, 0) _ _) = true; simp [kerT, ih.2 hn.1, jh.2 hn.2]⟩
    · have hn : pathT c = false ∧ pathT d = false := by simpa [fit2T] using hf
      exact ⟨by show kerT (.bin (12, 0) _ _) = true; simp [kerT, ih.2 hn.1, jh.1], fun _ => by show kerT (.bin (11, 0) _ _) = true; simp [kerT, ih.1, jh.2 hn.2]⟩
    · have hn : pathT c = false ∧ pathT d = false := by simpa [fit2T] using hf
      exact ⟨by show kerT (.bin (12, 0) (.bin (11, 0) _ _) (.bin (11, 0) _ _)) = true; simp [kerT, ih.1, jh.1, ih.2 hn.1, jh.2 hn.2], fun _ => by show kerT (.bin (12, 0) (.bin (11, 0) _ _) (.bin (11, 0) _ _)) = true; simp [kerT, ih.1, jh.1, ih.2 hn.1, jh.2 hn.2]⟩
    · have hn : pathT c = false ∧ pathT d = false := by simpa [fit2T] using hf
      exact ⟨by show kerT (.bin (15, 0) _ _) = true; simp [kerT, ih.1, jh.1], fun _ => by show kerT (.bin (16, 0) _ _) = true; simp [kerT, ih.2 hn.1, jh.2 hn.2]⟩
    · have hn : pathT c = false ∧ pathT d = false := by simpa [fit2T] using hf
      exact ⟨by show kerT (.bin (16, 0) _ _) = true; simp [kerT, ih.1, jh.1], fun _ => by show kerT (.bin (15, 0) _ _) = true; simp [kerT, ih.2 hn.1, jh.2 hn.2]⟩
    · have hn : pathT c = true ∧ pathT d = false := by simpa [fit2T] using hf
      exact ⟨by show kerT (.bin (17, 0) _ _) = true; simp [kerT, ih.1, jh.1], fun _ => by show kerT (.bin (18, 0) _ _) = true; simp [kerT, ih.1, jh.2 hn.2]⟩
    · have hn : pathT c = true ∧ pathT d = false := by simpa [fit2T] using hf
      exact ⟨by show kerT (.bin (18, 0) _ _) = true; simp [kerT, ih.1, jh.1], fun _ => by show kerT (.bin (17, 0) _ _) = true; simp [kerT, ih.1, jh.2 hn.2]⟩
    · exact ⟨by show kerT (.bin (21, 0) _ _) = true; simp [kerT, ih.1, jh.1], fun h => (by cases h)⟩
    · exact ⟨by show kerT (.bin (22, 0) _ _) = true; simp [kerT, ih.1, jh.1], fun h => (by cases h)⟩
/-- K of a kernel formula is itself; the negation of its negation is the formula. -/
theorem ker_same : ∀ T : Tr, T.WF → kerT T = true → (kTr T).1 = T ∧ (pathT T = false → (kTr (kTr T).2).2 = T)
  | .leaf (op, p), h, hk => by
    rcases leaf_cases h with ⟨rfl, hp⟩ | ⟨rfl, rfl | rfl | rfl | rfl | rfl⟩
    · exact ⟨rfl, fun _ => rfl⟩
    · exact ⟨rfl, fun _ => rfl⟩
    · exact ⟨rfl, fun _ => rfl⟩
    · cases hk
    · exact ⟨rfl, fun _ => rfl⟩
    · exact ⟨rfl, fun _ => rfl⟩
  | .un (op, p) c, h, hk => by
    obtain ⟨rfl, hc, hf, ho⟩ := un_cases h
    rcases ho with rfl | rfl | rfl | rfl | rfl | rfl | rfl | rfl
    · match c, hk with
      | .leaf (o, q), hk =>
        obtain rfl : o = 2 := by simpa [kerT] using hk
        exact ⟨rfl, fun _ => rfl⟩
    · have hn : pathT c = false := by simpa [fit1T] using hf
      have ih := ker_same c hc (by simpa [kerT] using hk)
      exact ⟨congrArg (Tr.un (7, 0)) ih.1, fun _ => congrArg (Tr.un (7, 0)) (ih.2 hn)⟩
    · have hn : pathT c = false := by simpa [fit1T] using hf
      have ih := ker_same c hc (by simpa [kerT] using hk)
      exact ⟨congrArg (Tr.un (8, 0)) ih.1, fun _ => congrArg (Tr.un (8, 0)) (ih.2 hn)⟩
    · simp [kerT] at hk
    · simp [kerT] at hk
    · have ih := ker_same c hc (by simpa [kerT] using hk)
      exact ⟨congrArg (Tr.un (19, 0)) ih.1, fun h => (by cases h)⟩
    · have ih := ker_same c hc (by simpa [kerT] using hk)
      exact ⟨congrArg (Tr.un (20, 0)) ih.1, fun h => (by cases h)⟩
    · have ih := ker_same c hc (by simpa [kerT] using hk)
      exact ⟨congrArg (Tr.un (23, 0)) ih.1, fun h => (by cases h)⟩
  | .bin (op, p) c d, h, hk => by
    obtain ⟨rfl, hc, hd, hf, ho⟩ := bin_cases h
    have hkk : kerT c = true ∧ kerT d = true := by
      have := hk
      simp [kerT] at this
      exact this.2
    have ih := ker_same c hc hkk.1
    have jh := ker_same d hd hkk.2
    have two : ∀ (op : Nat) {a b a' b' : Tr}, a = a' → b = b' → Tr.bin (op, 0) a b = Tr.bin (op, 0) a' b' := fun op a b a' b' h1 h2 => by rw [h1, h2]
    rcases ho with rfl | rfl | rfl | rfl | rfl | rfl | rfl | rfl | rfl | rfl
    · have hn : pathT c = false ∧ pathT d = false := by simpa [fit2T] using hf
      exact ⟨two 11 ih.1 jh.1, fun _ => two 11 (ih.2 hn.1) (jh.2 hn.2)⟩
    · have hn : pathT c = false ∧ pathT d = false := by simpa [fit2T] using hf
      exact ⟨two 12 ih.1 jh.1, fun _ => two 12 (ih.2 hn.1) (jh.2 hn.2)⟩
    · simp [kerT] at hk
    · simp [kerT] at hk
    · have hn : pathT c = false ∧ pathT d = false := by simpa [fit2T] using hf
      exact ⟨two 15 ih.1 jh.1, fun _ => two 15 (ih.2 hn.1) (jh.2 hn.2)⟩
    · have hn : pathT c = false ∧ pathT d = false := by simpa [fit2T] using hf
      exact ⟨two 16 ih.1 jh.1, fun _ => two 16 (ih.2 hn.1) (jh.2 hn.2)⟩
    · have hn : pathT c = true ∧ pathT d = false := by simpa [fit2T] using hf
      exact ⟨two 17 ih.1 jh.1, fun _ => two 17 (by rw [ih.1, ih.1]) (jh.2 hn.2)⟩
    · have hn : pathT c = true ∧ pathT d = false := by simpa [fit2T] using hf
      exact ⟨two 18 ih.1 jh.1, fun _ => two 18 (by rw [ih.1, ih.1]) (jh.2 hn.2)⟩
    · exact ⟨two 21 ih.1 jh.1, fun h => (by cases h)⟩
    · exact ⟨two 22 ih.1 jh.1, fun h => (by cases h)⟩
/-- Is it a kernel formula? -/
def IsKer (ts : List Tk) : Prop := ∃ T : Tr, T.WF ∧ pathT T = false ∧ kerT T = true ∧ ts = T.flat
open Classical in
noncomputable def chkE (ts : List Tk) : Nat := if 2048 < ts.length then 3 else if IsKer ts then 0 else 7
theorem chk_zero {ts : List Tk} : chkE ts = 0 ↔ ts.length ≤ 2048 ∧ IsKer ts := by
  unfold chkE
  split
  · exact ⟨fun h => (by cases h), fun h => absurd h.1 (by omega)⟩
  · split
    · next h1 h2 => exact ⟨fun _ => ⟨by omega, h2⟩, fun _ => rfl⟩
    · next h1 h2 => exact ⟨fun h => (by cases h), fun h => absurd h.2 h2⟩
end Go.Proofs.YtnedkpbpeolfoaaDoor
namespace Go.Proofs.YtnedkpbpeolfoaaDoor
/-- The obligations that were met, each by its tokens. -/
abbrev Mt := List (List Tk)
/-- A list of sets and the obligations met by then; none: refused. -/
abbrev Rt := Option (List Nat × Mt)
def bindM (r : Rt) (k : List Nat → Mt → Rt) : Rt := match r with
  | some (l, M) => k l M
  | none => none
theorem bindM_some {r : Rt} {k : List Nat → Mt → Rt} {z : List Nat × Mt} (h : bindM r k = some z) : ∃ l M, r = some (l, M) ∧ k l M = some z := by
  cases r with
  | none => cases h
  | some y => obtain ⟨l, M⟩ := y; exact ⟨l, M, rfl, h⟩
def meetM (f : List Tk) (M : Mt) : Rt := match M.findIdx? (· == f) with
  | some i => some ([2 ^ i], M)
  | none => if M.length < 64 then some ([2 ^ M.length], M ++ [f]) else none
def andM (a b : List Nat) : Option (List Nat) := if a.length * b.length ≤ 1024 then some (leastL (uniL a b)) else none
def orM (a b : List Nat) : Option (List Nat) := if a.length + b.length ≤ 1024 then some (leastL (a ++ b)) else none
/-- And of two lists, or Or. -/
def twoM (and : Bool) (a b : List Nat) (M : Mt) : Rt := (if and then andM a b else orM a b).map fun l => (l, M)
/-- {} or none. -/
def yesM (b : Bool) : List Nat := if b then [0] else []
/-- What a formula needs. -/
def needM : Tr → Mt → Rt
  | .leaf k, M => if k.1 = 0 then some ([0], M) else if k.1 = 1 then some ([], M) else meetM (Tr.leaf k).flat M
  | .un k c, M => meetM (Tr.un k c).flat M
  | .bin k c d, M => if k.1 = 11 ∨ k.1 = 12 then bindM (needM c M) fun a M1 => bindM (needM d M1) fun b M2 => twoM (k.1 == 11) a b M2 else meetM (Tr.bin k c d).flat M
/-- Does a letter satisfy a plain formula? -/
def plV (x : Nat) : Tr → Bool
  | .leaf k => if k.1 = 0 then true else if k.1 = 1 then false else x.testBit k.2
  | .un _ c => !plV x c
  | .bin k c d => if k.1 = 11 then plV x c && plV x d else if k.1 = 12 then plV x c || plV x d else if k.1 = 13 then !plV x c || plV x d else plV x c == plV x d
/-- Dia, or Box. -/
def modeO (box : Bool) : Nat := if box then 18 else 17
/-- What a formula at a position with the letter x leaves; of the second kind: D (of a Box: B) of a path, what is left if a way of it ends here, what is to be satisfied where one ends behind x. The first number bounds how deep it goes. -/
def goM : Nat → Tr ⊕ (Bool × Tr × List Nat × Tr) → Nat → Mt → Rt
  | 0, _, _, _ => none
  | n + 1, .inl T, x, M => match T with
    | .leaf k => some (yesM (if k.1 = 2 then x.testBit k.2 else k.1 == 0 || k.1 == 4), M)
    | .un k c => if k.1 = 6 then some (yesM (!plV x c), M)
      else if k.1 = 7 then bindM (needM (.leaf (4, 0)) M) fun a M1 => bindM (needM c M1) fun b M2 => twoM true a b M2
      else bindM (needM (.leaf (5, 0)) M) fun a M1 => bindM (needM c M1) fun b M2 => twoM false a b M2
    | .bin k c d => if k.1 = 11 ∨ k.1 = 12 then bindM (goM n (.inl c) x M) fun a M1 => bindM (goM n (.inl d) x M1) fun b M2 => twoM (k.1 == 11) a b M2
      else if k.1 = 15 ∨ k.1 = 16 then bindM (goM n (.inl d) x M) fun b M1 => bindM (goM n (.inl c) x M1) fun a M2 => bindM (needM (.bin k c d) M2) fun u M3 => bindM (twoM (k.1 == 15) a u M3) fun v M4 => twoM (k.1 == 16) b v M4
      else bindM (goM n (.inl d) x M) fun s M1 => goM n (.inr (k.1 == 18, c, s, d)) x M1
  | n + 1, .inr (box, r, s, f), x, M => match r with
    | .leaf _ => none
    | .un k c => if k.1 = 19 then (if plV x c then needM f M else some (yesM box, M))
      else if k.1 = 20 then bindM (goM n (.inl (if box then (kTr c).2 else c)) x M) fun a M1 => twoM (!box) a s M1
      else bindM (goM n (.inr (box, c, yesM box, .bin (modeO box, 0) (.un k c) f)) x M) fun a M1 => twoM box s a M1
    | .bin k c d => if k.1 = 21 then bindM (goM n (.inr (box, c, s, f)) x M) fun a M1 => bindM (goM n (.inr (box, d, s, f)) x M1) fun b M2 => twoM box a b M2
      else bindM (goM n (.inr (box, d, s, f)) x M) fun a M1 => goM n (.inr (box, c, a, .bin (modeO box, 0) d f)) x M1
def aftM (n : Nat) (T : Tr) (x : Nat) (M : Mt) : Rt := goM n (.inl T) x M
def pthM (n : Nat) (box : Bool) (r : Tr) (s : List Nat) (f : Tr) (x : Nat) (M : Mt) : Rt := goM n (.inr (box, r, s, f)) x M
theorem aftM_zero (T : Tr) (x : Nat) (M : Mt) : aftM 0 T x M = none := rfl
theorem aftM_leaf (n : Nat) (k : Tk) (x : Nat) (M : Mt) : aftM (n + 1) (.leaf k) x M = some (yesM (if k.1 = 2 then x.testBit k.2 else k.1 == 0 || k.1 == 4), M) := rfl
theorem aftM_un (n : Nat) (k : Tk) (c : Tr) (x : Nat) (M : Mt) : aftM (n + 1) (.un k c) x M = if k.1 = 6 then some (yesM (!plV x c), M)
    else if k.1 = 7 then bindM (needM (.leaf (4, 0)) M) fun a M1 => bindM (needM c M1) fun b M2 => twoM true a b M2
    else bindM (needM (.leaf (5, 0)) M) fun a M1 => bindM (needM c M1) fun b M2 => twoM false a b M2 := rfl
theorem aftM_bin (n : Nat) (k : Tk) (c d : Tr) (x : Nat) (M : Mt) : aftM (n + 1) (.bin k c d) x M = if k.1 = 11 ∨ k.1 = 12 then bindM (aftM n c x M) fun a M1 => bindM (aftM n d x M1) fun b M2 => twoM (k.1 == 11) a b M2
    else if k.1 = 15 ∨ k.1 = 16 then bindM (aftM n d x M) fun b M1 => bindM (aftM n c x M1) fun a M2 => bindM (needM (.bin k c d) M2) fun u M3 => bindM (twoM (k.1 == 15) a u M3) fun v M4 => twoM (k.1 == 16) b v M4
    else bindM (aftM n d x M) fun s M1 => pthM n (k.1 == 18) c s d x M1 := rfl
theorem pthM_zero (box : Bool) (r : Tr) (s : List Nat) (f : Tr) (x : Nat) (M : Mt) : pthM 0 box r s f x M = none := rfl
theorem pthM_leaf (n : Nat) (box : Bool) (k : Tk) (s : List Nat) (f : Tr) (x : Nat) (M : Mt) : pthM (n + 1) box (.leaf k) s f x M = none := rfl
theorem pthM_un (n : Nat) (box : Bool) (k : Tk) (c : Tr) (s : List Nat) (f : Tr) (x : Nat) (M : Mt) : pthM (n + 1) box (.un k c) s f x M = if k.1 = 19 then (if plV x c then needM f M else some (yesM box, M))
    else if k.1 = 20 then bindM (aftM n (if box then (kTr c).2 else c) x M) fun a M1 => twoM (!box) a s M1
    else bindM (pthM n box c (yesM box) (.bin (modeO box, 0) (.un k c) f) x M) fun a M1 => twoM box s a M1 := rfl
theorem pthM_bin (n : Nat) (box : Bool) (k : Tk) (c d : Tr) (s : List Nat) (f : Tr) (x : Nat) (M : Mt) : pthM (n + 1) box (.bin k c d) s f x M = if k.1 = 21 then bindM (pthM n box c s f x M) fun a M1 => bindM (pthM n box d s f x M1) fun b M2 => twoM box a b M2
    else bindM (pthM n box d s f x M) fun a M1 => pthM n box c a (.bin (modeO box, 0) d f) x M1 := rfl
/-- All of one of the sets is so. -/
def LsP (l : List Nat) (P : Nat → Prop) : Prop := ∃ s ∈ l, ∀ k, s.testBit k = true → P k
theorem lsP_least (l : List Nat) (P : Nat → Prop) : LsP (leastL l) P ↔ LsP l P := by
  constructor
  · rintro ⟨s, hs, h⟩
    exact ⟨s, leastL_sub hs, h⟩
  · rintro ⟨s, hs, h⟩
    obtain ⟨y, hy, hw⟩ := mini_below l s s (Nat.le_refl _) hs
    exact ⟨y, ((leastL_is l).mem y).2 hy, fun k hk => h k (wi_iff.1 hw k hk)⟩
theorem lsP_append (a b : List Nat) (P : Nat → Prop) : LsP (a ++ b) P ↔ LsP a P ∨ LsP b P := by
  unfold LsP
  constructor
  · rintro ⟨s, hs, h⟩
    rcases List.mem_append.1 hs with hs | hs
    · exact Or.inl ⟨s, hs, h⟩
    · exact Or.inr ⟨s, hs, h⟩
  · rintro (⟨s, hs, h⟩ | ⟨s, hs, h⟩)
    · exact ⟨s, by simp [hs], h⟩
    · exact ⟨s, by simp [hs], h⟩
theorem lsP_uni (a b : List Nat) (P : Nat → Prop) : LsP (uniL a b) P ↔ LsP a P ∧ LsP b P := by
  unfold LsP uniL
  constructor
  · rintro ⟨s, hs, h⟩
    obtain ⟨x, hx, hs⟩ := List.mem_flatMap.1 hs
    obtain ⟨y, hy, rfl⟩ := List.mem_map.1 hs
    exact ⟨⟨x, hx, fun k hk => h k (by rw [Nat.testBit_or, hk]; rfl)⟩, ⟨y, hy, fun k hk => h k (by rw [Nat.testBit_or, hk, Bool.or_true])⟩⟩
  · rintro ⟨⟨x, hx, h1⟩, y, hy, h2⟩
    refine ⟨x ||| y, List.mem_flatMap.2 ⟨x, hx, List.mem_map.2 ⟨y, hy, rfl⟩⟩, fun k hk => ?_⟩
    rw [Nat.testBit_or, Bool.or_eq_true] at hk
    rcases hk with hk | hk
    · exact h1 k hk
    · exact h2 k hk
theorem lsP_yes (b : Bool) (P : Nat → Prop) : LsP (yesM b) P ↔ b = true := by
  unfold LsP yesM
  cases b with
  | false => simp
  | true => exact ⟨fun _ => rfl, fun _ => ⟨0, by simp, fun k hk => by rw [Nat.zero_testBit] at hk; cases hk⟩⟩
theorem lsP_one (i : Nat) (P : Nat → Prop) : LsP [2 ^ i] P ↔ P i := by
  unfold LsP
  constructor
  · rintro ⟨s, hs, h⟩
    rcases List.mem_singleton.1 hs with rfl
    exact h i (by rw [Nat.testBit_two_pow]; simp)
  · intro h
    refine ⟨2 ^ i, by simp, fun k hk => ?_⟩
    rw [Nat.testBit_two_pow] at hk
    have : i = k := by simpa using hk
    exact this ▸ h
theorem lsP_congr {l : List Nat} {P Q : Nat → Prop} (h : ∀ s ∈ l, ∀ k, s.testBit k = true → (P k ↔ Q k)) : LsP l P ↔ LsP l Q :=
  ⟨fun ⟨s, hs, k⟩ => ⟨s, hs, fun j hj => (h s hs j hj).1 (k j hj)⟩, fun ⟨s, hs, k⟩ => ⟨s, hs, fun j hj => (h s hs j hj).2 (k j hj)⟩⟩
/-- All numbers of a list's sets are below m. -/
def BdL (l : List Nat) (m : Nat) : Prop := ∀ s ∈ l, ∀ k, s.testBit k = true → k < m
theorem BdL.mono {l : List Nat} {m n : Nat} (h : BdL l m) (hn : m ≤ n) : BdL l n := fun s hs k hk => Nat.lt_of_lt_of_le (h s hs k hk) hn
theorem bdL_least {l : List Nat} {m : Nat} (h : BdL l m) : BdL (leastL l) m := fun s hs => h s (leastL_sub hs)
theorem bdL_append {a b : List Nat} {m : Nat} (h : BdL a m) (k : BdL b m) : BdL (a ++ b) m := fun s hs => by
  rcases List.mem_append.1 hs with hs | hs
  · exact h s hs
  · exact k s hs
theorem bdL_uni {a b : List Nat} {m : Nat} (h : BdL a m) (k : BdL b m) : BdL (uniL a b) m := fun s hs j hj => by
  obtain ⟨x, hx, hs⟩ := List.mem_flatMap.1 hs
  obtain ⟨y, hy, rfl⟩ := List.mem_map.1 hs
  rw [Nat.testBit_or, Bool.or_eq_true] at hj
  rcases hj with hj | hj
  · exact h x hx j hj
  · exact k y hy j hj
theorem bdL_yes (b : Bool) (m : Nat) : BdL (yesM b) m := fun s hs k hk => by
  unfold yesM at hs
  cases b with
  | false => simp at hs
  | true => simp at hs; subst hs; rw [Nat.zero_testBit] at hk; cases hk
theorem bdL_one {i m : Nat} (h : i < m) : BdL [2 ^ i] m := fun s hs k hk => by
  rcases List.mem_singleton.1 hs with rfl
  rw [Nat.testBit_two_pow] at hk
  have : i = k := by simpa using hk
  omega
theorem twoM_some {and : Bool} {a b : List Nat} {M M' : Mt} {l : List Nat} (h : twoM and a b M = some (l, M')) : M' = M ∧ l = if and then leastL (uniL a b) else leastL (a ++ b) := by
  unfold twoM at h
  cases and with
  | true =>
    simp only [if_true] at h ⊢
    unfold andM at h
    split at h
    · simp at h; exact ⟨h.2.symm, h.1.symm⟩
    · simp at h
  | false =>
    simp only [Bool.false_eq_true, if_false] at h ⊢
    unfold orM at h
    split at h
    · simp at h; exact ⟨h.2.symm, h.1.symm⟩
    · simp at h
theorem two_ls {and : Bool} {a b : List Nat} {M M' : Mt} {l : List Nat} (h : twoM and a b M = some (l, M')) (P : Nat → Prop) : LsP l P ↔ if and then LsP a P ∧ LsP b P else LsP a P ∨ LsP b P := by
  rw [(twoM_some h).2]
  cases and with
  | true => simp only [if_true]; rw [lsP_least, lsP_uni]
  | false => simp only [Bool.false_eq_true, if_false]; rw [lsP_least, lsP_append]
theorem two_bd {and : Bool} {a b : List Nat} {M M' : Mt} {l : List Nat} (h : twoM and a b M = some (l, M')) {m : Nat} (ha : BdL a m) (hb : BdL b m) : BdL l m := by
  rw [(twoM_some h).2]
  cases and with
  | true => exact bdL_least (bdL_uni ha hb)
  | false => exact bdL_least (bdL_append ha hb)
end Go.Proofs.YtnedkpbpeolfoaaDoor
namespace Go.Proofs.YtnedkpbpeolfoaaDoor
/-- A kernel formula's tree; a kernel path's. -/
structure KT (T : Tr) : Prop where
  wf : T.WF
  np : pathT T = false
  kr : kerT T = true
structure KP (T : Tr) : Prop where
  wf : T.WF
  isp : pathT T = true
  kr : kerT T = true
theorem sem_flat (t : List Nat) {T S : Tr} (h : T.WF) (k : S.WF) (e : T.flat = S.flat) : semTr t T = semTr t S := (cl_tree t T h).same (e ▸ cl_tree t S k)
/-- Obligations that were met: kernel formulas, at most 64. -/
structure GoodM (M : Mt) : Prop where
  ker : ∀ f ∈ M, ∃ T, KT T ∧ f = T.flat
  few : M.length ≤ 64
/-- An obligation that was met is satisfied at a place. -/
def SatM (t : List Nat) (M : Mt) (i k : Nat) : Prop := ∃ T, KT T ∧ M[k]? = some T.flat ∧ (semTr t T).1 i
theorem sat_at {t : List Nat} {M : Mt} {i k : Nat} {T : Tr} (hT : KT T) (h : M[k]? = some T.flat) : SatM t M i k ↔ (semTr t T).1 i := by
  constructor
  · rintro ⟨S, hS, h1, h2⟩
    rw [h] at h1
    injection h1 with h1
    rw [sem_flat t hT.wf hS.wf h1]; exact h2
  · intro h2
    exact ⟨T, hT, h, h2⟩
theorem pre_get {M M' : Mt} (h : M <+: M') {k : Nat} (hk : k < M.length) : M'[k]? = M[k]? := by
  obtain ⟨r, rfl⟩ := h
  rw [List.getElem?_append_left hk]
theorem sat_pre {t : List Nat} {M M' : Mt} (h : M <+: M') {i k : Nat} (hk : k < M.length) : SatM t M i k ↔ SatM t M' i k := by
  unfold SatM
  rw [pre_get h hk]
theorem ls_pre {t : List Nat} {M M' : Mt} (h : M <+: M') {l : List Nat} (hl : BdL l M.length) (i : Nat) : LsP l (SatM t M i) ↔ LsP l (SatM t M' i) := lsP_congr fun s hs k hk => sat_pre h (hl s hs k hk)
/-- What an answer keeps. -/
structure Ext (M : Mt) (L : List Nat) (M' : Mt) : Prop where
  pre : M <+: M'
  good : GoodM M'
  bd : BdL L M'.length
theorem pre_len {M M' : Mt} (h : M <+: M') : M.length ≤ M'.length := h.length_le
theorem meet_ok {T : Tr} {M M' : Mt} {L : List Nat} (hM : GoodM M) (hT : KT T) (h : meetM T.flat M = some (L, M')) : Ext M L M' ∧ ∀ t i, LsP L (SatM t M' i) ↔ (semTr t T).1 i := by
  unfold meetM at h
  split at h
  · rename_i i hi
    injection h with h
    injection h with h1 h2
    subst h1 h2
    obtain ⟨hlt, he, _⟩ := List.findIdx?_eq_some_iff_getElem.1 hi
    have he' : M[i]? = some T.flat := by rw [List.getElem?_eq_getElem hlt]; simpa using he
    exact ⟨⟨List.prefix_refl _, hM, bdL_one hlt⟩, fun t j => by rw [lsP_one]; exact sat_at hT he'⟩
  · split at h
    · rename_i hl
      injection h with h
      injection h with h1 h2
      subst h1 h2
      refine ⟨⟨List.prefix_append _ _, ⟨fun f hf => ?_, by rw [List.length_append]; simp; omega⟩, bdL_one (by rw [List.length_append]; simp)⟩, fun t j => ?_⟩
      · rcases List.mem_append.1 hf with hf | hf
        · exact hM.ker f hf
        · exact ⟨T, hT, List.mem_singleton.1 hf⟩
      · rw [lsP_one]
        exact sat_at hT (by simp)
    · cases h
theorem two_ext {and : Bool} {a b : List Nat} {M M1 M2 M' : Mt} {l : List Nat} (h : twoM and a b M2 = some (l, M')) (h1 : Ext M a M1) (h2 : Ext M1 b M2) : Ext M l M' ∧ ∀ t i, LsP l (SatM t M' i) ↔ if and then LsP a (SatM t M1 i) ∧ LsP b (SatM t M2 i) else LsP a (SatM t M1 i) ∨ LsP b (SatM t M2 i) := by
  have e := (twoM_some h).1
  subst e
  refine ⟨⟨h1.pre.trans h2.pre, h2.good, two_bd h (h1.bd.mono (pre_len h2.pre)) h2.bd⟩, fun t i => ?_⟩
  rw [two_ls h, ls_pre h2.pre h1.bd]
theorem kt_and {op p : Nat} {c d : Tr} (h : KT (.bin (op, p) c d)) (ho : op = 11 ∨ op = 12 ∨ op = 15 ∨ op = 16) : KT c ∧ KT d := by
  obtain ⟨rfl, hc, hd, hf, _⟩ := bin_cases h.wf
  have hk := h.kr
  simp only [kerT, Bool.and_eq_true] at hk
  have hn : pathT c = false ∧ pathT d = false := by
    rcases ho with rfl | rfl | rfl | rfl <;> simpa [fit2T] using hf
  exact ⟨⟨hc, hn.1, hk.2.1⟩, ⟨hd, hn.2, hk.2.2⟩⟩
theorem kt_way {op p : Nat} {c d : Tr} (h : KT (.bin (op, p) c d)) (ho : op = 17 ∨ op = 18) : KP c ∧ KT d := by
  obtain ⟨rfl, hc, hd, hf, _⟩ := bin_cases h.wf
  have hk := h.kr
  simp only [kerT, Bool.and_eq_true] at hk
  have hn : pathT c = true ∧ pathT d = false := by
    rcases ho with rfl | rfl <;> simpa [fit2T] using hf
  exact ⟨⟨hc, hn.1, hk.2.1⟩, ⟨hd, hn.2, hk.2.2⟩⟩
theorem kt_bin {op p : Nat} {c d : Tr} (h : KT (.bin (op, p) c d)) : p = 0 ∧ (op = 11 ∨ op = 12 ∨ op = 15 ∨ op = 16 ∨ op = 17 ∨ op = 18) := by
  obtain ⟨rfl, hc, hd, hf, ho⟩ := bin_cases h.wf
  have hk := h.kr
  have hp := h.np
  refine ⟨rfl, ?_⟩
  rcases ho with rfl | rfl | rfl | rfl | rfl | rfl | rfl | rfl | rfl | rfl
  · simp
  · simp
  · simp [kerT] at hk
  · simp [kerT] at hk
  · simp
  · simp
  · simp
  · simp
  · cases hp
  · cases hp
theorem kt_un {op p : Nat} {c : Tr} (h : KT (.un (op, p) c)) : p = 0 ∧ ((op = 6 ∧ ∃ q, c = .leaf (2, q)) ∨ ((op = 7 ∨ op = 8) ∧ KT c)) := by
  obtain ⟨rfl, hc, hf, ho⟩ := un_cases h.wf
  have hk := h.kr
  have hp := h.np
  refine ⟨rfl, ?_⟩
  rcases ho with rfl | rfl | rfl | rfl | rfl | rfl | rfl | rfl
  · refine Or.inl ⟨rfl, ?_⟩
    match c, hk with
    | .leaf (o, q), hk => simp [kerT] at hk; exact ⟨q, by rw [hk]⟩
    | .un _ _, hk => simp [kerT] at hk
    | .bin _ _ _, hk => simp [kerT] at hk
  · refine Or.inr ⟨Or.inl rfl, hc, by simpa [fit1T] using hf, by simpa [kerT] using hk⟩
  · refine Or.inr ⟨Or.inr rfl, hc, by simpa [fit1T] using hf, by simpa [kerT] using hk⟩
  · simp [kerT] at hk
  · simp [kerT] at hk
  · cases hp
  · cases hp
  · cases hp
theorem kt_leaf {op p : Nat} (h : KT (.leaf (op, p))) : (op = 2 ∧ p ≤ 7) ∨ (p = 0 ∧ (op = 0 ∨ op = 1 ∨ op = 4 ∨ op = 5)) := by
  have hk := h.kr
  rcases leaf_cases h.wf with h1 | ⟨h1, rfl | rfl | rfl | rfl | rfl⟩
  · exact Or.inl h1
  · exact Or.inr ⟨h1, by simp⟩
  · exact Or.inr ⟨h1, by simp⟩
  · simp [kerT] at hk
  · exact Or.inr ⟨h1, by simp⟩
  · exact Or.inr ⟨h1, by simp⟩
theorem kp_un {op p : Nat} {c : Tr} (h : KP (.un (op, p) c)) : p = 0 ∧ ((op = 19 ∧ c.WF ∧ plainT c = true) ∨ (op = 20 ∧ KT c) ∨ (op = 23 ∧ KP c)) := by
  obtain ⟨rfl, hc, hf, ho⟩ := un_cases h.wf
  have hk := h.kr
  have hp := h.isp
  refine ⟨rfl, ?_⟩
  rcases ho with rfl | rfl | rfl | rfl | rfl | rfl | rfl | rfl
  · cases hp
  · cases hp
  · cases hp
  · cases hp
  · cases hp
  · simp [fit1T] at hf
    exact Or.inl ⟨rfl, hc, hf.2⟩
  · exact Or.inr (Or.inl ⟨rfl, hc, by simpa [fit1T] using hf, by simpa [kerT] using hk⟩)
  · exact Or.inr (Or.inr ⟨rfl, hc, by simpa [fit1T] using hf, by simpa [kerT] using hk⟩)
theorem kp_bin {op p : Nat} {c d : Tr} (h : KP (.bin (op, p) c d)) : p = 0 ∧ (op = 21 ∨ op = 22) ∧ KP c ∧ KP d := by
  obtain ⟨rfl, hc, hd, hf, ho⟩ := bin_cases h.wf
  have hk := h.kr
  have hp := h.isp
  simp only [kerT, Bool.and_eq_true] at hk
  refine ⟨rfl, ?_⟩
  rcases ho with rfl | rfl | rfl | rfl | rfl | rfl | rfl | rfl | rfl | rfl
  · cases hp
  · cases hp
  · cases hp
  · cases hp
  · cases hp
  · cases hp
  · cases hp
  · cases hp
  · have hn : pathT c = true ∧ pathT d = true := by simpa [fit2T] using hf
    exact ⟨Or.inl rfl, ⟨hc, hn.1, hk.2.1⟩, ⟨hd, hn.2, hk.2.2⟩⟩
  · have hn : pathT c = true ∧ pathT d = true := by simpa [fit2T] using hf
    exact ⟨Or.inr rfl, ⟨hc, hn.1, hk.2.1⟩, ⟨hd, hn.2, hk.2.2⟩⟩
theorem kp_leaf {k : Tk} (h : KP (.leaf k)) : False := by
  obtain ⟨op, p⟩ := k
  have hp := h.isp
  rcases leaf_cases h.wf with ⟨rfl, _⟩ | ⟨_, rfl | rfl | rfl | rfl | rfl⟩ <;> cases hp
theorem kt_mode {r f : Tr} (hr : KP r) (hf : KT f) (box : Bool) : KT (.bin (modeO box, 0) r f) := by
  refine ⟨wf_bin ?_ ?_ hr.wf hf.wf, ?_, ?_⟩
  · cases box <;> rfl
  · cases box <;> simp [modeO, fit2T, hr.isp, hf.np]
  · cases box <;> rfl
  · cases box <;> simp [modeO, kerT, hr.kr, hf.kr]
theorem kt_more (op : Nat) (h : op = 4 ∨ op = 5) : KT (.leaf (op, 0)) := by
  rcases h with rfl | rfl
  · exact ⟨wf_leaf rfl (by decide), rfl, rfl⟩
  · exact ⟨wf_leaf rfl (by decide), rfl, rfl⟩
theorem kt_neg {T : Tr} (h : KT T) : KT (kTr T).2 := ⟨(kOk T h.wf).w2 h.np, (kOk T h.wf).p2 h.np, (ker_k T h.wf).2 h.np⟩
/-- What a formula needs says what the formula says. -/
theorem need_ok : ∀ (T : Tr) {M M' : Mt} {L : List Nat}, GoodM M → KT T → needM T M = some (L, M') → Ext M L M' ∧ ∀ t i, LsP L (SatM t M' i) ↔ (semTr t T).1 i
  | .leaf (op, p), M, M', L, hM, hT, h => by
    unfold needM at h
    dsimp only at h
    split at h
    · rename_i h0
      injection h with h; injection h with h1 h2; subst h1 h2
      refine ⟨⟨List.prefix_refl _, hM, bdL_yes true _⟩, fun t i => ?_⟩
      have := lsP_yes true (SatM t M i)
      simp only [yesM, if_true] at this
      rw [this]
      simp [semTr, semT, leafV, h0]
    · split at h
      · rename_i h0 h1
        injection h with h; injection h with h2 h3; subst h2 h3
        refine ⟨⟨List.prefix_refl _, hM, bdL_yes false _⟩, fun t i => ?_⟩
        have := lsP_yes false (SatM t M i)
        simp only [yesM, Bool.false_eq_true, if_false] at this
        rw [this]
        simp [semTr, semT, leafV, h1]
      · exact meet_ok hM hT h
  | .un k c, M, M', L, hM, hT, h => meet_ok hM hT h
  | .bin (op, p) c d, M, M', L, hM, hT, h => by
    unfold needM at h
    dsimp only at h
    split at h
    · rename_i ho
      obtain ⟨a, M1, ha, h⟩ := bindM_some h
      obtain ⟨b, M2, hb, h⟩ := bindM_some h
      obtain ⟨kc, kd⟩ := kt_and hT (by rcases ho with h | h <;> simp [h])
      obtain ⟨e1, s1⟩ := need_ok c hM kc ha
      obtain ⟨e2, s2⟩ := need_ok d e1.good kd hb
      obtain ⟨e3, s3⟩ := two_ext h e1 e2
      refine ⟨e3, fun t i => ?_⟩
      rw [s3, s1, s2]
      rcases ho with rfl | rfl
      · simp [semTr, semT, binV]
      · simp [semTr, semT, binV]
    · exact meet_ok hM hT h
end Go.Proofs.YtnedkpbpeolfoaaDoor
namespace Go.Proofs.YtnedkpbpeolfoaaDoor
/-- A plain formula at a position. -/
theorem plain_at {t : List Nat} {i x : Nat} (hx : t[i]? = some x) : ∀ T : Tr, T.WF → pathT T = false → plainT T = true → (plV x T = true ↔ (semTr t T).1 i)
  | .leaf (op, p), h, _, hp => by
    have hi : i < t.length := (List.getElem?_eq_some_iff.1 hx).1
    have hg : t.getD i 0 = x := by rw [List.getD_eq_getElem?_getD, hx]; rfl
    rw [plain_leaf] at hp
    rcases leaf_cases h with ⟨rfl, _⟩ | ⟨_, rfl | rfl | rfl | rfl | rfl⟩
    · rw [show (semTr t (Tr.leaf (2, p))).1 i = (i < t.length ∧ (t.getD i 0).testBit p = true) from rfl, hg, show plV x (Tr.leaf (2, p)) = x.testBit p from rfl]
      exact ⟨fun h => ⟨hi, h⟩, fun h => h.2⟩
    · simp [plV, semTr, semT, leafV]
    · simp [plV, semTr, semT, leafV]
    · simp [plainB] at hp
    · simp [plainB] at hp
    · simp [plainB] at hp
  | .un (op, p) c, h, hq, hp => by
    obtain ⟨rfl, hc, hf, ho⟩ := un_cases h
    rw [plain_un] at hp
    simp only [Bool.and_eq_true] at hp
    rcases ho with rfl | rfl | rfl | rfl | rfl | rfl | rfl | rfl
    · have ih := plain_at hx c hc (by simpa [fit1T] using hf) hp.2
      simp only [plV, semTr, semT, unV, if_true]
      rw [← ih]
      simp
    · simp [plainB] at hp
    · simp [plainB] at hp
    · simp [plainB] at hp
    · simp [plainB] at hp
    · cases hq
    · cases hq
    · cases hq
  | .bin (op, p) c d, h, hq, hp => by
    obtain ⟨rfl, hc, hd, hf, ho⟩ := bin_cases h
    rw [plain_bin] at hp
    simp only [Bool.and_eq_true] at hp
    have ih := fun hn => plain_at hx c hc hn hp.2.1
    have jh := fun hn => plain_at hx d hd hn hp.2.2
    rcases ho with rfl | rfl | rfl | rfl | rfl | rfl | rfl | rfl | rfl | rfl
    · have hn : pathT c = false ∧ pathT d = false := by simpa [fit2T] using hf
      simp [plV, semTr, semT, binV, ← ih hn.1, ← jh hn.2]
    · have hn : pathT c = false ∧ pathT d = false := by simpa [fit2T] using hf
      simp [plV, semTr, semT, binV, ← ih hn.1, ← jh hn.2]
    · have hn : pathT c = false ∧ pathT d = false := by simpa [fit2T] using hf
      simp only [plV, semTr, semT, binV, ← ih hn.1, ← jh hn.2]
      cases plV x c <;> cases plV x d <;> simp
    · have hn : pathT c = false ∧ pathT d = false := by simpa [fit2T] using hf
      simp only [plV, semTr, semT, binV, ← ih hn.1, ← jh hn.2]
      cases plV x c <;> cases plV x d <;> simp
    · simp [plainB] at hp
    · simp [plainB] at hp
    · simp [plainB] at hp
    · simp [plainB] at hp
    · cases hq
    · cases hq
/-- A way that ends here, and S; or one that ends behind x where F is so. -/
def wayD (w : Nat → Nat → Prop) (i : Nat) (S : Prop) (F : Nat → Prop) : Prop := (w i i ∧ S) ∨ ∃ k, i < k ∧ w i k ∧ F k
def wayB (w : Nat → Nat → Prop) (i : Nat) (S : Prop) (F : Nat → Prop) : Prop := (w i i → S) ∧ ∀ k, i < k → w i k → F k
theorem wayB_not (w : Nat → Nat → Prop) (i : Nat) (S : Prop) (F : Nat → Prop) : wayB w i S F ↔ ¬ wayD w i (¬ S) (fun k => ¬ F k) := by
  unfold wayB wayD
  constructor
  · rintro ⟨h1, h2⟩ (⟨h3, h4⟩ | ⟨k, h3, h4, h5⟩)
    · exact h4 (h1 h3)
    · exact h5 (h2 k h3 h4)
  · intro h
    refine ⟨fun h1 => ?_, fun k h1 h2 => ?_⟩
    · exact Classical.byContradiction fun h2 => h (Or.inl ⟨h1, h2⟩)
    · exact Classical.byContradiction fun h3 => h (Or.inr ⟨k, h1, h2, h3⟩)
theorem wayD_congr {w : Nat → Nat → Prop} {i : Nat} {S S' : Prop} {F F' : Nat → Prop} (h : S ↔ S') (k : ∀ j, F j ↔ F' j) : wayD w i S F ↔ wayD w i S' F' := by
  unfold wayD
  rw [h]
  constructor
  · rintro (h1 | ⟨j, h1, h2, h3⟩)
    · exact Or.inl h1
    · exact Or.inr ⟨j, h1, h2, (k j).1 h3⟩
  · rintro (h1 | ⟨j, h1, h2, h3⟩)
    · exact Or.inl h1
    · exact Or.inr ⟨j, h1, h2, (k j).2 h3⟩
/-- From i on a path's ways go forward, and never out. -/
def Fwd (n : Nat) (w : Nat → Nat → Prop) : Prop := ∀ i k, i ≤ n → w i k → i ≤ k ∧ k ≤ n
theorem wayD_seq {a b : Nat → Nat → Prop} {n i : Nat} (ha : Fwd n a) (hb : Fwd n b) (hi : i ≤ n) (S : Prop) (F : Nat → Prop) :
    wayD (fun i k => ∃ j, a i j ∧ b j k) i S F ↔ wayD a i (wayD b i S F) (fun j => ∃ k, b j k ∧ F k) := by
  unfold wayD
  constructor
  · rintro (⟨⟨j, h1, h2⟩, h3⟩ | ⟨k, h0, ⟨j, h1, h2⟩, h3⟩)
    · have e1 := ha i j hi h1
      have e2 := hb j i e1.2 h2
      have : j = i := by omega
      subst this
      exact Or.inl ⟨h1, Or.inl ⟨h2, h3⟩⟩
    · by_cases e : j = i
      · subst e
        exact Or.inl ⟨h1, Or.inr ⟨k, h0, h2, h3⟩⟩
      · have e1 := ha i j hi h1
        exact Or.inr ⟨j, by omega, h1, k, h2, h3⟩
  · rintro (⟨h1, ⟨h2, h3⟩ | ⟨k, h0, h2, h3⟩⟩ | ⟨j, h0, h1, k, h2, h3⟩)
    · exact Or.inl ⟨⟨i, h1, h2⟩, h3⟩
    · exact Or.inr ⟨k, h0, ⟨i, h1, h2⟩, h3⟩
    · have e1 := ha i j hi h1
      have e2 := hb j k e1.2 h2
      exact Or.inr ⟨k, by omega, ⟨j, h1, h2⟩, h3⟩
theorem star_first {a : Nat → Nat → Prop} {n : Nat} (ha : Fwd n a) : ∀ (m i k : Nat), i ≤ n → i < k → stepsP a m i k → ∃ j, i < j ∧ a i j ∧ ∃ m, stepsP a m j k
  | 0, i, k, _, hk, h => by simp only [stepsP] at h; omega
  | m + 1, i, k, hi, hk, h => by
    obtain ⟨j, h1, h2⟩ := h
    have e1 := ha i j hi h1
    by_cases e : j = i
    · subst e
      exact star_first ha m j k hi hk h2
    · exact ⟨j, by omega, h1, m, h2⟩
theorem wayD_star {a : Nat → Nat → Prop} {n i : Nat} (ha : Fwd n a) (hi : i ≤ n) (S : Prop) (F : Nat → Prop) :
    wayD (fun i k => ∃ m, stepsP a m i k) i S F ↔ S ∨ wayD a i False (fun j => ∃ k, (∃ m, stepsP a m j k) ∧ F k) := by
  unfold wayD
  constructor
  · rintro (⟨_, h⟩ | ⟨k, h0, ⟨m, h1⟩, h2⟩)
    · exact Or.inl h
    · obtain ⟨j, h3, h4, h5⟩ := star_first ha m i k hi h0 h1
      exact Or.inr (Or.inr ⟨j, h3, h4, k, h5, h2⟩)
  · rintro (h | ⟨_, h⟩ | ⟨j, h0, h1, k, ⟨m, h2⟩, h3⟩)
    · exact Or.inl ⟨⟨0, rfl⟩, h⟩
    · cases h
    · have e1 := ha i j hi h1
      have e2 : j ≤ k ∧ k ≤ n := steps_in (fun i k hi h => ha i k hi h) m j k e1.2 h2
      exact Or.inr ⟨k, by omega, ⟨m + 1, j, h1, h2⟩, h3⟩
theorem wayB_seq {a b : Nat → Nat → Prop} {n i : Nat} (ha : Fwd n a) (hb : Fwd n b) (hi : i ≤ n) (S : Prop) (F : Nat → Prop) :
    wayB (fun i k => ∃ j, a i j ∧ b j k) i S F ↔ wayB a i (wayB b i S F) (fun j => ∀ k, b j k → F k) := by
  rw [wayB_not, wayD_seq ha hb hi, wayB_not a]
  refine not_congr (wayD_congr ?_ fun j => ?_)
  · rw [wayB_not, Classical.not_not]
  · exact ⟨fun ⟨k, h1, h2⟩ h => h2 (h k h1), fun h => Classical.byContradiction fun h2 => h fun k hk => Classical.byContradiction fun h3 => h2 ⟨k, hk, h3⟩⟩
theorem wayB_star {a : Nat → Nat → Prop} {n i : Nat} (ha : Fwd n a) (hi : i ≤ n) (S : Prop) (F : Nat → Prop) :
    wayB (fun i k => ∃ m, stepsP a m i k) i S F ↔ S ∧ wayB a i True (fun j => ∀ k, (∃ m, stepsP a m j k) → F k) := by
  rw [wayB_not, wayD_star ha hi, wayB_not a]
  have e : wayD a i False (fun j => ∃ k, (∃ m, stepsP a m j k) ∧ ¬ F k) ↔ wayD a i (¬ True) (fun j => ¬ ∀ k, (∃ m, stepsP a m j k) → F k) := wayD_congr (by simp) fun j =>
    ⟨fun ⟨k, h1, h2⟩ h => h2 (h k h1), fun h => Classical.byContradiction fun h2 => h fun k hk => Classical.byContradiction fun h3 => h2 ⟨k, hk, h3⟩⟩
  rw [e]
  constructor
  · intro h
    exact ⟨Classical.byContradiction fun h1 => h (Or.inl h1), fun h1 => h (Or.inr h1)⟩
  · rintro ⟨h1, h2⟩ (h | h)
    · exact h h1
    · exact h2 h
/-- What D, B of a path say. -/
def wayS (box : Bool) (w : Nat → Nat → Prop) (i : Nat) (S : Prop) (F : Nat → Prop) : Prop := if box then wayB w i S F else wayD w i S F
theorem fwd_of (t : List Nat) {r : Tr} (h : r.WF) : Fwd t.length (semTr t r).2 := fun i k hi hw => ways_in t r h i k hi hw
end Go.Proofs.YtnedkpbpeolfoaaDoor
namespace Go.Proofs.YtnedkpbpeolfoaaDoor
theorem ls_more (t : List Nat) (i : Nat) : (semTr t (.leaf (4, 0))).1 i ↔ i < t.length := Iff.rfl
theorem ls_over (t : List Nat) (i : Nat) : (semTr t (.leaf (5, 0))).1 i ↔ i = t.length := Iff.rfl
/-- What both functions answer. -/
def AftOk (n : Nat) : Prop := ∀ (T : Tr) (x : Nat) (M M' : Mt) (L : List Nat), GoodM M → KT T → aftM n T x M = some (L, M') → Ext M L M' ∧ ∀ (t : List Nat) (i : Nat), t[i]? = some x → (LsP L (SatM t M' (i + 1)) ↔ (semTr t T).1 i)
def PthOk (n : Nat) : Prop := ∀ (box : Bool) (r f : Tr) (s : List Nat) (x : Nat) (M M' : Mt) (L : List Nat), GoodM M → KP r → KT f → BdL s M.length → pthM n box r s f x M = some (L, M') → Ext M L M' ∧ ∀ (t : List Nat) (i : Nat), t[i]? = some x → (LsP L (SatM t M' (i + 1)) ↔ wayS box (semTr t r).2 i (LsP s (SatM t M (i + 1))) fun k => (semTr t f).1 k)
theorem until_step {t : List Nat} {i : Nat} (hi : i < t.length) (c d : Tr) : (semTr t (.bin (15, 0) c d)).1 i ↔ (semTr t d).1 i ∨ ((semTr t c).1 i ∧ (semTr t (.bin (15, 0) c d)).1 (i + 1)) := by
  show (∃ j, i ≤ j ∧ j < t.length ∧ (semTr t d).1 j ∧ ∀ k, i ≤ k → k < j → (semTr t c).1 k) ↔ _ ∨ (_ ∧ ∃ j, i + 1 ≤ j ∧ j < t.length ∧ (semTr t d).1 j ∧ ∀ k, i + 1 ≤ k → k < j → (semTr t c).1 k)
  constructor
  · rintro ⟨j, h1, h2, h3, h4⟩
    by_cases e : j = i
    · subst e; exact Or.inl h3
    · exact Or.inr ⟨h4 i (Nat.le_refl _) (by omega), j, by omega, h2, h3, fun k hk hj => h4 k (by omega) hj⟩
  · rintro (h | ⟨h0, j, h1, h2, h3, h4⟩)
    · exact ⟨i, Nat.le_refl _, hi, h, fun k h1 h2 => by omega⟩
    · refine ⟨j, by omega, h2, h3, fun k hk hj => ?_⟩
      by_cases e : k = i
      · subst e; exact h0
      · exact h4 k (by omega) hj
theorem release_step {t : List Nat} {i : Nat} (hi : i < t.length) (c d : Tr) : (semTr t (.bin (16, 0) c d)).1 i ↔ (semTr t d).1 i ∧ ((semTr t c).1 i ∨ (semTr t (.bin (16, 0) c d)).1 (i + 1)) := by
  show (∀ j, i ≤ j → j < t.length → (semTr t d).1 j ∨ ∃ k, i ≤ k ∧ k < j ∧ (semTr t c).1 k) ↔ _ ∧ (_ ∨ ∀ j, i + 1 ≤ j → j < t.length → (semTr t d).1 j ∨ ∃ k, i + 1 ≤ k ∧ k < j ∧ (semTr t c).1 k)
  constructor
  · intro h
    refine ⟨?_, ?_⟩
    · rcases h i (Nat.le_refl _) hi with h1 | ⟨k, h1, h2, _⟩
      · exact h1
      · omega
    · by_cases h0 : (semTr t c).1 i
      · exact Or.inl h0
      · refine Or.inr fun j h1 h2 => ?_
        rcases h j (by omega) h2 with h3 | ⟨k, h3, h4, h5⟩
        · exact Or.inl h3
        · by_cases e : k = i
          · subst e; exact absurd h5 h0
          · exact Or.inr ⟨k, by omega, h4, h5⟩
  · rintro ⟨h0, h⟩ j h1 h2
    by_cases e : j = i
    · subst e; exact Or.inl h0
    · rcases h with h | h
      · exact Or.inr ⟨i, Nat.le_refl _, by omega, h⟩
      · rcases h j (by omega) h2 with h3 | ⟨k, h3, h4, h5⟩
        · exact Or.inl h3
        · exact Or.inr ⟨k, by omega, h4, h5⟩
theorem way_end (w : Nat → Nat → Prop) {n i : Nat} (hw : Fwd n w) (hi : i ≤ n) (F : Nat → Prop) : wayD w i (F i) F ↔ ∃ k, w i k ∧ F k := by
  unfold wayD
  constructor
  · rintro (⟨h1, h2⟩ | ⟨k, _, h1, h2⟩)
    · exact ⟨i, h1, h2⟩
    · exact ⟨k, h1, h2⟩
  · rintro ⟨k, h1, h2⟩
    by_cases e : k = i
    · subst e; exact Or.inl ⟨h1, h2⟩
    · have := hw i k hi h1
      exact Or.inr ⟨k, by omega, h1, h2⟩
theorem way_endB (w : Nat → Nat → Prop) {n i : Nat} (hw : Fwd n w) (hi : i ≤ n) (F : Nat → Prop) : wayB w i (F i) F ↔ ∀ k, w i k → F k := by
  unfold wayB
  constructor
  · rintro ⟨h1, h2⟩ k hk
    by_cases e : k = i
    · subst e; exact h1 hk
    · have := hw i k hi hk
      exact h2 k (by omega) hk
  · intro h
    exact ⟨fun h1 => h i h1, fun k _ h1 => h k h1⟩
theorem aft_next {n : Nat} (hA : AftOk n) (hP : PthOk n) : AftOk (n + 1) := by
  intro T x M M' L hM hT h
  match T, hT, h with
  | .leaf (op, p), hT, h =>
    (first | rw [aftM_leaf] at h | rw [aftM_un] at h | rw [aftM_bin] at h | rw [aftM_zero] at h)
    injection h with h; injection h with h1 h2; subst h1 h2
    refine ⟨⟨List.prefix_refl _, hM, bdL_yes _ _⟩, fun t i hx => ?_⟩
    have hi : i < t.length := (List.getElem?_eq_some_iff.1 hx).1
    have hg : t.getD i 0 = x := by rw [List.getD_eq_getElem?_getD, hx]; rfl
    rw [lsP_yes]
    rcases kt_leaf hT with ⟨rfl, _⟩ | ⟨_, rfl | rfl | rfl | rfl⟩
    · rw [show (semTr t (Tr.leaf (2, p))).1 i = (i < t.length ∧ (t.getD i 0).testBit p = true) from rfl, hg]
      simp [hi]
    · simp [semTr, semT, leafV]
    · simp [semTr, semT, leafV]
    · simp [semTr, semT, leafV, hi]
    · simp [semTr, semT, leafV]; omega
  | .un (op, p) c, hT, h =>
    (first | rw [aftM_leaf] at h | rw [aftM_un] at h | rw [aftM_bin] at h | rw [aftM_zero] at h)
    dsimp only at h
    rcases kt_un hT with ⟨rfl, ⟨rfl, q, rfl⟩ | ⟨ho, hc⟩⟩
    · rw [if_pos rfl] at h
      injection h with h; injection h with h1 h2; subst h1 h2
      refine ⟨⟨List.prefix_refl _, hM, bdL_yes _ _⟩, fun t i hx => ?_⟩
      have hl : (Tr.leaf (2, q)).WF := hT.wf.2.2
      have := plain_at hx (.leaf (2, q)) hl rfl rfl
      rw [lsP_yes]
      show _ ↔ ¬ (semTr t (.leaf (2, q))).1 i
      rw [← this]
      simp
    · rcases ho with rfl | rfl
      · rw [if_neg (by decide), if_pos rfl] at h
        obtain ⟨a, M1, ha, h⟩ := bindM_some h
        obtain ⟨b, M2, hb, h⟩ := bindM_some h
        obtain ⟨e1, s1⟩ := need_ok _ hM (kt_more 4 (Or.inl rfl)) ha
        obtain ⟨e2, s2⟩ := need_ok c e1.good hc hb
        obtain ⟨e3, s3⟩ := two_ext h e1 e2
        refine ⟨e3, fun t i hx => ?_⟩
        rw [s3, s1, s2, ls_more]
        simp only [if_true]
        exact Iff.rfl
      · rw [if_neg (by decide), if_neg (by decide)] at h
        obtain ⟨a, M1, ha, h⟩ := bindM_some h
        obtain ⟨b, M2, hb, h⟩ := bindM_some h
        obtain ⟨e1, s1⟩ := need_ok _ hM (kt_more 5 (Or.inr rfl)) ha
        obtain ⟨e2, s2⟩ := need_ok c e1.good hc hb
        obtain ⟨e3, s3⟩ := two_ext h e1 e2
        refine ⟨e3, fun t i hx => ?_⟩
        have hi : i < t.length := (List.getElem?_eq_some_iff.1 hx).1
        rw [s3, s1, s2, ls_over]
        simp only [Bool.false_eq_true, if_false]
        show _ ↔ (i + 1 < t.length → (semTr t c).1 (i + 1))
        constructor
        · rintro (h | h) hlt
          · omega
          · exact h
        · intro h
          by_cases e : i + 1 = t.length
          · exact Or.inl e
          · exact Or.inr (h (by omega))
  | .bin (op, p) c d, hT, h =>
    (first | rw [aftM_leaf] at h | rw [aftM_un] at h | rw [aftM_bin] at h | rw [aftM_zero] at h)
    dsimp only at h
    obtain ⟨rfl, ho⟩ := kt_bin hT
    split at h
    · rename_i ho2
      obtain ⟨a, M1, ha, h⟩ := bindM_some h
      obtain ⟨b, M2, hb, h⟩ := bindM_some h
      obtain ⟨kc, kd⟩ := kt_and hT (by rcases ho2 with h | h <;> simp [h])
      obtain ⟨e1, s1⟩ := hA c x M M1 a hM kc ha
      obtain ⟨e2, s2⟩ := hA d x M1 M2 b e1.good kd hb
      obtain ⟨e3, s3⟩ := two_ext h e1 e2
      refine ⟨e3, fun t i hx => ?_⟩
      rw [s3, s1 t i hx, s2 t i hx]
      rcases ho2 with rfl | rfl
      · simp [semTr, semT, binV]
      · simp [semTr, semT, binV]
    · split at h
      · rename_i ho1 ho2
        obtain ⟨b, M1, hb, h⟩ := bindM_some h
        obtain ⟨a, M2, ha, h⟩ := bindM_some h
        obtain ⟨u, M3, hu, h⟩ := bindM_some h
        obtain ⟨v, M4, hv, h⟩ := bindM_some h
        obtain ⟨kc, kd⟩ := kt_and hT (by rcases ho2 with h | h <;> simp [h])
        obtain ⟨e1, s1⟩ := hA d x M M1 b hM kd hb
        obtain ⟨e2, s2⟩ := hA c x M1 M2 a e1.good kc ha
        obtain ⟨e3, s3⟩ := need_ok _ e2.good hT hu
        obtain ⟨e4, s4⟩ := two_ext hv e2 e3
        obtain ⟨e5, s5⟩ := two_ext h e1 e4
        refine ⟨e5, fun t i hx => ?_⟩
        have hi : i < t.length := (List.getElem?_eq_some_iff.1 hx).1
        rw [s5, s4, s1 t i hx, s2 t i hx, s3]
        rcases ho2 with rfl | rfl
        · rw [until_step hi]; simp
        · rw [release_step hi]; simp
      · rename_i ho1 ho2
        obtain ⟨s, M1, hs, h⟩ := bindM_some h
        have ho3 : op = 17 ∨ op = 18 := by omega
        obtain ⟨kc, kd⟩ := kt_way hT ho3
        obtain ⟨e1, s1⟩ := hA d x M M1 s hM kd hs
        obtain ⟨e2, s2⟩ := hP (op == 18) c d s x M1 M' L e1.good kc kd e1.bd h
        refine ⟨⟨e1.pre.trans e2.pre, e2.good, e2.bd⟩, fun t i hx => ?_⟩
        have hi : i < t.length := (List.getElem?_eq_some_iff.1 hx).1
        have hf := fwd_of t kc.wf
        rw [s2 t i hx, s1 t i hx]
        unfold wayS
        rcases ho3 with rfl | rfl
        · simp only [show ((17 : Nat) == 18) = false from rfl, Bool.false_eq_true, if_false]
          exact way_end _ hf (by omega) _
        · simp only [show ((18 : Nat) == 18) = true from rfl, if_true]
          exact way_endB _ hf (by omega) _
theorem pth_next {n : Nat} (hA : AftOk n) (hP : PthOk n) : PthOk (n + 1) := by
  intro box r f s x M M' L hM hr hf hs h
  match r, hr, h with
  | .leaf k, hr, h => exact (kp_leaf hr).elim
  | .un (op, p) c, hr, h =>
    (first | rw [pthM_leaf] at h | rw [pthM_un] at h | rw [pthM_bin] at h | rw [pthM_zero] at h)
    dsimp only at h
    rcases kp_un hr with ⟨rfl, ⟨rfl, hc, hpl⟩ | ⟨rfl, hc⟩ | ⟨rfl, hc⟩⟩
    · rw [if_pos rfl] at h
      have hnp : pathT c = false := by
        have hf1 := (un_cases hr.wf).2.2.1
        simp [fit1T] at hf1
        exact hf1.1
      split at h
      · rename_i hv
        obtain ⟨e1, s1⟩ := need_ok f hM hf h
        refine ⟨e1, fun t i hx => ?_⟩
        have hi : i < t.length := (List.getElem?_eq_some_iff.1 hx).1
        have hg := (plain_at hx c hc hnp hpl).1 hv
        rw [s1]
        unfold wayS wayB wayD
        have hw : ∀ k, (semTr t (.un (19, 0) c)).2 i k ↔ k = i + 1 := fun k => ⟨fun h => h.1, fun h => ⟨h, hi, hg⟩⟩
        cases box with
        | true =>
          simp only [if_true, hw]
          exact ⟨fun h => ⟨fun e => by omega, fun k _ e => by rw [e]; exact h⟩, fun h => h.2 (i + 1) (by omega) rfl⟩
        | false =>
          simp only [Bool.false_eq_true, if_false, hw]
          exact ⟨fun h => Or.inr ⟨i + 1, by omega, rfl, h⟩, fun h => by
            rcases h with ⟨e, _⟩ | ⟨k, _, rfl, h⟩
            · omega
            · exact h⟩
      · rename_i hv
        injection h with h; injection h with h1 h2; subst h1 h2
        refine ⟨⟨List.prefix_refl _, hM, bdL_yes _ _⟩, fun t i hx => ?_⟩
        have hg : ¬ (semTr t c).1 i := fun h => hv ((plain_at hx c hc hnp hpl).2 h)
        rw [lsP_yes]
        unfold wayS wayB wayD
        have hw : ∀ k, ¬ (semTr t (.un (19, 0) c)).2 i k := fun k h => hg h.2.2
        cases box with
        | true => simp [hw]
        | false => simp [hw]
    · rw [if_neg (by decide), if_pos rfl] at h
      obtain ⟨a, M1, ha, h⟩ := bindM_some h
      have hk : KT (if box then (kTr c).2 else c) := by
        cases box
        · exact hc
        · exact kt_neg hc
      obtain ⟨e1, s1⟩ := hA _ x M M1 a hM hk ha
      have e := (twoM_some h).1
      subst e
      refine ⟨⟨e1.pre, e1.good, two_bd h e1.bd (hs.mono (pre_len e1.pre))⟩, fun t i hx => ?_⟩
      have hi : i < t.length := (List.getElem?_eq_some_iff.1 hx).1
      rw [two_ls h, s1 t i hx, ← ls_pre e1.pre hs]
      unfold wayS wayB wayD
      have hw : ∀ k, (semTr t (.un (20, 0) c)).2 i k ↔ k = i ∧ (semTr t c).1 i := fun k => Iff.rfl
      cases box with
      | true =>
        simp only [if_true, hw, Bool.not_true, Bool.false_eq_true, if_false]
        rw [(kMn t c hc.wf).f2 hc.np i (by omega)]
        constructor
        · rintro (h1 | h1)
          · exact ⟨fun h => absurd h.2 h1, fun k hk h => absurd h.2 h1⟩
          · exact ⟨fun _ => h1, fun k hk h => by omega⟩
        · rintro ⟨h1, _⟩
          by_cases h2 : (semTr t c).1 i
          · exact Or.inr (h1 ⟨trivial, h2⟩)
          · exact Or.inl h2
      | false =>
        simp only [Bool.false_eq_true, if_false, hw, Bool.not_false, if_true]
        constructor
        · rintro ⟨h1, h2⟩; exact Or.inl ⟨⟨trivial, h1⟩, h2⟩
        · rintro (⟨⟨_, h1⟩, h2⟩ | ⟨k, hk, ⟨e, _⟩, _⟩)
          · exact ⟨h1, h2⟩
          · omega
    · rw [if_neg (by decide), if_neg (by decide)] at h
      obtain ⟨a, M1, ha, h⟩ := bindM_some h
      obtain ⟨e1, s1⟩ := hP box c _ (yesM box) x M M1 a hM hc (kt_mode hr hf box) (bdL_yes _ _) ha
      have e := (twoM_some h).1
      subst e
      refine ⟨⟨e1.pre, e1.good, two_bd h (hs.mono (pre_len e1.pre)) e1.bd⟩, fun t i hx => ?_⟩
      have hi : i < t.length := (List.getElem?_eq_some_iff.1 hx).1
      have hfw := fwd_of t hc.wf
      rw [two_ls h, s1 t i hx, ← ls_pre e1.pre hs, lsP_yes]
      cases box with
      | true =>
        simp only [if_true]
        show _ ↔ wayB (fun i k => ∃ m, stepsP (semTr t c).2 m i k) i _ _
        rw [wayB_star hfw (by omega)]
        refine and_congr_right fun _ => ?_
        exact Iff.rfl
      | false =>
        simp only [Bool.false_eq_true, if_false]
        show _ ↔ wayD (fun i k => ∃ m, stepsP (semTr t c).2 m i k) i _ _
        rw [wayD_star hfw (by omega)]
        refine or_congr_right ?_
        exact Iff.rfl
  | .bin (op, p) c d, hr, h =>
    (first | rw [pthM_leaf] at h | rw [pthM_un] at h | rw [pthM_bin] at h | rw [pthM_zero] at h)
    dsimp only at h
    obtain ⟨rfl, ho, kc, kd⟩ := kp_bin hr
    rcases ho with rfl | rfl
    · rw [if_pos rfl] at h
      obtain ⟨a, M1, ha, h⟩ := bindM_some h
      obtain ⟨b, M2, hb, h⟩ := bindM_some h
      obtain ⟨e1, s1⟩ := hP box c f s x M M1 a hM kc hf hs ha
      obtain ⟨e2, s2⟩ := hP box d f s x M1 M2 b e1.good kd hf (hs.mono (pre_len e1.pre)) hb
      obtain ⟨e3, s3⟩ := two_ext h e1 e2
      refine ⟨e3, fun t i hx => ?_⟩
      rw [s3, s1 t i hx, s2 t i hx, ← ls_pre e1.pre hs]
      unfold wayS
      cases box with
      | true =>
        simp only [if_true]
        unfold wayB
        show _ ↔ ((semTr t c).2 i i ∨ (semTr t d).2 i i → _) ∧ ∀ k, i < k → (semTr t c).2 i k ∨ (semTr t d).2 i k → _
        constructor
        · rintro ⟨⟨h1, h2⟩, h3, h4⟩
          exact ⟨fun h => h.elim h1 h3, fun k hk h => h.elim (h2 k hk) (h4 k hk)⟩
        · rintro ⟨h1, h2⟩
          exact ⟨⟨fun h => h1 (Or.inl h), fun k hk h => h2 k hk (Or.inl h)⟩, fun h => h1 (Or.inr h), fun k hk h => h2 k hk (Or.inr h)⟩
      | false =>
        simp only [Bool.false_eq_true, if_false]
        unfold wayD
        show _ ↔ (((semTr t c).2 i i ∨ (semTr t d).2 i i) ∧ _) ∨ ∃ k, i < k ∧ ((semTr t c).2 i k ∨ (semTr t d).2 i k) ∧ _
        constructor
        · rintro ((⟨h1, h2⟩ | ⟨k, h0, h1, h2⟩) | ⟨h1, h2⟩ | ⟨k, h0, h1, h2⟩)
          · exact Or.inl ⟨Or.inl h1, h2⟩
          · exact Or.inr ⟨k, h0, Or.inl h1, h2⟩
          · exact Or.inl ⟨Or.inr h1, h2⟩
          · exact Or.inr ⟨k, h0, Or.inr h1, h2⟩
        · rintro (⟨h1 | h1, h2⟩ | ⟨k, h0, h1 | h1, h2⟩)
          · exact Or.inl (Or.inl ⟨h1, h2⟩)
          · exact Or.inr (Or.inl ⟨h1, h2⟩)
          · exact Or.inl (Or.inr ⟨k, h0, h1, h2⟩)
          · exact Or.inr (Or.inr ⟨k, h0, h1, h2⟩)
    · rw [if_neg (by decide)] at h
      obtain ⟨a, M1, ha, h⟩ := bindM_some h
      obtain ⟨e1, s1⟩ := hP box d f s x M M1 a hM kd hf hs ha
      obtain ⟨e2, s2⟩ := hP box c _ a x M1 M' L e1.good kc (kt_mode kd hf box) e1.bd h
      refine ⟨⟨e1.pre.trans e2.pre, e2.good, e2.bd⟩, fun t i hx => ?_⟩
      have hi : i < t.length := (List.getElem?_eq_some_iff.1 hx).1
      rw [s2 t i hx, s1 t i hx]
      unfold wayS
      cases box with
      | true =>
        simp only [if_true]
        show _ ↔ wayB (fun i k => ∃ j, (semTr t c).2 i j ∧ (semTr t d).2 j k) i _ _
        rw [wayB_seq (fwd_of t kc.wf) (fwd_of t kd.wf) (by omega)]
        exact Iff.rfl
      | false =>
        simp only [Bool.false_eq_true, if_false]
        show _ ↔ wayD (fun i k => ∃ j, (semTr t c).2 i j ∧ (semTr t d).2 j k) i _ _
        rw [wayD_seq (fwd_of t kc.wf) (fwd_of t kd.wf) (by omega)]
        exact Iff.rfl
theorem both_ok : ∀ n, AftOk n ∧ PthOk n
  | 0 => ⟨fun T x M M' L _ _ h => (by (first | rw [aftM_leaf] at h | rw [aftM_un] at h | rw [aftM_bin] at h | rw [aftM_zero] at h); cases h), fun box r f s x M M' L _ _ _ _ h => (by (first | rw [pthM_leaf] at h | rw [pthM_un] at h | rw [pthM_bin] at h | rw [pthM_zero] at h); cases h)⟩
  | n + 1 => ⟨aft_next (both_ok n).1 (both_ok n).2, pth_next (both_ok n).1 (both_ok n).2⟩
end Go.Proofs.YtnedkpbpeolfoaaDoor
namespace Go.Proofs.YtnedkpbpeolfoaaDoor
/-- What a token's kernel formula is made of: 24, 25 the first part's formula and its negation's, 26, 27 the second's. -/
def rOwn (op : Nat) : List Nat :=
  if op = 3 then [4, 1, 8, 11] else if op ≤ 5 then [op] else if op = 6 then [25] else if op = 7 then [24, 7] else if op = 8 then [24, 8]
  else if op = 9 then [0, 24, 15] else if op = 10 then [1, 24, 16] else if op = 13 then [25, 26, 12] else if op = 14 then [24, 26, 11, 25, 27, 11, 12]
  else if op = 19 ∨ op = 20 ∨ op = 23 then [24, op] else [24, 26, op]
def rNeg (op : Nat) : List Nat :=
  if op = 0 then [1] else if op = 1 then [0] else if op = 2 then [2, 6] else if op = 3 then [5, 0, 7, 12] else if op = 4 then [5] else if op = 5 then [4]
  else if op = 6 then [24] else if op = 7 then [25, 8] else if op = 8 then [25, 7] else if op = 9 then [1, 25, 16] else if op = 10 then [0, 25, 15]
  else if op = 11 then [25, 27, 12] else if op = 12 then [25, 27, 11] else if op = 13 then [24, 27, 11] else if op = 14 then [24, 27, 11, 25, 26, 11, 12]
  else if op = 15 then [25, 27, 16] else if op = 16 then [25, 27, 15] else if op = 17 then [24, 27, 18] else if op = 18 then [24, 27, 17] else []
def wr1 (k : Tk) (a : List Kq) (o : Nat) : List Tk :=
  if o = 24 then (a.getD 0 ([], [])).1 else if o = 25 then (a.getD 0 ([], [])).2 else if o = 26 then (a.getD 1 ([], [])).1 else if o = 27 then (a.getD 1 ([], [])).2
  else if o = 2 then [k] else [(o, 0)]
def wrS (ops : List Nat) (k : Tk) (a : List Kq) : List Tk := ops.flatMap (wr1 k a)
def jOp (k : Tk) (a : List Kq) : Kq := (wrS (rOwn k.1) k a, wrS (rNeg k.1) k a)
def jStep (st : List Kq) (k : Tk) : List Kq := st.take (st.length - takC k) ++ [jOp k (st.drop (st.length - takC k))]
def jS (ts : List Tk) (st : List Kq) : List Kq := ts.foldl jStep st
theorem jS_app (a b : List Tk) (st : List Kq) : jS (a ++ b) st = jS b (jS a st) := by unfold jS; rw [List.foldl_append]
def jFl (T : Tr) : Kq := ((kTr T).1.flat, if pathT T then [] else (kTr T).2.flat)
theorem jFl_leaf {op p : Nat} (h : (Tr.leaf (op, p)).WF) : jOp (op, p) [] = jFl (.leaf (op, p)) := by
  rcases leaf_cases h with ⟨rfl, hp⟩ | ⟨rfl, rfl | rfl | rfl | rfl | rfl⟩ <;> rfl
theorem jFl_un {op p : Nat} {c : Tr} (h : (Tr.un (op, p) c).WF) : jOp (op, p) [jFl c] = jFl (.un (op, p) c) := by
  obtain ⟨rfl, hc, hf, ho⟩ := un_cases h
  rcases ho with rfl | rfl | rfl | rfl | rfl | rfl | rfl | rfl <;> simp [fit1T] at hf <;> simp [jOp, wrS, wr1, rOwn, rNeg, jFl, kTr, Tr.flat, path_un, isPathB, hf]
theorem jFl_bin {op p : Nat} {c d : Tr} (h : (Tr.bin (op, p) c d).WF) : jOp (op, p) [jFl c, jFl d] = jFl (.bin (op, p) c d) := by
  obtain ⟨rfl, hc, hd, hf, ho⟩ := bin_cases h
  rcases ho with rfl | rfl | rfl | rfl | rfl | rfl | rfl | rfl | rfl | rfl <;> simp [fit2T] at hf <;> simp [jOp, wrS, wr1, rOwn, rNeg, jFl, kTr, Tr.flat, path_bin, isPathB, hf]
def s1 (T : Tr) : Nat := (kTr T).1.flat.length
def s2 (T : Tr) : Nat := (kTr T).2.flat.length
theorem s_leaf {op p : Nat} (h : (Tr.leaf (op, p)).WF) : s2 (.leaf (op, p)) ≤ 2 * s1 (.leaf (op, p)) ∧ s1 (.leaf (op, p)) ≤ 2 * s2 (.leaf (op, p)) := by
  rcases leaf_cases h with ⟨rfl, hp⟩ | ⟨rfl, rfl | rfl | rfl | rfl | rfl⟩ <;> simp [s1, s2, kTr, Tr.flat]
theorem dbl : ∀ T : Tr, T.WF → pathT T = false → s2 T ≤ 2 * s1 T ∧ s1 T ≤ 2 * s2 T
  | .leaf (op, p), h, _ => s_leaf h
  | .un (op, p) c, h, hp => by
    obtain ⟨rfl, hc, hf, ho⟩ := un_cases h
    have ih := dbl c hc
    unfold s1 s2 at ih ⊢
    rcases ho with rfl | rfl | rfl | rfl | rfl | rfl | rfl | rfl <;> simp [fit1T] at hf <;> simp [path_un, isPathB] at hp <;> (have ih := ih hf; simp [kTr, Tr.flat]; omega)
  | .bin (op, p) c d, h, hp => by
    obtain ⟨rfl, hc, hd, hf, ho⟩ := bin_cases h
    have ih := dbl c hc
    have jh := dbl d hd
    unfold s1 s2 at ih jh ⊢
    rcases ho with rfl | rfl | rfl | rfl | rfl | rfl | rfl | rfl | rfl | rfl <;> simp [fit2T] at hf <;> simp [path_bin, isPathB] at hp <;> simp only [hf, forall_const] at ih jh <;> (simp [kTr, Tr.flat]; omega)
def wt (T : Tr) : Nat := if pathT T then s1 T else min (s1 T) (s2 T)
theorem wt_un {op p : Nat} {c : Tr} (h : (Tr.un (op, p) c).WF) : wt c ≤ wt (.un (op, p) c) := by
  obtain ⟨rfl, hc, hf, ho⟩ := un_cases h
  unfold wt s1 s2
  rcases ho with rfl | rfl | rfl | rfl | rfl | rfl | rfl | rfl <;> simp [fit1T] at hf <;> (simp [path_un, isPathB, kTr, Tr.flat, hf]; try omega)
theorem wt_bin {op p : Nat} {c d : Tr} (h : (Tr.bin (op, p) c d).WF) : wt c ≤ wt (.bin (op, p) c d) ∧ wt d ≤ wt (.bin (op, p) c d) := by
  obtain ⟨rfl, hc, hd, hf, ho⟩ := bin_cases h
  unfold wt s1 s2
  rcases ho with rfl | rfl | rfl | rfl | rfl | rfl | rfl | rfl | rfl | rfl <;> simp [fit2T] at hf <;> (simp [path_bin, isPathB, kTr, Tr.flat, hf]; omega)
theorem wt_len {T : Tr} (h : T.WF) : (jFl T).1.length ≤ 2 * wt T ∧ (jFl T).2.length ≤ 2 * wt T := by
  unfold jFl wt
  cases hp : pathT T with
  | true => simp [s1]; omega
  | false =>
    have := dbl T h hp
    unfold s1 s2 at *
    simp
    omega
/-- A token that is worked off: it is one, it finds what it takes; what it makes is not too long. -/
structure JOk (B : Nat) (st : List Kq) (q : Tk) : Prop where
  tk : ∃ m, takesN q = some m
  le : takC q ≤ st.length
  l1 : (jOp q (st.drop (st.length - takC q))).1.length ≤ B
  l2 : (jOp q (st.drop (st.length - takC q))).2.length ≤ B
theorem j_tree : ∀ T : Tr, T.WF → ∀ (st : List Kq) (B : Nat), 2 * wt T ≤ B → jS T.flat st = st ++ [jFl T] ∧ ∀ k (h : k < T.flat.length), JOk B (jS (T.flat.take k) st) T.flat[k]
  | .leaf (op, p), hT, st, B, hB => by
    have e := tak_of hT.1
    have hd := drop_at st [] 0 rfl
    rw [List.append_nil] at hd
    have hw := wt_len hT
    refine ⟨?_, fun k h => ?_⟩
    · show jStep st (op, p) = _
      unfold jStep
      rw [e, hd.1, hd.2, jFl_leaf hT]
    · have hk : k = 0 := by simp [Tr.flat] at h; exact h
      subst hk
      show JOk B st (op, p)
      refine ⟨⟨0, hT.1⟩, by rw [e]; exact Nat.zero_le _, ?_, ?_⟩
      · rw [e, hd.1, jFl_leaf hT]; omega
      · rw [e, hd.1, jFl_leaf hT]; omega
  | .un (op, p) c, hT, st, B, hB => by
    have e := tak_of hT.1
    have hw := wt_len hT
    have hwc := wt_un hT
    obtain ⟨h1, h2⟩ := j_tree c hT.2.2 st B (by omega)
    have hd := drop_at st [jFl c] 1 rfl
    refine ⟨?_, ?_⟩
    · show jS (c.flat ++ [(op, p)]) st = _
      rw [jS_app, h1]
      show jStep _ (op, p) = _
      unfold jStep
      rw [e, hd.1, hd.2, jFl_un hT]
    · show ∀ k (h : k < (c.flat ++ [(op, p)]).length), JOk B (jS ((c.flat ++ [(op, p)]).take k) st) (c.flat ++ [(op, p)])[k]
      refine get_split (P := fun l x => JOk B (jS l st) x) h2 fun k h => ?_
      have hk : k = 0 := by simp at h; exact h
      subst hk
      show JOk B (jS (c.flat ++ []) st) (op, p)
      rw [List.append_nil, h1]
      refine ⟨⟨1, hT.1⟩, by rw [e]; simp, ?_, ?_⟩
      · rw [e, hd.1, jFl_un hT]; omega
      · rw [e, hd.1, jFl_un hT]; omega
  | .bin (op, p) c d, hT, st, B, hB => by
    have e := tak_of hT.1
    have hw := wt_len hT
    have hwc := wt_bin hT
    obtain ⟨h1, h2⟩ := j_tree c hT.2.2.1 st B (by omega)
    obtain ⟨h3, h4⟩ := j_tree d hT.2.2.2 (st ++ [jFl c]) B (by omega)
    have hd := drop_at st [jFl c, jFl d] 2 rfl
    rw [show st ++ [jFl c, jFl d] = st ++ [jFl c] ++ [jFl d] by simp] at hd
    have h5 : jS (c.flat ++ d.flat) st = st ++ [jFl c] ++ [jFl d] := by rw [jS_app, h1, h3]
    refine ⟨?_, ?_⟩
    · show jS (c.flat ++ d.flat ++ [(op, p)]) st = _
      rw [jS_app, h5]
      show jStep _ (op, p) = _
      unfold jStep
      rw [e, hd.1, hd.2, jFl_bin hT]
    · show ∀ k (h : k < (c.flat ++ d.flat ++ [(op, p)]).length), JOk B (jS ((c.flat ++ d.flat ++ [(op, p)]).take k) st) (c.flat ++ d.flat ++ [(op, p)])[k]
      refine get_split (P := fun l x => JOk B (jS l st) x) (get_split (P := fun l x => JOk B (jS l st) x) h2 fun k h => ?_) fun k h => ?_
      · show JOk B (jS (c.flat ++ d.flat.take k) st) d.flat[k]
        rw [jS_app, h1]; exact h4 k h
      · have hk : k = 0 := by simp at h; exact h
        subst hk
        show JOk B (jS (c.flat ++ d.flat ++ []) st) (op, p)
        rw [List.append_nil, h5]
        refine ⟨⟨2, hT.1⟩, by rw [e]; simp, ?_, ?_⟩
        · rw [e, hd.1, jFl_bin hT]; omega
        · rw [e, hd.1, jFl_bin hT]; omega
end Go.Proofs.YtnedkpbpeolfoaaDoor
