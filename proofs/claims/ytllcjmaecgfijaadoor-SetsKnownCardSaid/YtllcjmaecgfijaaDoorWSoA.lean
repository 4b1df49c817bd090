/- The library's sort at []uint64: pdqsort, Sort. -/
import Derived.Test.YtllcjmaecgfijaaDoorWSo8
import Derived.Test.YtllcjmaecgfijaaDoorWSo9
namespace Go.Proofs.YtllcjmaecgfijaaDoor
open Go.RowKit Go.Maps
open Go.Sort (swp PermIn SortedIn)

/-- What pdqsort answers, of parts shorter than n. -/
def PdqC (n : Nat) : Prop := ∀ (g c a b lim : Nat) (d : Array Int) (t : List Int) (w : World), SoAt w g d t → a ≤ b → b ≤ d.size → d.size ≤ 1000000 → lim ≤ 64 → b - a < n → Go.Sort.Below lt64 a b d →
  Calls Tryd.prog 28 #[.slice (some ⟨g, 0, none⟩) d.size c, .int .i64 (a : Int), .int .i64 (b : Int), .int .i64 (lim : Int)] w fun e w' => e = .returned (.tuple #[]) ∧ ∃ d', PermIn a b d d' ∧ SortedIn lt64 a b d' ∧ SoAt w' g d' t ∧ w.grownBy w' (some g)
theorem none_grown {w w' : World} (h : w.grownBy w' none) (g : Nat) : w.grownBy w' (some g) := ⟨h.os, h.tape, h.output, h.size, fun j hj _ => h.block j hj (fun e => by cases e)⟩
set_option maxRecDepth 100000 in
set_option maxHeartbeats 32000000 in
theorem Tryd.pdq_step (n : Nat) (IH : PdqC n) : PdqC (n + 1) := by
  intro g c a0 b0 lim0 d0 t w h hab hb hn hlim hlt hB
  obtain ⟨N, hN⟩ : ∃ N, d0.size = N := ⟨_, rfl⟩
  have HS0 : Hid (SoAt w g d0 t) := h
  have HD0 : Hid (d0.size = N) := hN
  have HG0 : Hid (w.grownBy w (some g)) := World.grownBy.refl _ _
  have HQ0 : Hid (PQ a0 b0 a0 b0 d0 d0) := pq_start hab hB
  have HBB : Hid (b0 ≤ d0.size) := hb
  have HIH : Hid (PdqC n) := IH
  have HFIN : Hid (∀ (a b : Nat) (d d' : Array Int) (w' : World), PQ a0 b0 a b d0 d → PermIn a b d d' → SortedIn lt64 a b d' → SoAt w' g d' t → w.grownBy w' (some g) → ∃ d', PermIn a0 b0 d0 d' ∧ SortedIn lt64 a0 b0 d' ∧ SoAt w' g d' t ∧ w.grownBy w' (some g)) := fun a b d d' w' hq hp hs h1 h2 => ⟨d', hq.up hb hp, hq.fin d' hp hs, h1, h2⟩
  rw [hN] at hb hn ⊢
  clear h hN hB IH
  go_enter Tryd.func28, Tryd.ntmps28
  go_wp2
  go_loopw [1, 2, 3, 8, 9] (fun av bv lv f1v f2v wr => ∃ (a b lim : Nat) (f1 f2 : Bool), av = .int .i64 (a : Int) ∧ bv = .int .i64 (b : Int) ∧ lv = .int .i64 (lim : Int) ∧ f1v = .bool f1 ∧ f2v = .bool f2 ∧ lim ≤ 64 ∧ ∃ dk : Array Int, Hid (dk.size = N) ∧ Hid (SoAt wr g dk t) ∧ Hid (PQ a0 b0 a b d0 dk) ∧ Hid (w.grownBy wr (some g))) (fun av bv _ _ _ _ => (intOf bv - intOf av).toNat)
  case atStart => exact ⟨a0, b0, lim0, true, true, rfl, rfl, rfl, rfl, rfl, hlim, d0, HD0, HS0, HQ0, HG0⟩
  case round =>
    obtain ⟨a, b, lim, f1, f2, rfl, rfl, rfl, rfl, rfl, hlm, dk, HD, HS, HQ, HG⟩ := hrel
    clear HS0 HD0 HG0 HQ0
    have q1 := HQ.out.a1
    have q2 := HQ.out.ab
    have q3 := HQ.out.b1
    obtain ⟨L, hL⟩ : ∃ L, L = b - a := ⟨_, rfl⟩
    have wL : IntKind.i64.wrap ((b : Int) - (a : Int)) = (L : Int) := by rw [IntKind.wrap_i64]; omega
    have eL : (b : Int) - (a : Int) = (L : Int) := by omega
    have HL : Hid (L = b - a) := hL
    by_cases h12 : L ≤ 12
    · have h12' : (L : Int) ≤ 12 := by omega
      have hins := Tryd.insSort_any g c a b dk t wr HS.out q2 (by rw [HD.out]; omega) (by rw [HD.out]; omega)
      have HI : Hid _ := Go.Sort.insertionSort_holds swo64 dk a b q2 (by rw [HD.out]; omega)
      rw [HD.out] at hins
      clear hL
      go_wp2_with fail
      refine hins.mono ?_
      rintro e w1 ⟨rfl, hs1, hg1⟩
      have HZ : Hid _ := HFIN.out a b dk _ w1 HQ.out HI.out.1 HI.out.2 hs1 (grow_thenS HG.out hg1)
      clear hins hs1 hg1
      go_wp2
      refine bodyPost_ret (results_none rfl _ _ _) rfl ?_
      exact ⟨rfl, HZ.out⟩
    · have h12' : ¬ (L : Int) ≤ 12 := by omega
      have hab12 : a + 12 < b := by omega
      by_cases hl0 : lim = 0
      · have hl0' : ((lim : Int) == 0) = true := by rw [beq_iff_eq]; omega
        have hhp := Tryd.heapSort_any g c a b dk t wr HS.out (by omega) (by rw [HD.out]; omega) (by rw [HD.out]; omega)
        have HI : Hid _ := Go.Sort.heapSort_holds swo64 dk a b q2 (by rw [HD.out]; omega)
        rw [HD.out] at hhp
        clear hL hl0
        go_wp2_with fail
        refine hhp.mono ?_
        rintro e w1 ⟨rfl, hs1, hg1⟩
        have HZ : Hid _ := HFIN.out a b dk _ w1 HQ.out HI.out.1 HI.out.2 hs1 (grow_thenS HG.out hg1)
        clear hhp hs1 hg1
        go_wp2
        refine bodyPost_ret (results_none rfl _ _ _) rfl ?_
        exact ⟨rfl, HZ.out⟩
      · have hl0' : ((lim : Int) == 0) = false := by rw [beq_eq_false_iff_ne]; omega
        obtain ⟨lm, hlm1⟩ : ∃ lm, lm = lim - 1 := ⟨_, rfl⟩
        have wlm : IntKind.i64.wrap ((lim : Int) - 1) = (lm : Int) := by rw [IntKind.wrap_i64]; omega
        have elm : (lim : Int) - 1 = (lm : Int) := by omega
        have hlm2 : lm ≤ 64 := by omega
        have hbr := Tryd.break_any g c a b dk t wr HS.out hab12 (by rw [HD.out]; omega) (by rw [HD.out]; omega)
        rw [HD.out] at hbr
        clear hL hl0 hlm1
        go_upto_if 35 with fail
        go_cut [3] (fun lv wx => ∃ l1 : Nat, lv = .int .i64 (l1 : Int) ∧ l1 ≤ 64 ∧ ∃ d1 : Array Int, Hid (d1.size = N) ∧ Hid (SoAt wx g d1 t) ∧ Hid (PQ a0 b0 a b d0 d1) ∧ Hid (w.grownBy wx (some g)))
        case first =>
          cases f1 with
          | true =>
            go_wp2
            go_meet
            case rel => exact ⟨lim, rfl, hlm, dk, HD, HS, HQ, HG⟩
          | false =>
            go_wp2_with fail
            refine hbr.mono ?_
            rintro e w1 ⟨rfl, d1, hp1, hz1, hs1, hg1⟩
            have HQ1 : Hid (PQ a0 b0 a b d0 d1) := HQ.out.move HBB.out hp1
            have HS1 : Hid (SoAt w1 g d1 t) := hs1
            have HD1 : Hid (d1.size = N) := hz1
            have HG1 : Hid (w.grownBy w1 (some g)) := grow_thenS HG.out hg1
            clear hbr hp1 hz1 hs1 hg1
            go_wp2
            go_meet
            case rel => exact ⟨lm, rfl, hlm2, d1, HD1, HS1, HQ1, HG1⟩
        case rest =>
          obtain ⟨l1, rfl, hl1, d1, HD1, HS1, HQ1, HG1⟩ := hcut
          clear hbr HD HS HQ HG wlm elm hl0' hlm2
          generalize wc = w1 at *
          have hch := Tryd.choose_any g c a b d1 t w1 HS1.out hab12 (by rw [HD1.out]; omega) (by rw [HD1.out]; omega)
          rw [HD1.out] at hch
          go_wp2_with fail
          refine hch.mono ?_
          rintro e w2 ⟨q, k, rfl, hqa, hqb, hk, hs2, hg2⟩
          have HS2 : Hid (SoAt w2 g d1 t) := hs2
          have HG2 : Hid (w.grownBy w2 (some g)) := grow_thenS HG1.out (none_grown hg2 g)
          clear hch hs2 hg2 HS1 HG1
          obtain ⟨b1, hb1⟩ : ∃ b1, b1 = b - 1 := ⟨_, rfl⟩
          obtain ⟨qa, hqa1⟩ : ∃ qa, qa = q - a := ⟨_, rfl⟩
          obtain ⟨q1, hqq⟩ : ∃ q1, q1 = b1 - qa := ⟨_, rfl⟩
          have wb1 : IntKind.i64.wrap ((b : Int) - 1) = (b1 : Int) := by rw [IntKind.wrap_i64]; omega
          have eb1 : (b : Int) - 1 = (b1 : Int) := by omega
          have wqa : IntKind.i64.wrap ((q : Int) - (a : Int)) = (qa : Int) := by rw [IntKind.wrap_i64]; omega
          have eqa : (q : Int) - (a : Int) = (qa : Int) := by omega
          have wqq : IntKind.i64.wrap ((b1 : Int) - (qa : Int)) = (q1 : Int) := by rw [IntKind.wrap_i64]; omega
          have eqq : (b1 : Int) - (qa : Int) = (q1 : Int) := by omega
          have hq1a : a ≤ q1 := by omega
          have hq1b : q1 < b := by omega
          have hrv := Tryd.revRange_any g c a b d1 t w2 HS2.out q2 (by rw [HD1.out]; omega) (by rw [HD1.out]; omega)
          have HRV : Hid _ := Go.Sort.reverseRange_holds d1 a b q2 (by rw [HD1.out]; omega)
          rw [HD1.out] at hrv
          clear hb1 hqa1 hqq
          go_upto_if 50 with fail
          go_cut [11, 12] (fun qv kv wx => ∃ q k : Nat, qv = .int .i64 (q : Int) ∧ kv = .int .i64 (k : Int) ∧ a ≤ q ∧ q < b ∧ k ≤ 2 ∧ ∃ d1 : Array Int, Hid (d1.size = N) ∧ Hid (SoAt wx g d1 t) ∧ Hid (PQ a0 b0 a b d0 d1) ∧ Hid (w.grownBy wx (some g)))
          case first =>
            by_cases hk2 : k = 2
            · have hk2' : ((k : Int) == 2) = true := by rw [beq_iff_eq]; omega
              clear hk2
              go_wp2_with fail
              refine hrv.mono ?_
              rintro e w3 ⟨rfl, hs3, hg3⟩
              have HQ3 : Hid (PQ a0 b0 a b d0 (Go.Sort.reverseRange d1 a b)) := HQ1.out.move HBB.out HRV.out
              have HS3 : Hid (SoAt w3 g (Go.Sort.reverseRange d1 a b) t) := hs3
              have HD3 : Hid ((Go.Sort.reverseRange d1 a b).size = N) := HRV.out.1.trans HD1.out
              have HG3 : Hid (w.grownBy w3 (some g)) := grow_thenS HG2.out hg3
              clear hrv hs3 hg3
              go_wp2_with fail
              go_meet
              case rel => exact ⟨q1, 1, rfl, rfl, hq1a, hq1b, by omega, _, HD3, HS3, HQ3, HG3⟩
            · have hk2' : ((k : Int) == 2) = false := by rw [beq_eq_false_iff_ne]; omega
              clear hk2
              go_wp2_with fail
              go_meet
              case rel => exact ⟨q, k, rfl, rfl, hqa, hqb, hk, d1, HD1, HS2, HQ1, HG2⟩
          case rest =>
            clear hrv HRV wb1 eb1 wqa eqa wqq eqq hq1a hq1b HD1 HS2 HQ1 HG2 hqa hqb hk
            obtain ⟨q, k, rfl, rfl, hqa, hqb, hk, d2, HD2, HS2, HQ2, HG2⟩ := hcut
            generalize wc = w3 at *
            go_upto_region 15 with fail
            go_cut [68] (fun cv wx => cv = .bool (f1 && f2 && ((k : Int) == 1)) ∧ wx = w3)
            case first =>
              cases f1 <;> cases f2 <;> (go_wp2_with fail; go_meet; exact ⟨rfl, rfl⟩)
            case rest =>
              obtain ⟨rfl, rfl⟩ := hcut
              generalize (f1 && f2 && ((k : Int) == 1)) = y at *
              generalize wc = w4 at *
              have hpi := Tryd.pins_any g c a b d2 t w4 HS2.out (by omega) (by rw [HD2.out]; omega) (by rw [HD2.out]; omega)
              have HPI : Hid _ := Go.Sort.partialInsertionSort_holds swo64 d2 a b (by omega) (by rw [HD2.out]; omega) HQ2.out.bel
              rw [HD2.out] at hpi
              generalize Go.Sort.partialInsertionSort lt64 d2 a b = R at *
              obtain ⟨R1, R2⟩ := R
              go_upto_if 68 with fail
              go_cut [12] (fun kv wx => kv = .int .i64 (k : Int) ∧ ∃ d1 : Array Int, Hid (d1.size = N) ∧ Hid (SoAt wx g d1 t) ∧ Hid (PQ a0 b0 a b d0 d1) ∧ Hid (w.grownBy wx (some g)))
              case first =>
                cases y with
                | false =>
                  go_wp2_with fail
                  go_meet
                  case rel => exact ⟨rfl, d2, HD2, HS2, HQ2, HG2⟩
                | true =>
                  go_wp2_with fail
                  refine hpi.mono ?_
                  rintro e w5 ⟨rfl, hs5, hg5⟩
                  have HS5 : Hid (SoAt w5 g R1 t) := hs5
                  have HG5 : Hid (w.grownBy w5 (some g)) := grow_thenS HG2.out hg5
                  clear hpi hs5 hg5
                  cases R2 with
                  | true =>
                    have HZ : Hid _ := HFIN.out a b d2 _ w5 HQ2.out HPI.out.1 (HPI.out.2 rfl) HS5.out HG5.out
                    go_wp2_with fail
                    refine bodyPost_ret (results_none rfl _ _ _) rfl ?_
                    exact ⟨rfl, HZ.out⟩
                  | false =>
                    have HQ5 : Hid (PQ a0 b0 a b d0 R1) := HQ2.out.move HBB.out HPI.out.1
                    have HD5 : Hid (R1.size = N) := HPI.out.1.1.trans HD2.out
                    go_wp2_with fail
                    go_meet
                    case rel => exact ⟨rfl, R1, HD5, HS5, HQ5, HG5⟩
              case rest =>
                clear hpi HPI HD2 HS2 HQ2 HG2
                obtain ⟨rfl, d3, HD3, HS3, HQ3, HG3⟩ := hcut
                generalize wc = w5 at *
                obtain ⟨am, ham⟩ : ∃ am, am = a - 1 := ⟨_, rfl⟩
                have HAM : Hid (am = a - 1) := ham
                obtain ⟨y2, hy2⟩ : ∃ y2 : Bool, y2 = (decide (0 < a) && !lt64 d3[am]! d3[q]!) := ⟨_, rfl⟩
                have HY : Hid (y2 = (decide (0 < a) && !lt64 d3[am]! d3[q]!)) := hy2
                clear hy2
                go_upto_region 17 with fail
                go_cut [87] (fun cv wx => cv = .bool y2 ∧ Hid (SoAt wx g d3 t) ∧ Hid (w.grownBy wx (some g)))
                case first =>
                  by_cases hij : 0 < a
                  · have hd : decide ((0 : Int) < (a : Int)) = true := decide_eq_true (by omega)
                    have wam : IntKind.i64.wrap ((a : Int) - 1) = (am : Int) := by rw [IntKind.wrap_i64]; omega
                    have eam : (a : Int) - 1 = (am : Int) := by omega
                    have j1 := fun w' => Tryd.idxSo g N c am w' (by omega)
                    have j2 := fun w' => Tryd.idxSo g N c q w' (by omega)
                    have hsw : SoAt w5 g d3 t := HS3.out
                    have c3 := hsw.cell (i := am) (by rw [HD3.out]; omega)
                    have c4 := hsw.cell (i := q) (by rw [HD3.out]; omega)
                    have hless := fun w' => Tryd.less_any d3[am]! d3[q]! w'
                    have HY2 : Hid (y2 = !(lt64 d3[am]! d3[q]!)) := by
                      show _ = _
                      rw [HY.out, decide_eq_true hij]; rfl
                    clear hsw HY ham
                    generalize lt64 d3[am]! d3[q]! = lv at *
                    generalize d3[am]! = xv at *
                    generalize d3[q]! = xa at *
                    obtain rfl := HY2.out
                    go_quiet ((go_at_call 38; exact Calls.quiet_of_same (hless _)))
                    go_wp2_with fail
                    go_meet
                    case rel => exact ⟨rfl, SoAt.drewN HS3.out _, grown_drewN HG3.out _⟩
                  · have hd : decide ((0 : Int) < (a : Int)) = false := decide_eq_false (by omega)
                    have HY2 : Hid (y2 = false) := by
                      show _ = _
                      rw [HY.out, decide_eq_false hij]; rfl
                    clear HY ham
                    obtain rfl := HY2.out
                    go_quiet (fail)
                    go_wp2_with fail
                    go_meet
                    case rel => exact ⟨rfl, SoAt.drewN HS3.out _, grown_drewN HG3.out _⟩
                case rest =>
                  clear HS3 HG3 ham
                  obtain ⟨rfl, HS3, HG3⟩ := hcut
                  generalize wc = w6 at *
                  cases y2 with
                  | true =>
                    have HY3 : Hid (0 < a ∧ lt64 d3[a - 1]! d3[q]! = false) := by
                      have h0 := HY.out
                      rw [HAM.out] at h0
                      simp only [Bool.true_eq, Bool.and_eq_true, decide_eq_true_eq, Bool.not_eq_true'] at h0
                      exact h0
                    have hpe := Tryd.partEq_any g c a b q d3 t w6 HS3.out (by omega) (by rw [HD3.out]; omega) hqa hqb (by rw [HD3.out]; omega)
                    rw [HD3.out] at hpe
                    go_wp2_with fail
                    refine hpe.mono ?_
                    rintro e w7 ⟨m, d4, rfl, hP, hs7, hg7⟩
                    have HQ7 : Hid (PQ a0 b0 m b d0 d4) := HQ3.out.eq HBB.out HY3.out.1 HY3.out.2 hP
                    have HD7 : Hid (d4.size = N) := hP.sz.trans HD3.out
                    have HS7 : Hid (SoAt w7 g d4 t) := hs7
                    have HG7 : Hid (w.grownBy w7 (some g)) := grow_thenS HG3.out hg7
                    have hm1 := hP.ma
                    have hm2 := hP.mb
                    clear hpe hP hs7 hg7
                    go_wp2_with fail
                    go_roundw
                    case rel => exact ⟨m, b, l1, f1, f2, rfl, rfl, rfl, rfl, rfl, hl1, d4, HD7, HS7, HQ7, HG7⟩
                    case measure => simp [intOf]; omega
                  | false =>
                    have hpt := Tryd.part_any g c a b q d3 t w6 HS3.out (by omega) (by rw [HD3.out]; omega) hqa hqb (by rw [HD3.out]; omega)
                    rw [HD3.out] at hpt
                    clear HY HAM
                    go_wp2_with fail
                    refine hpt.mono ?_
                    rintro e w7 ⟨m, f, d4, rfl, hP, hs7, hg7⟩
                    have HP : Hid (Parted d3 a b m d4) := hP
                    have HD7 : Hid (d4.size = N) := hP.sz.trans HD3.out
                    have HS7 : Hid (SoAt w7 g d4 t) := hs7
                    have HG7 : Hid (w.grownBy w7 (some g)) := grow_thenS HG3.out hg7
                    have hm1 := hP.ma
                    have hm2 := hP.mb
                    obtain ⟨la, hla⟩ : ∃ la, la = m - a := ⟨_, rfl⟩
                    obtain ⟨lb, hlb⟩ : ∃ lb, lb = b - m := ⟨_, rfl⟩
                    obtain ⟨T, hT⟩ : ∃ T, T = L / 8 := ⟨_, rfl⟩
                    obtain ⟨ms, hms⟩ : ∃ ms, ms = m + 1 := ⟨_, rfl⟩
                    have wla : IntKind.i64.wrap ((m : Int) - (a : Int)) = (la : Int) := by rw [IntKind.wrap_i64]; omega
                    have ela : (m : Int) - (a : Int) = (la : Int) := by omega
                    have wlb : IntKind.i64.wrap ((b : Int) - (m : Int)) = (lb : Int) := by rw [IntKind.wrap_i64]; omega
                    have elb : (b : Int) - (m : Int) = (lb : Int) := by omega
                    have tT : ((L : Int)).tdiv 8 = (T : Int) := by rw [Int.tdiv_eq_ediv_of_nonneg (by omega)]; omega
                    have wms : IntKind.i64.wrap ((m : Int) + 1) = (ms : Int) := by rw [IntKind.wrap_i64]; omega
                    have ems : (m : Int) + 1 = (ms : Int) := by omega
                    have HMS : Hid (ms = m + 1) := hms
                    have hBl : Go.Sort.Below lt64 a m d4 := by
                      rcases (HQ3.out.move HBB.out hP.perm).bel with k0 | k0
                      · exact Or.inl k0
                      · exact Or.inr fun i k1 k2 => k0 i k1 (by omega)
                    have hBr : Go.Sort.Below lt64 ms b d4 := by
                      rw [hms]
                      exact Or.inr fun i k1 k2 => by rw [show m + 1 - 1 = m by omega]; exact hP.hi i (by omega) k2
                    have hcl := HIH.out g c a m l1 d4 t w7 hs7 hm1 (by rw [HD7.out]; omega) (by rw [HD7.out]; omega) hl1 (by omega) hBl
                    have hcr := HIH.out g c ms b l1 d4 t w7 hs7 (by omega) (by rw [HD7.out]; omega) (by rw [HD7.out]; omega) hl1 (by omega) hBr
                    rw [HD7.out] at hcl hcr
                    clear hpt hP hs7 hg7 hBl hBr hla hlb hT hms
                    by_cases hlt2 : la < lb
                    · have hlt2' : (la : Int) < (lb : Int) := by omega
                      clear hcr
                      go_wp2_with fail
                      refine hcl.mono ?_
                      rintro e w8 ⟨rfl, d5, hp5, hs5, hs8, hg8⟩
                      have HQ8 : Hid (PQ a0 b0 ms b d0 d5) := by
                        rw [HMS.out]
                        exact HQ3.out.left HBB.out HP.out hp5 hs5
                      have HD8 : Hid (d5.size = N) := hp5.1.trans HD7.out
                      have HS8 : Hid (SoAt w8 g d5 t) := hs8
                      have HG8 : Hid (w.grownBy w8 (some g)) := grow_thenS HG7.out hg8
                      clear hcl hp5 hs5 hs8 hg8
                      go_wp2_with fail
                      go_roundw
                      case rel => exact ⟨ms, b, l1, _, f, rfl, rfl, rfl, rfl, rfl, hl1, d5, HD8, HS8, HQ8, HG8⟩
                      case measure => simp [intOf]; omega
                    · have hlt2' : ¬ (la : Int) < (lb : Int) := by omega
                      clear hcl
                      go_wp2_with fail
                      refine hcr.mono ?_
                      rintro e w8 ⟨rfl, d5, hp5, hs5, hs8, hg8⟩
                      have HQ8 : Hid (PQ a0 b0 a m d0 d5) := by
                        rw [HMS.out] at hp5 hs5
                        exact HQ3.out.right HBB.out HP.out hp5 hs5
                      have HD8 : Hid (d5.size = N) := hp5.1.trans HD7.out
                      have HS8 : Hid (SoAt w8 g d5 t) := hs8
                      have HG8 : Hid (w.grownBy w8 (some g)) := grow_thenS HG7.out hg8
                      clear hcr hp5 hs5 hs8 hg8
                      go_wp2_with fail
                      go_roundw
                      case rel => exact ⟨a, m, l1, _, f, rfl, rfl, rfl, rfl, rfl, hl1, d5, HD8, HS8, HQ8, HG8⟩
                      case measure => simp [intOf]; omega
theorem Tryd.pdq_all (n : Nat) : PdqC n := by
  induction n with
  | zero => intro g c a b lim d t w h hab hb hn hl hlt; omega
  | succ n ih => exact Tryd.pdq_step n ih
end Go.Proofs.YtllcjmaecgfijaaDoor
