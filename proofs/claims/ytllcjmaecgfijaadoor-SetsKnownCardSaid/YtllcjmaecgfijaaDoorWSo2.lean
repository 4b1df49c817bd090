/- The library's sort at []uint64: reverseRange, siftDown, heapSort. -/
import Derived.Test.YtllcjmaecgfijaaDoorWSo1
import Derived.BigRegion
namespace Go.Proofs.YtllcjmaecgfijaaDoor
open Go.RowKit Go.Maps

theorem sift_end {hi first r : Nat} {d : Array Int} (h : hi ≤ 2 * r + 1) : Go.Sort.siftDown lt64 hi first r d = d := by
  unfold Go.Sort.siftDown
  rw [dif_pos h]
/-- Which child is the greater. -/
def sChild (hi first r : Nat) (d : Array Int) : Nat := if 2 * r + 1 + 1 < hi && lt64 d[first + (2 * r + 1)]! d[first + (2 * r + 1) + 1]! then 2 * r + 2 else 2 * r + 1
theorem sift_no {hi first r : Nat} {d : Array Int} (h : 2 * r + 1 < hi) (hl : lt64 d[first + r]! d[first + sChild hi first r d]! = false) : Go.Sort.siftDown lt64 hi first r d = d := by
  unfold Go.Sort.siftDown
  rw [dif_neg (by omega)]
  unfold sChild at hl
  split at hl
  · rename_i hc
    rw [if_pos hc, hl]; rfl
  · rename_i hc
    rw [if_neg hc, hl]; rfl
theorem sift_yes {hi first r : Nat} {d : Array Int} (h : 2 * r + 1 < hi) (hl : lt64 d[first + r]! d[first + sChild hi first r d]! = true) : Go.Sort.siftDown lt64 hi first r d = Go.Sort.siftDown lt64 hi first (sChild hi first r d) (Go.Sort.swp d (first + r) (first + sChild hi first r d)) := by
  conv => lhs; unfold Go.Sort.siftDown
  rw [dif_neg (by omega)]
  unfold sChild at hl ⊢
  split at hl
  · rename_i hc
    have h2 : 2 * r + 2 < hi := by simp at hc; omega
    rw [if_pos hc, hl, if_pos hc]
    simp only [Bool.not_true, Bool.false_eq_true, if_false]
    rw [dif_pos h2]
  · rename_i hc
    rw [if_neg hc, hl, if_neg hc]
    simp only [Bool.not_true, Bool.false_eq_true, if_false]
theorem sChild_lt {hi first r : Nat} {d : Array Int} (h : 2 * r + 1 < hi) : r < sChild hi first r d ∧ sChild hi first r d < hi := by
  unfold sChild
  split
  · rename_i hc; simp at hc; omega
  · omega
set_option maxRecDepth 100000 in
set_option maxHeartbeats 4000000 in
theorem Tryd.revRange_any (g c a b : Nat) (d : Array Int) (t : List Int) (w : World) (h : SoAt w g d t) (hab : a ≤ b) (hb : b ≤ d.size) (hn : d.size ≤ 1000000) :
    Calls Tryd.prog 36 #[.slice (some ⟨g, 0, none⟩) d.size c, .int .i64 (a : Int), .int .i64 (b : Int)] w (SoP w g t (Go.Sort.reverseRange d a b)) := by
  obtain ⟨N, hN⟩ : ∃ N, d.size = N := ⟨_, rfl⟩
  obtain ⟨R, hR⟩ : ∃ R, Go.Sort.reverseRange d a b = R := ⟨_, rfl⟩
  have HI0 : Hid (Go.Sort.reverseLoop a (b - 1) d = R) := hR
  have HS0 : Hid (SoAt w g d t) := h
  have HD0 : Hid (d.size = N) := hN
  rw [hN] at hb hn ⊢
  rw [hR]
  clear h hN hR
  go_enter Tryd.func36, Tryd.ntmps36
  go_wp2
  go_loopw [6, 7] (fun iv jv wr => ∃ (i : Nat) (j : Int), i ≤ N ∧ -1 ≤ j ∧ j < N ∧ iv = .int .i64 (i : Int) ∧ jv = .int .i64 j ∧ ∃ dk : Array Int, Hid (dk.size = N) ∧ Hid (SoAt wr g dk t) ∧ Hid (Go.Sort.reverseLoop i j.toNat dk = R) ∧ Hid (w.grownBy wr (some g))) (fun iv jv _ => (intOf jv + 1 - intOf iv).toNat)
  case atStart => exact ⟨a, (b : Int) - 1, by omega, by omega, by omega, rfl, by go_num, d, HD0, HS0, by show _ = _; rw [show ((b : Int) - 1).toNat = b - 1 by omega]; exact HI0.out, World.grownBy.refl _ _⟩
  case round =>
    obtain ⟨i, j, hiN, hj1, hj2, rfl, rfl, dk, HD, HS, HI, HG⟩ := hrel
    clear HD0 HS0 HI0
    by_cases hij : (i : Int) < j
    · obtain ⟨m, rfl⟩ := Int.eq_ofNat_of_zero_le (show 0 ≤ j by omega)
      have HK : Hid (Go.Sort.reverseLoop (i + 1) ((m : Int) - 1).toNat (Go.Sort.swp dk i m) = R) := by
        have := HI.out
        unfold Go.Sort.reverseLoop at this
        rw [Int.toNat_natCast, if_pos (by omega)] at this
        show _ = _
        rw [show ((m : Int) - 1).toNat = m - 1 by omega]
        exact this
      have hi1 := fun w' => Tryd.idxSo g N c i w' (by omega)
      have hi2 := fun w' => Tryd.idxSo g N c m w' (by omega)
      have hs3 := HS.out
      have c3 := hs3.cell (i := i) (by rw [HD.out]; omega)
      have c4 := hs3.cell (i := m) (by rw [HD.out]; omega)
      have f3 := hs3.fz i
      have f4 := hs3.fz m
      have HS3 : Hid (SoAt ((wr.setCell ⟨g, i, none⟩ (.int .u64 dk[m]!)).setCell ⟨g, m, none⟩ (.int .u64 dk[i]!)) g (Go.Sort.swp dk i m) t) := hs3.swap (by rw [HD.out]; omega) (by rw [HD.out]; omega)
      have HG3 : Hid (w.grownBy ((wr.setCell ⟨g, i, none⟩ (.int .u64 dk[m]!)).setCell ⟨g, m, none⟩ (.int .u64 dk[i]!)) (some g)) := grown_set (grown_set HG.out _) _
      have HD3 : Hid ((Go.Sort.swp dk i m).size = N) := by show _ = _; rw [Go.Sort.size_swp]; exact HD.out
      have hdec : IntKind.i64.wrap ((m : Int) - 1) = (m : Int) - 1 := by rw [IntKind.wrap_i64]; omega
      clear HS HG hs3 HD HI
      generalize dk[i]! = xi at *
      generalize dk[m]! = xm at *
      generalize Go.Sort.swp dk i m = dn at *
      go_wp2
      go_upto_region 15 with fail
      go_region
      all_goals
        have HS4 : Hid _ := HS3.out.drew
        have HG4 : Hid _ := grown_drew HG3.out
        clear HS3 HG3 c3 c4 f3 f4
        generalize ((wr.setCell ⟨g, i, none⟩ (.int .u64 xm)).setCell ⟨g, m, none⟩ (.int .u64 xi)).drew = w4 at *
        go_wp2
        go_roundw
        case rel => exact ⟨i + 1, (m : Int) - 1, by omega, by omega, by omega, by go_num, rfl, dn, HD3, HS4, HK, HG4⟩
        case measure => simp [intOf]; omega
    · have HR : Hid (dk = R) := by
        have := HI.out
        unfold Go.Sort.reverseLoop at this
        rw [if_neg (by omega)] at this
        exact this
      clear HI
      go_wp2
      go_end0
      obtain rfl := HR.out
      exact ⟨rfl, HS.out, HG.out⟩
/-! ### siftDown, heapSort (by mkso2.py) -/
set_option maxRecDepth 100000 in
set_option maxHeartbeats 8000000 in
theorem Tryd.sift_any (g c lo hi first : Nat) (d : Array Int) (t : List Int) (w : World) (h : SoAt w g d t) (hlo : lo ≤ d.size) (hb : first + hi ≤ d.size) (hn : d.size ≤ 1000000) :
    Calls Tryd.prog 43 #[.slice (some ⟨g, 0, none⟩) d.size c, .int .i64 (lo : Int), .int .i64 (hi : Int), .int .i64 (first : Int)] w (SoP w g t (Go.Sort.siftDown lt64 hi first lo d)) := by
  obtain ⟨N, hN⟩ : ∃ N, d.size = N := ⟨_, rfl⟩
  obtain ⟨R, hR⟩ : ∃ R, Go.Sort.siftDown lt64 hi first lo d = R := ⟨_, rfl⟩
  have HI0 : Hid (Go.Sort.siftDown lt64 hi first lo d = R) := hR
  have HS0 : Hid (SoAt w g d t) := h
  have HD0 : Hid (d.size = N) := hN
  rw [hN] at hb hn hlo ⊢
  rw [hR]
  clear h hN hR
  go_enter Tryd.func43, Tryd.ntmps43
  go_wp2
  go_loopw [8] (fun iv wr => ∃ r : Nat, r ≤ N ∧ iv = .int .i64 (r : Int) ∧ ∃ dk : Array Int, Hid (dk.size = N) ∧ Hid (SoAt wr g dk t) ∧ Hid (Go.Sort.siftDown lt64 hi first r dk = R) ∧ Hid (w.grownBy wr (some g))) (fun iv _ => N - (intOf iv).toNat)
  case atStart => exact ⟨lo, hlo, rfl, d, HD0, HS0, HI0, World.grownBy.refl _ _⟩
  case round =>
    obtain ⟨r, hrN, rfl, dk, HD, HS, HI, HG⟩ := hrel
    clear HD0 HS0 HI0
    obtain ⟨E, hE⟩ : ∃ E, E = 2 * r := ⟨_, rfl⟩
    obtain ⟨C, hC⟩ : ∃ C, C = 2 * r + 1 := ⟨_, rfl⟩
    have wE : IntKind.i64.wrap (2 * (r : Int)) = (E : Int) := by rw [IntKind.wrap_i64]; omega
    have wC : IntKind.i64.wrap ((E : Int) + 1) = (C : Int) := by rw [IntKind.wrap_i64]; omega
    have HC : Hid (C = 2 * r + 1) := hC
    have hC2 : C ≤ 2000001 := by omega
    clear hE
    by_cases hge : hi ≤ C
    · have HR : Hid (dk = R) := (sift_end (by omega)).symm.trans HI.out
      have hge' : (hi : Int) ≤ (C : Int) := by omega
      clear HI hC
      go_wp2
      refine bodyPost_ret (results_none rfl _ _ _) rfl ?_
      obtain rfl := HR.out
      exact ⟨rfl, HS.out, HG.out⟩
    · have hge' : ¬ (hi : Int) ≤ (C : Int) := by omega
      obtain ⟨C1, hC1⟩ : ∃ C1, C1 = C + 1 := ⟨_, rfl⟩
      have wC1 : IntKind.i64.wrap ((C : Int) + 1) = (C1 : Int) := by rw [IntKind.wrap_i64]; omega
      have HC1 : Hid (C1 = C + 1) := hC1
      by_cases hc1 : C1 < hi
      · have hd1 : decide ((C1 : Int) < (hi : Int)) = true := decide_eq_true (by omega)
        obtain ⟨P, hP⟩ : ∃ P, P = first + C := ⟨_, rfl⟩
        obtain ⟨P1, hP1⟩ : ∃ P1, P1 = first + C + 1 := ⟨_, rfl⟩
        have wP : IntKind.i64.wrap ((first : Int) + (C : Int)) = (P : Int) := by rw [IntKind.wrap_i64]; omega
        have wP1 : IntKind.i64.wrap ((P : Int) + 1) = (P1 : Int) := by rw [IntKind.wrap_i64]; omega
        have hi1 := fun w' => Tryd.idxSo g N c P w' (by omega)
        have hi2 := fun w' => Tryd.idxSo g N c P1 w' (by omega)
        have q1 := HS.out.cell (i := P) (by rw [HD.out]; omega)
        have q2 := HS.out.cell (i := P1) (by rw [HD.out]; omega)
        have hless := fun w' => Tryd.less_any dk[P]! dk[P1]! w'
        have HP : Hid (P = first + C ∧ P1 = first + C + 1) := ⟨hP, hP1⟩
        cases hl : lt64 dk[P]! dk[P1]! with
        | false =>
          rw [hl] at hless
          have HCH : Hid (sChild hi first r dk = C) := by
            show _ = _
            unfold sChild
            rw [← hC, ← hP, show P + 1 = P1 by omega, hl]
            simp
          clear hl hC hC1 hP hP1
          go_wp2
          go_upto_region 15 with fail
          go_quiet ((go_at_call 38; exact Calls.quiet_of_same (hless _)))
          have HSX : Hid (SoAt (wr.drewN nq) g dk t) := SoAt.drewN HS.out nq
          have HGX : Hid _ := grown_drewN HG.out nq
          clear HS HG hless q1 q2
          generalize wr.drewN nq = wX at *
          have hch : sChild hi first r dk = C := HCH.out
          have HLT : Hid (r < C ∧ C < hi) := by have := sChild_lt (first := first) (d := dk) (show 2 * r + 1 < hi by have := HC.out; omega); rw [hch] at this; exact this
          have hrc := HLT.out
          obtain ⟨S, hS⟩ : ∃ S, S = first + r := ⟨_, rfl⟩
          obtain ⟨Q, hQ⟩ : ∃ Q, Q = first + C := ⟨_, rfl⟩
          have wS : IntKind.i64.wrap ((first : Int) + (r : Int)) = (S : Int) := by rw [IntKind.wrap_i64]; omega
          have wQ : IntKind.i64.wrap ((first : Int) + (C : Int)) = (Q : Int) := by rw [IntKind.wrap_i64]; omega
          have hSN : S < N := by omega
          have hQN : Q < N := by omega
          have eS : (first : Int) + (r : Int) = (S : Int) := by omega
          have eQ : (first : Int) + (C : Int) = (Q : Int) := by omega
          have jS := fun w' => Tryd.idxSo g N c S w' (by omega)
          have jQ := fun w' => Tryd.idxSo g N c Q w' (by omega)
          have hs3 : SoAt wX g dk t := HSX.out
          have k3 := hs3.cell (i := S) (by rw [HD.out]; omega)
          have k4 := hs3.cell (i := Q) (by rw [HD.out]; omega)
          have hless2 := fun w' => Tryd.less_any dk[S]! dk[Q]! w'
          cases hl2 : lt64 dk[S]! dk[Q]! with
          | false =>
            rw [hl2] at hless2
            have HR : Hid (dk = R) := by
              have h0 := sift_no (hi := hi) (first := first) (r := r) (d := dk) (by have := HC.out; omega) (by rw [hch, ← hS, ← hQ]; exact hl2)
              exact h0.symm.trans HI.out
            clear hl2 hch hS hQ HI hs3
            go_upto_region 15 with fail
            go_quiet ((go_at_call 38; exact Calls.quiet_of_same (hless2 _)))
            have HS5 : Hid (SoAt (wX.drewN nq) g dk t) := SoAt.drewN HSX.out nq
            have HG5 : Hid _ := grown_drewN HGX.out nq
            clear HSX HGX hless2 k3 k4
            generalize wX.drewN nq = w5 at *
            go_wp2
            refine bodyPost_ret (results_none rfl _ _ _) rfl ?_
            obtain rfl := HR.out
            exact ⟨rfl, HS5.out, HG5.out⟩
          | true =>
            rw [hl2] at hless2
            have HK : Hid (Go.Sort.siftDown lt64 hi first C (Go.Sort.swp dk S Q) = R) := by
              have h0 := sift_yes (hi := hi) (first := first) (r := r) (d := dk) (by have := HC.out; omega) (by rw [hch, ← hS, ← hQ]; exact hl2)
              rw [hch, ← hS, ← hQ] at h0
              exact h0.symm.trans HI.out
            clear hl2 hch hS hQ HI hs3
            go_upto_region 15 with fail
            go_quiet ((go_at_call 38; exact Calls.quiet_of_same (hless2 _)))
            have hs5 : SoAt (wX.drewN nq) g dk t := SoAt.drewN HSX.out nq
            have c3 := hs5.cell (i := S) (by rw [HD.out]; omega)
            have c4 := hs5.cell (i := Q) (by rw [HD.out]; omega)
            have f3 := hs5.fz S
            have f4 := hs5.fz Q
            have HS5 : Hid (SoAt (((wX.drewN nq).setCell ⟨g, S, none⟩ (.int .u64 dk[Q]!)).setCell ⟨g, Q, none⟩ (.int .u64 dk[S]!)) g (Go.Sort.swp dk S Q) t) := hs5.swap (by rw [HD.out]; omega) (by rw [HD.out]; omega)
            have HG5 : Hid (w.grownBy (((wX.drewN nq).setCell ⟨g, S, none⟩ (.int .u64 dk[Q]!)).setCell ⟨g, Q, none⟩ (.int .u64 dk[S]!)) (some g)) := grown_set (grown_set (grown_drewN HGX.out nq) _) _
            have HD5 : Hid ((Go.Sort.swp dk S Q).size = N) := by show _ = _; rw [Go.Sort.size_swp]; exact HD.out
            clear HSX HGX hless2 k3 k4 hs5 HD
            generalize dk[S]! = xS at *
            generalize dk[Q]! = xQ at *
            generalize Go.Sort.swp dk S Q = dn at *
            generalize wX.drewN nq = w5 at *
            go_wp2
            go_upto_region 15 with fail
            go_region
            all_goals
              have HS6 : Hid _ := HS5.out.drew
              have HG6 : Hid _ := grown_drew HG5.out
              clear HS5 HG5 c3 c4 f3 f4
              generalize ((w5.setCell ⟨g, S, none⟩ (.int .u64 xQ)).setCell ⟨g, Q, none⟩ (.int .u64 xS)).drew = w6 at *
              go_wp2
              go_roundw
              case rel => exact ⟨C, by omega, rfl, dn, HD5, HS6, HK, HG6⟩
              case measure => simp [intOf]; omega
        | true =>
          rw [hl] at hless
          have HCH : Hid (sChild hi first r dk = C1) := by
            show _ = _
            unfold sChild
            rw [← hC, ← hP, show P + 1 = P1 by omega, hl, if_pos (by simp; omega)]
            omega
          clear hl hC hC1 hP hP1
          go_wp2
          go_upto_region 15 with fail
          go_quiet ((go_at_call 38; exact Calls.quiet_of_same (hless _)))
          have HSX : Hid (SoAt (wr.drewN nq) g dk t) := SoAt.drewN HS.out nq
          have HGX : Hid _ := grown_drewN HG.out nq
          clear HS HG hless q1 q2
          generalize wr.drewN nq = wX at *
          go_wp2
          have hch : sChild hi first r dk = C1 := HCH.out
          have HLT : Hid (r < C1 ∧ C1 < hi) := by have := sChild_lt (first := first) (d := dk) (show 2 * r + 1 < hi by have := HC.out; omega); rw [hch] at this; exact this
          have hrc := HLT.out
          obtain ⟨S, hS⟩ : ∃ S, S = first + r := ⟨_, rfl⟩
          obtain ⟨Q, hQ⟩ : ∃ Q, Q = first + C1 := ⟨_, rfl⟩
          have wS : IntKind.i64.wrap ((first : Int) + (r : Int)) = (S : Int) := by rw [IntKind.wrap_i64]; omega
          have wQ : IntKind.i64.wrap ((first : Int) + (C1 : Int)) = (Q : Int) := by rw [IntKind.wrap_i64]; omega
          have hSN : S < N := by omega
          have hQN : Q < N := by omega
          have eS : (first : Int) + (r : Int) = (S : Int) := by omega
          have eQ : (first : Int) + (C1 : Int) = (Q : Int) := by omega
          have jS := fun w' => Tryd.idxSo g N c S w' (by omega)
          have jQ := fun w' => Tryd.idxSo g N c Q w' (by omega)
          have hs3 : SoAt wX g dk t := HSX.out
          have k3 := hs3.cell (i := S) (by rw [HD.out]; omega)
          have k4 := hs3.cell (i := Q) (by rw [HD.out]; omega)
          have hless2 := fun w' => Tryd.less_any dk[S]! dk[Q]! w'
          cases hl2 : lt64 dk[S]! dk[Q]! with
          | false =>
            rw [hl2] at hless2
            have HR : Hid (dk = R) := by
              have h0 := sift_no (hi := hi) (first := first) (r := r) (d := dk) (by have := HC.out; omega) (by rw [hch, ← hS, ← hQ]; exact hl2)
              exact h0.symm.trans HI.out
            clear hl2 hch hS hQ HI hs3
            go_upto_region 15 with fail
            go_quiet ((go_at_call 38; exact Calls.quiet_of_same (hless2 _)))
            have HS5 : Hid (SoAt (wX.drewN nq) g dk t) := SoAt.drewN HSX.out nq
            have HG5 : Hid _ := grown_drewN HGX.out nq
            clear HSX HGX hless2 k3 k4
            generalize wX.drewN nq = w5 at *
            go_wp2
            refine bodyPost_ret (results_none rfl _ _ _) rfl ?_
            obtain rfl := HR.out
            exact ⟨rfl, HS5.out, HG5.out⟩
          | true =>
            rw [hl2] at hless2
            have HK : Hid (Go.Sort.siftDown lt64 hi first C1 (Go.Sort.swp dk S Q) = R) := by
              have h0 := sift_yes (hi := hi) (first := first) (r := r) (d := dk) (by have := HC.out; omega) (by rw [hch, ← hS, ← hQ]; exact hl2)
              rw [hch, ← hS, ← hQ] at h0
              exact h0.symm.trans HI.out
            clear hl2 hch hS hQ HI hs3
            go_upto_region 15 with fail
            go_quiet ((go_at_call 38; exact Calls.quiet_of_same (hless2 _)))
            have hs5 : SoAt (wX.drewN nq) g dk t := SoAt.drewN HSX.out nq
            have c3 := hs5.cell (i := S) (by rw [HD.out]; omega)
            have c4 := hs5.cell (i := Q) (by rw [HD.out]; omega)
            have f3 := hs5.fz S
            have f4 := hs5.fz Q
            have HS5 : Hid (SoAt (((wX.drewN nq).setCell ⟨g, S, none⟩ (.int .u64 dk[Q]!)).setCell ⟨g, Q, none⟩ (.int .u64 dk[S]!)) g (Go.Sort.swp dk S Q) t) := hs5.swap (by rw [HD.out]; omega) (by rw [HD.out]; omega)
            have HG5 : Hid (w.grownBy (((wX.drewN nq).setCell ⟨g, S, none⟩ (.int .u64 dk[Q]!)).setCell ⟨g, Q, none⟩ (.int .u64 dk[S]!)) (some g)) := grown_set (grown_set (grown_drewN HGX.out nq) _) _
            have HD5 : Hid ((Go.Sort.swp dk S Q).size = N) := by show _ = _; rw [Go.Sort.size_swp]; exact HD.out
            clear HSX HGX hless2 k3 k4 hs5 HD
            generalize dk[S]! = xS at *
            generalize dk[Q]! = xQ at *
            generalize Go.Sort.swp dk S Q = dn at *
            generalize wX.drewN nq = w5 at *
            go_wp2
            go_upto_region 15 with fail
            go_region
            all_goals
              have HS6 : Hid _ := HS5.out.drew
              have HG6 : Hid _ := grown_drew HG5.out
              clear HS5 HG5 c3 c4 f3 f4
              generalize ((w5.setCell ⟨g, S, none⟩ (.int .u64 xQ)).setCell ⟨g, Q, none⟩ (.int .u64 xS)).drew = w6 at *
              go_wp2
              go_roundw
              case rel => exact ⟨C1, by omega, rfl, dn, HD5, HS6, HK, HG6⟩
              case measure => simp [intOf]; omega
      · have hd1 : decide ((C1 : Int) < (hi : Int)) = false := decide_eq_false (by omega)
        have HCH : Hid (sChild hi first r dk = C) := by
          show _ = _
          unfold sChild
          rw [← hC, if_neg]
          simp
          intro h0
          omega
        clear hC hC1
        go_wp2
        go_upto_region 15 with fail
        go_quiet (fail)
        have HSX : Hid (SoAt (wr.drewN nq) g dk t) := SoAt.drewN HS.out nq
        have HGX : Hid _ := grown_drewN HG.out nq
        clear HS HG
        generalize wr.drewN nq = wX at *
        have hch : sChild hi first r dk = C := HCH.out
        have HLT : Hid (r < C ∧ C < hi) := by have := sChild_lt (first := first) (d := dk) (show 2 * r + 1 < hi by have := HC.out; omega); rw [hch] at this; exact this
        have hrc := HLT.out
        obtain ⟨S, hS⟩ : ∃ S, S = first + r := ⟨_, rfl⟩
        obtain ⟨Q, hQ⟩ : ∃ Q, Q = first + C := ⟨_, rfl⟩
        have wS : IntKind.i64.wrap ((first : Int) + (r : Int)) = (S : Int) := by rw [IntKind.wrap_i64]; omega
        have wQ : IntKind.i64.wrap ((first : Int) + (C : Int)) = (Q : Int) := by rw [IntKind.wrap_i64]; omega
        have hSN : S < N := by omega
        have hQN : Q < N := by omega
        have eS : (first : Int) + (r : Int) = (S : Int) := by omega
        have eQ : (first : Int) + (C : Int) = (Q : Int) := by omega
        have jS := fun w' => Tryd.idxSo g N c S w' (by omega)
        have jQ := fun w' => Tryd.idxSo g N c Q w' (by omega)
        have hs3 : SoAt wX g dk t := HSX.out
        have k3 := hs3.cell (i := S) (by rw [HD.out]; omega)
        have k4 := hs3.cell (i := Q) (by rw [HD.out]; omega)
        have hless2 := fun w' => Tryd.less_any dk[S]! dk[Q]! w'
        cases hl2 : lt64 dk[S]! dk[Q]! with
        | false =>
          rw [hl2] at hless2
          have HR : Hid (dk = R) := by
            have h0 := sift_no (hi := hi) (first := first) (r := r) (d := dk) (by have := HC.out; omega) (by rw [hch, ← hS, ← hQ]; exact hl2)
            exact h0.symm.trans HI.out
          clear hl2 hch hS hQ HI hs3
          go_upto_region 15 with fail
          go_quiet ((go_at_call 38; exact Calls.quiet_of_same (hless2 _)))
          have HS5 : Hid (SoAt (wX.drewN nq) g dk t) := SoAt.drewN HSX.out nq
          have HG5 : Hid _ := grown_drewN HGX.out nq
          clear HSX HGX hless2 k3 k4
          generalize wX.drewN nq = w5 at *
          go_wp2
          refine bodyPost_ret (results_none rfl _ _ _) rfl ?_
          obtain rfl := HR.out
          exact ⟨rfl, HS5.out, HG5.out⟩
        | true =>
          rw [hl2] at hless2
          have HK : Hid (Go.Sort.siftDown lt64 hi first C (Go.Sort.swp dk S Q) = R) := by
            have h0 := sift_yes (hi := hi) (first := first) (r := r) (d := dk) (by have := HC.out; omega) (by rw [hch, ← hS, ← hQ]; exact hl2)
            rw [hch, ← hS, ← hQ] at h0
            exact h0.symm.trans HI.out
          clear hl2 hch hS hQ HI hs3
          go_upto_region 15 with fail
          go_quiet ((go_at_call 38; exact Calls.quiet_of_same (hless2 _)))
          have hs5 : SoAt (wX.drewN nq) g dk t := SoAt.drewN HSX.out nq
          have c3 := hs5.cell (i := S) (by rw [HD.out]; omega)
          have c4 := hs5.cell (i := Q) (by rw [HD.out]; omega)
          have f3 := hs5.fz S
          have f4 := hs5.fz Q
          have HS5 : Hid (SoAt (((wX.drewN nq).setCell ⟨g, S, none⟩ (.int .u64 dk[Q]!)).setCell ⟨g, Q, none⟩ (.int .u64 dk[S]!)) g (Go.Sort.swp dk S Q) t) := hs5.swap (by rw [HD.out]; omega) (by rw [HD.out]; omega)
          have HG5 : Hid (w.grownBy (((wX.drewN nq).setCell ⟨g, S, none⟩ (.int .u64 dk[Q]!)).setCell ⟨g, Q, none⟩ (.int .u64 dk[S]!)) (some g)) := grown_set (grown_set (grown_drewN HGX.out nq) _) _
          have HD5 : Hid ((Go.Sort.swp dk S Q).size = N) := by show _ = _; rw [Go.Sort.size_swp]; exact HD.out
          clear HSX HGX hless2 k3 k4 hs5 HD
          generalize dk[S]! = xS at *
          generalize dk[Q]! = xQ at *
          generalize Go.Sort.swp dk S Q = dn at *
          generalize wX.drewN nq = w5 at *
          go_wp2
          go_upto_region 15 with fail
          go_region
          all_goals
            have HS6 : Hid _ := HS5.out.drew
            have HG6 : Hid _ := grown_drew HG5.out
            clear HS5 HG5 c3 c4 f3 f4
            generalize ((w5.setCell ⟨g, S, none⟩ (.int .u64 xQ)).setCell ⟨g, Q, none⟩ (.int .u64 xS)).drew = w6 at *
            go_wp2
            go_roundw
            case rel => exact ⟨C, by omega, rfl, dn, HD5, HS6, HK, HG6⟩
            case measure => simp [intOf]; omega
end Go.Proofs.YtllcjmaecgfijaaDoor
