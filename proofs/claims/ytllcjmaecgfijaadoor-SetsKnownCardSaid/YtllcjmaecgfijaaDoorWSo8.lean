/- The library's sort at []uint64: breakPatterns. -/
import Derived.Test.YtllcjmaecgfijaaDoorWSo7
import Derived.Test.YtllcjmaecgfijaaDoorSoShelf
import Derived.Laws.Bits64b
namespace Go.Proofs.YtllcjmaecgfijaaDoor
open Go.RowKit Go.Maps
open Go.Sort (swp PermIn SortedIn xorNextN bitsLen)

/-- Block rb: a generator. -/
def XB (w : World) (rb X : Nat) : Prop := w.heap[rb]? = some (.cells #[.int .u64 (X : Int)] 63 (0, 0))
theorem XB.ne {w : World} {g rb X : Nat} {d : Array Int} {t : List Int} (h : XB w rb X) (k : SoAt w g d t) : g ≠ rb := fun e => by
  unfold XB at h
  unfold SoAt at k
  rw [← e, k] at h
  injection h with h
  injection h with _ h _
  exact absurd h (by decide)
theorem Tryd.next_any (rb X : Nat) (hX : X < 18446744073709551616) (w : World) (h : XB w rb X) :
    Calls Tryd.prog 45 #[.pointer (some ⟨rb, 0, none⟩)] w fun e w' => ∃ Y : Nat, e = .returned (.int .u64 (Y : Int)) ∧ Y < 18446744073709551616 ∧ XB w' rb Y ∧ w.grownBy w' (some rb) := by
  refine (AnyF.xorshift_Next Tryd.laysF48 rb 0 X hX w (cell_row h 0) (frozen_of_row w rb 0 _ _ h)).mono ?_
  rintro e w' ⟨rfl, rfl⟩
  refine ⟨xorNextN X, rfl, Go.Sort.xorNextN_lt X hX, ?_, grown_drewN (grown_set (World.grownBy.refl _ _) _) _⟩
  have hs : XB (w.setCell ⟨rb, 0, none⟩ (.int .u64 ((xorNextN X : Nat) : Int))) rb (xorNextN X) := by
    unfold XB
    rw [heap_setCell_same _ rb 0 _ _ _ h]; rfl
  exact ((below_drewN (Below.refl _ (w.setCell ⟨rb, 0, none⟩ (.int .u64 ((xorNextN X : Nat) : Int)))) 3).block rb (Array.getElem?_eq_some_iff.1 hs).1).trans hs
theorem pow_len {L : Nat} (h : 0 < L) : 1 ≤ 1 <<< bitsLen L ∧ 1 <<< bitsLen L ≤ 2 * L := by
  unfold bitsLen
  rw [if_neg (by omega), Nat.shiftLeft_eq, Nat.one_mul, Nat.pow_succ]
  have h1 := Nat.log2_self_le (n := L) (by omega)
  have h2 := Nat.two_pow_pos L.log2
  omega
set_option maxRecDepth 100000 in
set_option maxHeartbeats 8000000 in
theorem Tryd.break_any (g c a b : Nat) (d : Array Int) (t : List Int) (w : World) (h : SoAt w g d t) (hab : a + 12 < b) (hb : b ≤ d.size) (hn : d.size ≤ 1000000) :
    Calls Tryd.prog 34 #[.slice (some ⟨g, 0, none⟩) d.size c, .int .i64 (a : Int), .int .i64 (b : Int)] w fun e w' => e = .returned (.tuple #[]) ∧ ∃ d', PermIn a b d d' ∧ d'.size = d.size ∧ SoAt w' g d' t ∧ w.grownBy w' (some g) := by
  obtain ⟨N, hN⟩ : ∃ N, d.size = N := ⟨_, rfl⟩
  obtain ⟨L, hL⟩ : ∃ L, L = b - a := ⟨_, rfl⟩
  obtain ⟨T, hT⟩ : ∃ T, T = L / 4 := ⟨_, rfl⟩
  obtain ⟨T2, hT2⟩ : ∃ T2, T2 = T * 2 := ⟨_, rfl⟩
  obtain ⟨J, hJ⟩ : ∃ J, J = a + T2 := ⟨_, rfl⟩
  obtain ⟨J0, hJ0⟩ : ∃ J0, J0 = J - 1 := ⟨_, rfl⟩
  obtain ⟨J1, hJ1⟩ : ∃ J1, J1 = J + 1 := ⟨_, rfl⟩
  obtain ⟨M, hM⟩ : ∃ M, M = 1 <<< bitsLen L := ⟨_, rfl⟩
  obtain ⟨M1, hM1⟩ : ∃ M1, M1 = M - 1 := ⟨_, rfl⟩
  have hpw := pow_len (L := L) (by omega)
  rw [← hM] at hpw
  have HS0 : Hid (SoAt w g d t) := h
  have HD0 : Hid (d.size = N) := hN
  have wL : IntKind.i64.wrap ((b : Int) - (a : Int)) = (L : Int) := by rw [IntKind.wrap_i64]; omega
  have eL : (b : Int) - (a : Int) = (L : Int) := by omega
  have h8 : ((8 : Int) ≤ (L : Int)) := by omega
  have tT : ((L : Int)).tdiv 4 = (T : Int) := by rw [Int.tdiv_eq_ediv_of_nonneg (by omega)]; omega
  have wT2 : IntKind.i64.wrap ((T : Int) * 2) = (T2 : Int) := by rw [IntKind.wrap_i64]; omega
  have eT2 : (T : Int) * 2 = (T2 : Int) := by omega
  have wJ : IntKind.i64.wrap ((a : Int) + (T2 : Int)) = (J : Int) := by rw [IntKind.wrap_i64]; omega
  have eJ : (a : Int) + (T2 : Int) = (J : Int) := by omega
  have wJ0 : IntKind.i64.wrap ((J : Int) - 1) = (J0 : Int) := by rw [IntKind.wrap_i64]; omega
  have eJ0 : (J : Int) - 1 = (J0 : Int) := by omega
  have wJ1 : IntKind.i64.wrap ((J : Int) + 1) = (J1 : Int) := by rw [IntKind.wrap_i64]; omega
  have eJ1 : (J : Int) + 1 = (J1 : Int) := by omega
  have wX : IntKind.u64.wrap (L : Int) = (L : Int) := by rw [IntKind.wrap_u64]; omega
  have wM : IntKind.u64.wrap ((M : Int) - 1) = (M1 : Int) := by rw [IntKind.wrap_u64]; omega
  have eM : (M : Int) - 1 = (M1 : Int) := by omega
  have wM1 : IntKind.u64.wrap (M1 : Int) = (M1 : Int) := by rw [IntKind.wrap_u64]; omega
  have HF : Hid (a ≤ J0 ∧ J1 < b ∧ J1 = J0 + 2 ∧ M1 < 2 * L ∧ L = b - a ∧ M1 < 2000000) := ⟨by omega, by omega, by omega, by omega, by omega, by omega⟩
  have hnp := Tryd.nextPowerOfTwo L (by omega)
  rw [← hM] at hnp
  have hb1 := below_new w (.cells #[.int .u64 (L : Int)] 63)
  have HX1 : Hid (XB (w.alloc (.cells #[.int .u64 (L : Int)] 63)) w.heap.size L) := (MapKept.heap_alloc w _).1
  have HS1 : Hid (SoAt (w.alloc (.cells #[.int .u64 (L : Int)] 63)) g d t) := (hb1.block g h.lt).trans h
  have HG1 : Hid (w.grownBy (w.alloc (.cells #[.int .u64 (L : Int)] 63)) (some g)) := ⟨hb1.os, hb1.tape, hb1.output, hb1.size, fun j hj _ => hb1.block j hj⟩
  have HP1 : Hid (PermIn a b d d) := Go.Sort.permIn_refl d a b
  have HB : Hid (b ≤ d.size) := hb
  rw [hN] at hb hn ⊢
  have hLN : L ≤ 1000000 := by omega
  have hTb : T ≤ 1000000 := by omega
  have hT2b : T2 ≤ 2000000 := by omega
  have hJb : J ≤ 3000000 := by omega
  have hJp : 1 ≤ J := by omega
  clear h hN hL hT hT2 hJ hJ0 hJ1 hM hM1 hpw hb1
  go_enter Tryd.func34, Tryd.ntmps34
  go_wp2_with fail
  generalize w.alloc (.cells #[.int .u64 (L : Int)] 63) = w1 at *
  refine (hnp w1).mono ?_
  rintro e w2 ⟨rfl, hw2⟩
  obtain rfl := hw2.symm
  clear hnp
  go_wp2
  go_loopw [9] (fun iv wr => ∃ i : Nat, J0 ≤ i ∧ i ≤ J1 + 1 ∧ iv = .int .i64 (i : Int) ∧ ∃ (dk : Array Int) (X : Nat), Hid (dk.size = N) ∧ Hid (SoAt wr g dk t) ∧ Hid (PermIn a b d dk) ∧ Hid (XB wr w.heap.size X) ∧ Hid (X < 18446744073709551616) ∧ Hid (w.grownBy wr (some g))) (fun iv _ => J1 + 1 - (intOf iv).toNat)
  case atStart => exact ⟨J0, Nat.le_refl _, by have := HF.out; omega, by first | rfl | go_num, d, L, HD0, HS1, HP1, HX1, by show _ < _; omega, HG1⟩
  case round =>
    obtain ⟨i, hi1, hi2, rfl, dk, X, HD, HS, HP, HX, HXL, HG⟩ := hrel
    clear HD0 HS1 HP1 HX1 HG1 HS0
    by_cases hij : i ≤ J1
    · have hij' : (i : Int) ≤ (J1 : Int) := by omega
      have hne := XB.ne HX.out HS.out
      have hnx := Tryd.next_any w.heap.size X HXL.out wr HX.out
      go_wp2_with fail
      refine hnx.mono ?_
      rintro e w3 ⟨Y, rfl, hY, hx3, hg3⟩
      have HS3 : Hid (SoAt w3 g dk t) := SoAt.grown HS.out hg3 hne
      have HX3 : Hid (XB w3 w.heap.size Y) := hx3
      have HY : Hid (Y < 18446744073709551616) := hY
      have HG3 : Hid (w.grownBy w3 (some g)) := by
        have h1 := HG.out
        exact ⟨hg3.os.trans h1.os, hg3.tape.trans h1.tape, hg3.output.trans h1.output, Nat.le_trans h1.size hg3.size, fun j hj hn => (hg3.block j (Nat.lt_of_lt_of_le hj h1.size) (fun e => by injection e with e; omega)).trans (h1.block j hj hn)⟩
      clear hnx hx3 hg3 HS HG HX HXL
      have hF := HF.out
      obtain ⟨O, hO⟩ : ∃ O, O = Y &&& M1 := ⟨_, rfl⟩
      have hOM : O ≤ M1 := by rw [hO]; exact Nat.and_le_right
      have hand : bits BinOp.and IntKind.u64 (Y : Int) (M1 : Int) = (O : Int) := by rw [bits_and_u64_nat Y M1 hY (by omega), hO]
      have wO : IntKind.i64.wrap (O : Int) = (O : Int) := by rw [IntKind.wrap_i64]; omega
      clear hO hY
      by_cases hOL : L ≤ O
      · have hOL' : (L : Int) ≤ (O : Int) := by omega
        obtain ⟨O2, hO2⟩ : ∃ O2, O2 = O - L := ⟨_, rfl⟩
        have wO2 : IntKind.i64.wrap ((O : Int) - (L : Int)) = (O2 : Int) := by rw [IntKind.wrap_i64]; omega
        have eO2 : (O : Int) - (L : Int) = (O2 : Int) := by omega
        obtain ⟨Q, hQ⟩ : ∃ Q, Q = a + O2 := ⟨_, rfl⟩
        have wQ : IntKind.i64.wrap ((a : Int) + (O2 : Int)) = (Q : Int) := by rw [IntKind.wrap_i64]; omega
        have eQ : (a : Int) + (O2 : Int) = (Q : Int) := by omega
        have hQ1 : a ≤ Q := by omega
        have hQ2 : Q < b := by omega
        clear hO2 hQ
        have HPS : Hid (PermIn a b d (swp dk i Q)) := Go.Sort.permIn_trans _ _ _ _ _ HP.out (Go.Sort.swp_permIn dk a b i Q (by omega) (by omega) hQ1 hQ2 (by rw [HD.out]; omega))
        have hib : i < b := by omega
        clear HP hF
        go_wp2
        have hi1 := fun w' => Tryd.idxSo g N c i w' (by omega)
        have hi2 := fun w' => Tryd.idxSo g N c Q w' (by omega)
        have hsw : SoAt w3 g dk t := HS3.out
        have c3 := hsw.cell (i := i) (by rw [HD.out]; omega)
        have c4 := hsw.cell (i := Q) (by rw [HD.out]; omega)
        have f3 := hsw.fz i
        have f4 := hsw.fz Q
        have hswb : SoAt (w3.setCell ⟨g, i, none⟩ (.int .u64 dk[Q]!)) g (dk.setIfInBounds i dk[Q]!) t := hsw.set (by rw [HD.out]; omega) _
        have f5 := hswb.fz Q
        have c5 := hswb.cell (i := Q) (by rw [Array.size_setIfInBounds, HD.out]; omega)
        have HSa7 : Hid (SoAt ((w3.setCell ⟨g, i, none⟩ (.int .u64 dk[Q]!)).setCell ⟨g, Q, none⟩ (.int .u64 dk[i]!)) g (swp dk i Q) t) := hsw.swap (by rw [HD.out]; omega) (by rw [HD.out]; omega)
        have HGa7 : Hid (w.grownBy ((w3.setCell ⟨g, i, none⟩ (.int .u64 dk[Q]!)).setCell ⟨g, Q, none⟩ (.int .u64 dk[i]!)) (some g)) := grown_set (grown_set HG3.out _) _
        have HD7 : Hid ((swp dk i Q).size = N) := by show _ = _; rw [Go.Sort.size_swp]; exact HD.out
        have HXa : Hid (XB ((w3.setCell ⟨g, i, none⟩ (.int .u64 dk[Q]!)).setCell ⟨g, Q, none⟩ (.int .u64 dk[i]!)).drew w.heap.size Y) := (Below.heap_setCell _ _ _ _ (fun e => hne e.symm)).trans ((Below.heap_setCell _ _ _ _ (fun e => hne e.symm)).trans HX3.out)
        clear hsw hswb
        generalize (dk.setIfInBounds i dk[Q]!)[Q]! = ysw at *
        generalize dk[i]! = xi at *
        generalize dk[Q]! = xj at *
        go_upto_region 15 with fail
        go_region
        all_goals
          have HS7 : Hid (SoAt ((w3.setCell ⟨g, i, none⟩ (.int .u64 xj)).setCell ⟨g, Q, none⟩ (.int .u64 xi)).drew g (swp dk i Q) t) := SoAt.drew HSa7.out
          have HG7 : Hid (w.grownBy ((w3.setCell ⟨g, i, none⟩ (.int .u64 xj)).setCell ⟨g, Q, none⟩ (.int .u64 xi)).drew (some g)) := grown_drew HGa7.out
          clear HSa7 HGa7 c3 c4 f3 f4 f5 c5 hi1 hi2
          generalize ((w3.setCell ⟨g, i, none⟩ (.int .u64 xj)).setCell ⟨g, Q, none⟩ (.int .u64 xi)).drew = w7 at *
          generalize swp dk i Q = d7 at *
          have HX7 : Hid (XB w7 w.heap.size Y) := HXa.out
          go_wp2
          go_roundw
          case rel => exact ⟨i + 1, by omega, by omega, by go_num, d7, Y, HD7, HS7, HPS, HX7, HY, HG7⟩
          case measure => simp [intOf]; omega
      · have hOL' : ¬ (L : Int) ≤ (O : Int) := by omega
        obtain ⟨Q, hQ⟩ : ∃ Q, Q = a + O := ⟨_, rfl⟩
        have wQ : IntKind.i64.wrap ((a : Int) + (O : Int)) = (Q : Int) := by rw [IntKind.wrap_i64]; omega
        have eQ : (a : Int) + (O : Int) = (Q : Int) := by omega
        have hQ1 : a ≤ Q := by omega
        have hQ2 : Q < b := by omega
        clear hQ
        have HPS : Hid (PermIn a b d (swp dk i Q)) := Go.Sort.permIn_trans _ _ _ _ _ HP.out (Go.Sort.swp_permIn dk a b i Q (by omega) (by omega) hQ1 hQ2 (by rw [HD.out]; omega))
        have hib : i < b := by omega
        clear HP hF
        go_wp2
        have hi1 := fun w' => Tryd.idxSo g N c i w' (by omega)
        have hi2 := fun w' => Tryd.idxSo g N c Q w' (by omega)
        have hsw : SoAt w3 g dk t := HS3.out
        have c3 := hsw.cell (i := i) (by rw [HD.out]; omega)
        have c4 := hsw.cell (i := Q) (by rw [HD.out]; omega)
        have f3 := hsw.fz i
        have f4 := hsw.fz Q
        have hswb : SoAt (w3.setCell ⟨g, i, none⟩ (.int .u64 dk[Q]!)) g (dk.setIfInBounds i dk[Q]!) t := hsw.set (by rw [HD.out]; omega) _
        have f5 := hswb.fz Q
        have c5 := hswb.cell (i := Q) (by rw [Array.size_setIfInBounds, HD.out]; omega)
        have HSa7 : Hid (SoAt ((w3.setCell ⟨g, i, none⟩ (.int .u64 dk[Q]!)).setCell ⟨g, Q, none⟩ (.int .u64 dk[i]!)) g (swp dk i Q) t) := hsw.swap (by rw [HD.out]; omega) (by rw [HD.out]; omega)
        have HGa7 : Hid (w.grownBy ((w3.setCell ⟨g, i, none⟩ (.int .u64 dk[Q]!)).setCell ⟨g, Q, none⟩ (.int .u64 dk[i]!)) (some g)) := grown_set (grown_set HG3.out _) _
        have HD7 : Hid ((swp dk i Q).size = N) := by show _ = _; rw [Go.Sort.size_swp]; exact HD.out
        have HXa : Hid (XB ((w3.setCell ⟨g, i, none⟩ (.int .u64 dk[Q]!)).setCell ⟨g, Q, none⟩ (.int .u64 dk[i]!)).drew w.heap.size Y) := (Below.heap_setCell _ _ _ _ (fun e => hne e.symm)).trans ((Below.heap_setCell _ _ _ _ (fun e => hne e.symm)).trans HX3.out)
        clear hsw hswb
        generalize (dk.setIfInBounds i dk[Q]!)[Q]! = ysw at *
        generalize dk[i]! = xi at *
        generalize dk[Q]! = xj at *
        go_upto_region 15 with fail
        go_region
        all_goals
          have HS7 : Hid (SoAt ((w3.setCell ⟨g, i, none⟩ (.int .u64 xj)).setCell ⟨g, Q, none⟩ (.int .u64 xi)).drew g (swp dk i Q) t) := SoAt.drew HSa7.out
          have HG7 : Hid (w.grownBy ((w3.setCell ⟨g, i, none⟩ (.int .u64 xj)).setCell ⟨g, Q, none⟩ (.int .u64 xi)).drew (some g)) := grown_drew HGa7.out
          clear HSa7 HGa7 c3 c4 f3 f4 f5 c5 hi1 hi2
          generalize ((w3.setCell ⟨g, i, none⟩ (.int .u64 xj)).setCell ⟨g, Q, none⟩ (.int .u64 xi)).drew = w7 at *
          generalize swp dk i Q = d7 at *
          have HX7 : Hid (XB w7 w.heap.size Y) := HXa.out
          go_wp2
          go_roundw
          case rel => exact ⟨i + 1, by omega, by omega, by go_num, d7, Y, HD7, HS7, HPS, HX7, HY, HG7⟩
          case measure => simp [intOf]; omega
    · have hij' : ¬ (i : Int) ≤ (J1 : Int) := by omega
      go_wp2
      go_end0
      exact ⟨rfl, dk, HP.out, HD.out, HS.out, HG.out⟩
end Go.Proofs.YtllcjmaecgfijaaDoor
