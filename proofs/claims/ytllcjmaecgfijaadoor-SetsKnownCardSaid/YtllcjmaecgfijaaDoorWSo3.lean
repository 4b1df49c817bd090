/- The library's sort at []uint64: heapSort. -/
import Derived.Test.YtllcjmaecgfijaaDoorWSo2
namespace Go.Proofs.YtllcjmaecgfijaaDoor
open Go.RowKit Go.Maps

theorem grow_thenS {w w1 w2 : World} {row : Option Nat} (h : w.grownBy w1 row) (k : w1.grownBy w2 row) : w.grownBy w2 row :=
  ⟨k.os.trans h.os, k.tape.trans h.tape, k.output.trans h.output, Nat.le_trans h.size k.size, fun j hj hne => (k.block j (Nat.lt_of_lt_of_le hj h.size) hne).trans (h.block j hj hne)⟩
theorem sift_size (hi first r : Nat) (d : Array Int) : (Go.Sort.siftDown lt64 hi first r d).size = d.size := by
  fun_induction Go.Sort.siftDown lt64 hi first r d <;> simp_all [Go.Sort.size_swp]
set_option maxRecDepth 100000 in
set_option maxHeartbeats 8000000 in
theorem Tryd.heapSort_any (g c a b : Nat) (d : Array Int) (t : List Int) (w : World) (h : SoAt w g d t) (hab : a < b) (hb : b ≤ d.size) (hn : d.size ≤ 1000000) :
    Calls Tryd.prog 33 #[.slice (some ⟨g, 0, none⟩) d.size c, .int .i64 (a : Int), .int .i64 (b : Int)] w (SoP w g t (Go.Sort.heapSort lt64 d a b)) := by
  obtain ⟨N, hN⟩ : ∃ N, d.size = N := ⟨_, rfl⟩
  obtain ⟨R, hR⟩ : ∃ R, Go.Sort.heapSort lt64 d a b = R := ⟨_, rfl⟩
  obtain ⟨H, hH⟩ : ∃ H, H = b - a := ⟨_, rfl⟩
  obtain ⟨K0, hK0⟩ : ∃ K0, K0 = (H - 1) / 2 := ⟨_, rfl⟩
  have HI0 : Hid (Go.Sort.heapPop lt64 a H (Go.Sort.heapBuild lt64 H a (K0 + 1) d) = R) := by
    show _ = _
    rw [hK0, hH]; exact hR
  have HS0 : Hid (SoAt w g d t) := h
  have HD0 : Hid (d.size = N) := hN
  rw [hN] at hb hn ⊢
  rw [hR]
  have wH : IntKind.i64.wrap ((b : Int) - (a : Int)) = (H : Int) := by rw [IntKind.wrap_i64]; omega
  have eH : (b : Int) - (a : Int) = (H : Int) := by omega
  have wK : IntKind.i64.wrap ((H : Int) - 1) = (H : Int) - 1 := by rw [IntKind.wrap_i64]; omega
  have tK : ((H : Int) - 1).tdiv 2 = (K0 : Int) := by rw [Int.tdiv_eq_ediv_of_nonneg (by omega)]; omega
  have hHN : a + H ≤ N := by omega
  have hK0N : K0 ≤ H := by omega
  have hH1 : 1 ≤ H := by omega
  clear h hN hR hH hK0
  go_enter Tryd.func33, Tryd.ntmps33
  go_wp2
  go_loopw [9] (fun iv wr => ∃ (i : Int) (k : Nat), iv = .int .i64 i ∧ i = (k : Int) - 1 ∧ k ≤ K0 + 1 ∧ ∃ dk : Array Int, Hid (dk.size = N) ∧ Hid (SoAt wr g dk t) ∧ Hid (Go.Sort.heapPop lt64 a H (Go.Sort.heapBuild lt64 H a k dk) = R) ∧ Hid (w.grownBy wr (some g))) (fun iv _ => (intOf iv + 1).toNat)
  case atStart => exact ⟨(K0 : Int), K0 + 1, rfl, by omega, Nat.le_refl _, d, HD0, HS0, HI0, World.grownBy.refl _ _⟩
  case round =>
    obtain ⟨i, k, rfl, hik, hk, dk, HD, HS, HI, HG⟩ := hrel
    clear HD0 HS0 HI0 wH eH wK tK
    cases k with
    | zero =>
      obtain rfl : i = -1 := by omega
      have wK2 : IntKind.i64.wrap ((H : Int) - 1) = (H : Int) - 1 := by rw [IntKind.wrap_i64]; omega
      have HI2 : Hid (Go.Sort.heapPop lt64 a H dk = R) := HI.out
      clear HI hik
      go_wp2
      go_loopw [10] (fun iv wr => ∃ (i : Int) (k : Nat), iv = .int .i64 i ∧ i = (k : Int) - 1 ∧ k ≤ H ∧ ∃ dk : Array Int, Hid (dk.size = N) ∧ Hid (SoAt wr g dk t) ∧ Hid (Go.Sort.heapPop lt64 a k dk = R) ∧ Hid (w.grownBy wr (some g))) (fun iv _ => (intOf iv + 1).toNat)
      case atStart => exact ⟨(H : Int) - 1, H, rfl, rfl, Nat.le_refl _, dk, HD, HS, HI2, HG⟩
      case round =>
        obtain ⟨i, k, rfl, hik, hk, dk, HD3, HS3, HI3, HG3⟩ := hrel
        clear HD HS HI2 HG wK2
        cases k with
        | zero =>
          obtain rfl : i = -1 := by omega
          have HR : Hid (dk = R) := HI3.out
          clear HI3 hik
          go_wp2
          go_end0
          obtain rfl := HR.out
          exact ⟨rfl, HS3.out, HG3.out⟩
        | succ m =>
          obtain rfl : i = (m : Int) := by omega
          obtain ⟨Q, hQ⟩ : ∃ Q, Q = a + m := ⟨_, rfl⟩
          have HK : Hid (Go.Sort.heapPop lt64 a m (Go.Sort.siftDown lt64 m a 0 (Go.Sort.swp dk a Q)) = R) := by
            show _ = _
            rw [hQ]; exact HI3.out
          have wQ : IntKind.i64.wrap ((a : Int) + (m : Int)) = (Q : Int) := by rw [IntKind.wrap_i64]; omega
          have eQ : (a : Int) + (m : Int) = (Q : Int) := by omega
          have hQN : Q < N := by omega
          have hmQ : a + m ≤ N := by omega
          have hdec : IntKind.i64.wrap ((m : Int) - 1) = (m : Int) - 1 := by rw [IntKind.wrap_i64]; omega
          have hi1 := fun w' => Tryd.idxSo g N c a w' (by omega)
          have hi2 := fun w' => Tryd.idxSo g N c Q w' hQN
          have hs5 : SoAt wr g dk t := HS3.out
          have c3 := hs5.cell (i := a) (by rw [HD3.out]; omega)
          have c4 := hs5.cell (i := Q) (by rw [HD3.out]; omega)
          have f3 := hs5.fz a
          have f4 := hs5.fz Q
          have hs5b : SoAt (wr.setCell ⟨g, a, none⟩ (.int .u64 dk[Q]!)) g (dk.setIfInBounds a dk[Q]!) t := hs5.set (by rw [HD3.out]; omega) _
          have f5 := hs5b.fz Q
          have c5 := hs5b.cell (i := Q) (by rw [Array.size_setIfInBounds, HD3.out]; omega)
          have HS5 : Hid (SoAt ((wr.setCell ⟨g, a, none⟩ (.int .u64 dk[Q]!)).setCell ⟨g, Q, none⟩ (.int .u64 dk[a]!)) g (Go.Sort.swp dk a Q) t) := hs5.swap (by rw [HD3.out]; omega) (by rw [HD3.out]; omega)
          have HG5 : Hid (w.grownBy ((wr.setCell ⟨g, a, none⟩ (.int .u64 dk[Q]!)).setCell ⟨g, Q, none⟩ (.int .u64 dk[a]!)) (some g)) := grown_set (grown_set HG3.out _) _
          have HD5 : Hid ((Go.Sort.swp dk a Q).size = N) := by show _ = _; rw [Go.Sort.size_swp]; exact HD3.out
          clear HS3 HG3 hs5 hs5b HD3 HI3 hik hQ
          generalize (dk.setIfInBounds a dk[Q]!)[Q]! = yQ at *
          generalize dk[a]! = xa at *
          generalize dk[Q]! = xQ at *
          generalize Go.Sort.swp dk a Q = dn at *
          go_wp2
          go_upto_region 15 with fail
          go_region
          all_goals
            have HS6 : Hid (SoAt ((wr.setCell ⟨g, a, none⟩ (.int .u64 xQ)).setCell ⟨g, Q, none⟩ (.int .u64 xa)).drew g dn t) := SoAt.drew HS5.out
            have HG6 : Hid _ := grown_drew HG5.out
            clear HS5 HG5 c3 c4 f3 f4 f5 c5
            generalize ((wr.setCell ⟨g, a, none⟩ (.int .u64 xQ)).setCell ⟨g, Q, none⟩ (.int .u64 xa)).drew = w6 at *
            have hsf := Tryd.sift_any g c 0 m a dn t w6 HS6.out (Nat.zero_le _) (by rw [HD5.out]; omega) (by rw [HD5.out]; omega)
            rw [HD5.out, show ((0 : Nat) : Int) = 0 from rfl] at hsf
            go_wp2_with fail
            refine hsf.mono ?_
            rintro e w7 ⟨rfl, hs7, hg7⟩
            have HS7 : Hid (SoAt w7 g (Go.Sort.siftDown lt64 m a 0 dn) t) := hs7
            have HG7 : Hid (w.grownBy w7 (some g)) := grow_thenS HG6.out hg7
            have HD7 : Hid ((Go.Sort.siftDown lt64 m a 0 dn).size = N) := by show _ = _; rw [sift_size]; exact HD5.out
            clear hsf hs7 hg7 HS6 HG6
            go_wp2
            go_roundw
            case rel => exact ⟨(m : Int) - 1, m, rfl, rfl, by omega, _, HD7, HS7, HK, HG7⟩
            case measure => simp [intOf]
    | succ m =>
      obtain rfl : i = (m : Int) := by omega
      have HK : Hid (Go.Sort.heapPop lt64 a H (Go.Sort.heapBuild lt64 H a m (Go.Sort.siftDown lt64 H a m dk)) = R) := HI.out
      have hdec : IntKind.i64.wrap ((m : Int) - 1) = (m : Int) - 1 := by rw [IntKind.wrap_i64]; omega
      have hsf := Tryd.sift_any g c m H a dk t wr HS.out (by rw [HD.out]; omega) (by rw [HD.out]; omega) (by rw [HD.out]; omega)
      rw [HD.out] at hsf
      clear HI hik
      go_wp2_with fail
      refine hsf.mono ?_
      rintro e w7 ⟨rfl, hs7, hg7⟩
      have HS7 : Hid (SoAt w7 g (Go.Sort.siftDown lt64 H a m dk) t) := hs7
      have HG7 : Hid (w.grownBy w7 (some g)) := grow_thenS HG.out hg7
      have HD7 : Hid ((Go.Sort.siftDown lt64 H a m dk).size = N) := by show _ = _; rw [sift_size]; exact HD.out
      clear hsf hs7 hg7 HS HG
      go_wp2
      go_roundw
      case rel => exact ⟨(m : Int) - 1, m, rfl, rfl, by omega, _, HD7, HS7, HK, HG7⟩
      case measure => simp [intOf]
end Go.Proofs.YtllcjmaecgfijaaDoor
