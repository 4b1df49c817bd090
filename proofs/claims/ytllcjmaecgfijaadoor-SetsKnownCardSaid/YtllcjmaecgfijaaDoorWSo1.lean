/- The library's sort at []uint64: a row that is sorted; Less, insertionSort. -/
import Derived.Test.YtllcjmaecgfijaaDoorKGen
import Derived.Sort.AssemblyPlain
import Derived.Deep.QuietTactic
import Derived.BigQuiet
import Derived.Deep.DeepCutAuto
namespace Go.Proofs.YtllcjmaecgfijaaDoor
open Go.RowKit Go.Maps

abbrev lt64 : Int → Int → Bool := Go.Sort.ltInt
theorem swo64 : Go.Sort.SWO lt64 := ⟨fun x => by simp [lt64, Go.Sort.ltInt], fun x y z => by simp [lt64, Go.Sort.ltInt]; omega, fun x y z => by simp [lt64, Go.Sort.ltInt]; omega⟩
/-- Block g: the numbers of d, then t. -/
def SoAt (w : World) (g : Nat) (d : Array Int) (t : List Int) : Prop := w.heap[g]? = some (.cells ((d.toList ++ t).map (Value.int .u64)).toArray 22 (0, 0))
theorem SoAt.lt {w : World} {g : Nat} {d : Array Int} {t : List Int} (h : SoAt w g d t) : g < w.heap.size := (Array.getElem?_eq_some_iff.1 h).1
theorem SoAt.cell {w : World} {g : Nat} {d : Array Int} {t : List Int} (h : SoAt w g d t) {i : Nat} (hi : i < d.size) : w.cell? ⟨g, i, none⟩ = some (.int .u64 d[i]!) := by
  rw [cell_row h]
  simp [List.getElem?_append_left, hi]
theorem SoAt.fz {w : World} {g : Nat} {d : Array Int} {t : List Int} (h : SoAt w g d t) (i : Nat) : w.frozen? ⟨g, i, none⟩ = false := frozen_of_row w g i _ _ h
theorem SoAt.set {w : World} {g : Nat} {d : Array Int} {t : List Int} (h : SoAt w g d t) {i : Nat} (hi : i < d.size) (x : Int) : SoAt (w.setCell ⟨g, i, none⟩ (.int .u64 x)) g (d.setIfInBounds i x) t := by
  unfold SoAt
  rw [heap_setCell_same w g i _ _ (.int .u64 x) h]
  refine congrArg some (congrArg (fun c => Obj.cells c 22 (0, 0)) (Array.toList_inj.1 ?_))
  simp only [Array.toList_setIfInBounds, List.map_append, List.map_set]
  rw [List.set_append_left _ _ (by simpa using hi)]
theorem SoAt.swap {w : World} {g : Nat} {d : Array Int} {t : List Int} (h : SoAt w g d t) {i j : Nat} (hi : i < d.size) (hj : j < d.size) : SoAt ((w.setCell ⟨g, i, none⟩ (.int .u64 d[j]!)).setCell ⟨g, j, none⟩ (.int .u64 d[i]!)) g (Go.Sort.swp d i j) t :=
  (h.set hi d[j]!).set (by simpa using hj) d[i]!
theorem Tryd.sizeSo : (Tryd.prog.info? 22).map (·.size) = some 1 := by kernel_rfl
theorem Tryd.idxSo (g n c k : Nat) (w : World) (hk : k < n) : (Instr.indexAt 25 (.slice (some ⟨g, 0, none⟩) n c) (.int .i64 (k : Int))).run Tryd.prog w = .ok (.pointer (some ⟨g, k, none⟩)) w := by
  have := idx_of (P := Tryd.prog) (T := 25) (e := 22) Tryd.underlying25 Tryd.sizeSo (a := some ⟨g, 0, none⟩) (cap := c) (n := n) (by simp) k w hk
  simpa [adOf, add_plain] using this
theorem grown_set {w w' : World} {g i : Nat} (h : w.grownBy w' (some g)) (v : Value) : w.grownBy (w'.setCell ⟨g, i, none⟩ v) (some g) :=
  ⟨h.os, h.tape, h.output, by have := h.size; simpa using this, fun k hk hne => (Below.heap_setCell _ _ _ _ (fun e => hne (by rw [e]))).trans (h.block k hk hne)⟩
theorem grown_drewN {w w' : World} {row : Option Nat} (h : w.grownBy w' row) (n : Nat) : w.grownBy (w'.drewN n) row := by
  have hb := below_drewN (Below.refl w'.heap.size w') n
  exact ⟨hb.os.trans h.os, hb.tape.trans h.tape, hb.output.trans h.output, Nat.le_trans h.size hb.size, fun k hk hne => (hb.block k (Nat.lt_of_lt_of_le hk h.size)).trans (h.block k hk hne)⟩
theorem SoAt.drewN {w : World} {g : Nat} {d : Array Int} {t : List Int} (h : SoAt w g d t) (n : Nat) : SoAt (w.drewN n) g d t := (below_drewN (Below.refl w.heap.size w) n).block g h.lt |>.trans h
theorem SoAt.drew {w : World} {g : Nat} {d : Array Int} {t : List Int} (h : SoAt w g d t) : SoAt w.drew g d t := h
theorem grown_drew {w w' : World} {row : Option Nat} (h : w.grownBy w' row) : w.grownBy w'.drew row := ⟨h.os, h.tape, h.output, h.size, h.block⟩
set_option maxRecDepth 100000 in
theorem Tryd.nan_any (x : Int) (w : World) : Calls Tryd.prog 48 #[.int .u64 x] w fun e w' => e = .returned (.bool false) ∧ w' = w := by
  go_enter Tryd.func48, Tryd.ntmps48
  go_wp2
  go_ret
  exact ⟨by simp, rfl⟩
set_option maxRecDepth 100000 in
theorem Tryd.less_any (x y : Int) (w : World) : Calls Tryd.prog 38 #[.int .u64 x, .int .u64 y] w fun e w' => e = .returned (.bool (lt64 x y)) ∧ w' = w := by
  have h1 := Tryd.nan_any x w
  go_enter Tryd.func38, Tryd.ntmps38
  go_wp2_with fail
  refine h1.mono ?_
  rintro e w1 ⟨rfl, hw1⟩
  obtain rfl := hw1.symm
  go_wp2
  go_ret
  exact ⟨rfl, rfl⟩
theorem Tryd.less_q (x y : Int) (w : World) : Calls Tryd.prog 38 #[.int .u64 x, .int .u64 y] w fun e w' => e = .returned (.bool (lt64 x y)) ∧ ∃ m, w' = w.drewN m := (Tryd.less_any x y w).mono fun _ _ h => ⟨h.1, 0, h.2⟩
theorem ins_stop {a j : Nat} {d : Array Int} (h : ¬ a < j) : Go.Sort.insInner lt64 a j d = d := by
  cases j with
  | zero => rfl
  | succ j =>
    unfold Go.Sort.insInner
    rw [if_neg]
    simp; intro h2; omega
theorem ins_no {a j : Nat} {d : Array Int} (hl : lt64 d[j + 1]! d[j]! = false) : Go.Sort.insInner lt64 a (j + 1) d = d := by
  unfold Go.Sort.insInner
  rw [if_neg]
  rw [hl]; simp
theorem ins_yes {a j : Nat} {d : Array Int} (h : a < j + 1) (hl : lt64 d[j + 1]! d[j]! = true) : Go.Sort.insInner lt64 a (j + 1) d = Go.Sort.insInner lt64 a j (Go.Sort.swp d (j + 1) j) := by
  conv => lhs; unfold Go.Sort.insInner
  rw [if_pos]
  rw [hl]; simp; omega
theorem ins_out {a b k : Nat} {d : Array Int} (h : k < b) : Go.Sort.insOuter lt64 a b k d = Go.Sort.insOuter lt64 a b (k + 1) (Go.Sort.insInner lt64 a k d) := by
  conv => lhs; unfold Go.Sort.insOuter
  rw [if_pos h]
theorem ins_end {a b k : Nat} {d : Array Int} (h : ¬ k < b) : Go.Sort.insOuter lt64 a b k d = d := by
  unfold Go.Sort.insOuter
  rw [if_neg h]
/-- What a call on a row leaves. -/
def SoP (w : World) (g : Nat) (t : List Int) (d' : Array Int) (e : Ending) (w' : World) : Prop := e = .returned (.tuple #[]) ∧ SoAt w' g d' t ∧ w.grownBy w' (some g)
set_option maxRecDepth 100000 in
set_option maxHeartbeats 4000000 in
theorem Tryd.insSort_any (g c a b : Nat) (d : Array Int) (t : List Int) (w : World) (h : SoAt w g d t) (hab : a ≤ b) (hb : b ≤ d.size) (hn : d.size ≤ 1000000) :
    Calls Tryd.prog 32 #[.slice (some ⟨g, 0, none⟩) d.size c, .int .i64 (a : Int), .int .i64 (b : Int)] w (SoP w g t (Go.Sort.insertionSort lt64 d a b)) := by
  obtain ⟨N, hN⟩ : ∃ N, d.size = N := ⟨_, rfl⟩
  obtain ⟨R, hR⟩ : ∃ R, Go.Sort.insertionSort lt64 d a b = R := ⟨_, rfl⟩
  have HI0 : Hid (Go.Sort.insOuter lt64 a b (a + 1) d = R) := hR
  have HS0 : Hid (SoAt w g d t) := h
  have HD0 : Hid (d.size = N) := hN
  rw [hN] at hb hn ⊢
  rw [hR]
  clear h hN hR
  go_enter Tryd.func32, Tryd.ntmps32
  go_wp2
  go_loopw [6] (fun iv wr => ∃ k : Nat, a + 1 ≤ k ∧ k ≤ N + 1 ∧ iv = .int .i64 (k : Int) ∧ ∃ dk : Array Int, Hid (dk.size = N) ∧ Hid (SoAt wr g dk t) ∧ Hid (Go.Sort.insOuter lt64 a b k dk = R) ∧ Hid (w.grownBy wr (some g))) (fun iv _ => N + 1 - (intOf iv).toNat)
  case atStart => exact ⟨a + 1, Nat.le_refl _, by omega, by go_num, d, HD0, HS0, HI0, World.grownBy.refl _ _⟩
  case round =>
    obtain ⟨k, hak, hkN, rfl, dk, HD, HS, HI, HG⟩ := hrel
    clear HD0 HS0 HI0
    by_cases hkb : k < b
    · have HJ0 : Hid (Go.Sort.insOuter lt64 a b (k + 1) (Go.Sort.insInner lt64 a k dk) = R) := (ins_out hkb).symm.trans HI.out
      clear HI
      go_wp2
      go_loopw [7] (fun jv wr => ∃ j : Nat, j ≤ k ∧ jv = .int .i64 (j : Int) ∧ ∃ dj : Array Int, Hid (dj.size = N) ∧ Hid (SoAt wr g dj t) ∧ Hid (Go.Sort.insOuter lt64 a b (k + 1) (Go.Sort.insInner lt64 a j dj) = R) ∧ Hid (w.grownBy wr (some g))) (fun jv _ => (intOf jv).toNat)
      case atStart => exact ⟨k, Nat.le_refl _, rfl, dk, HD, HS, HJ0, HG⟩
      case round =>
        obtain ⟨j, hjk, rfl, dj, HD2, HS2, HJ, HG2⟩ := hrel
        clear HD HS HJ0 HG
        by_cases haj : a < j
        · obtain ⟨m, hm⟩ : ∃ m, j = m + 1 := ⟨j - 1, by omega⟩
          have hd1 : decide ((a : Int) < (j : Int)) = true := decide_eq_true (by omega)
          have hi1 := fun w' => Tryd.idxSo g N c j w' (by omega)
          have hi2 := fun w' => Tryd.idxSo g N c m w' (by omega)
          have c1 := HS2.out.cell (i := j) (by rw [HD2.out]; omega)
          have c2 := HS2.out.cell (i := m) (by rw [HD2.out]; omega)
          have hsub : IntKind.i64.wrap ((j : Int) - 1) = (m : Int) := by rw [IntKind.wrap_i64]; omega
          have hless := fun w' => Tryd.less_any dj[j]! dj[m]! w'
          cases hl : lt64 dj[j]! dj[m]! with
          | false =>
            rw [hl] at hless
            have HK : Hid (Go.Sort.insOuter lt64 a b (k + 1) dj = R) := by
              have := HJ.out
              rw [hm] at this hl
              rw [ins_no hl] at this
              exact this
            clear hl HJ hm
            go_upto_region 15 with fail
            go_quiet ((go_at_call 38; exact Calls.quiet_of_same (hless _)))
            have HS3 : Hid _ := HS2.out.drewN nq
            have HG3 : Hid _ := grown_drewN HG2.out nq
            clear HS2 HG2 hless c1 c2
            generalize wr.drewN nq = w3 at *
            go_wp2
            go_roundw
            case rel => exact ⟨k + 1, by omega, by omega, by go_num, dj, HD2, HS3, HK, HG3⟩
            case measure => simp [intOf] <;> omega
          | true =>
            rw [hl] at hless
            have HK : Hid (Go.Sort.insOuter lt64 a b (k + 1) (Go.Sort.insInner lt64 a m (Go.Sort.swp dj j m)) = R) := by
              have := HJ.out
              rw [hm] at this hl ⊢
              rw [ins_yes (by omega) hl] at this
              exact this
            have HM : Hid (j = m + 1) := hm
            have hmj : m < j := by omega
            clear hl HJ hm
            go_upto_region 15 with fail
            go_quiet ((go_at_call 38; exact Calls.quiet_of_same (hless _)))
            have hs3 := HS2.out.drewN nq
            have c3 := hs3.cell (i := j) (by rw [HD2.out]; omega)
            have c4 := hs3.cell (i := m) (by rw [HD2.out]; omega)
            have f3 := hs3.fz j
            have f4 := hs3.fz m
            have HS3 : Hid (SoAt (((wr.drewN nq).setCell ⟨g, j, none⟩ (.int .u64 dj[m]!)).setCell ⟨g, m, none⟩ (.int .u64 dj[j]!)) g (Go.Sort.swp dj j m) t) := hs3.swap (by rw [HD2.out]; omega) (by rw [HD2.out]; omega)
            have HG3 : Hid (w.grownBy (((wr.drewN nq).setCell ⟨g, j, none⟩ (.int .u64 dj[m]!)).setCell ⟨g, m, none⟩ (.int .u64 dj[j]!)) (some g)) := grown_set (grown_set (grown_drewN HG2.out nq) _) _
            have HD3 : Hid ((Go.Sort.swp dj j m).size = N) := by show _ = _; rw [Go.Sort.size_swp]; exact HD2.out
            clear HS2 HG2 hless c1 c2 hs3 HD2
            generalize dj[j]! = xj at *
            generalize dj[m]! = xm at *
            generalize Go.Sort.swp dj j m = dn at *
            generalize wr.drewN nq = w3 at *
            go_upto_region 15 with fail
            go_region
            all_goals
              have HS4 : Hid _ := HS3.out.drew
              have HG4 : Hid _ := grown_drew HG3.out
              clear HS3 HG3 c3 c4 f3 f4
              generalize ((w3.setCell ⟨g, j, none⟩ (.int .u64 xm)).setCell ⟨g, m, none⟩ (.int .u64 xj)).drew = w4 at *
              go_wp2
              go_roundw
              case rel => exact ⟨m, by omega, rfl, dn, HD3, HS4, HK, HG4⟩
              case measure => simp [intOf]; omega
        · have HK : Hid (Go.Sort.insOuter lt64 a b (k + 1) dj = R) := by
            have := HJ.out
            rw [ins_stop haj] at this
            exact this
          have hd1 : decide ((a : Int) < (j : Int)) = false := decide_eq_false (by omega)
          clear HJ
          go_upto_region 15 with fail
          go_quiet (fail)
          have HS3 : Hid _ := HS2.out.drewN nq
          have HG3 : Hid _ := grown_drewN HG2.out nq
          clear HS2 HG2
          generalize wr.drewN nq = w3 at *
          go_wp2
          go_roundw
          case rel => exact ⟨k + 1, by omega, by omega, by go_num, dj, HD2, HS3, HK, HG3⟩
          case measure => simp [intOf] <;> omega
    · have HR : Hid (dk = R) := (ins_end hkb).symm.trans HI.out
      clear HI
      go_wp2
      go_end0
      obtain rfl := HR.out
      exact ⟨rfl, HS.out, HG.out⟩
end Go.Proofs.YtllcjmaecgfijaaDoor
