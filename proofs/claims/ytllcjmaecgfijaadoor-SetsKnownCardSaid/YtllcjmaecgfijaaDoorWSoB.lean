/- The library's sort at []uint64: slices.Sort. -/
import Derived.Test.YtllcjmaecgfijaaDoorWSoA
namespace Go.Proofs.YtllcjmaecgfijaaDoor
open Go.RowKit Go.Maps
open Go.Sort (swp PermIn SortedIn)

theorem bitLen_le (x : Nat) : Go.Lib.bitLen x ≤ 64 := by
  have h : ∀ f x, Go.Lib.bitLenAux f x ≤ f := by
    intro f
    induction f with
    | zero => intro x; exact Nat.le_refl _
    | succ f ih =>
      intro x
      show (if x = 0 then 0 else 1 + Go.Lib.bitLenAux f (x / 2)) ≤ f + 1
      split
      · omega
      · have := ih (x / 2); omega
  exact h 64 x
/-- Sorted from end to end: a rising row of the same numbers. -/
theorem sorted_list {d d' : Array Int} (hp : PermIn 0 d.size d d') (hs : SortedIn lt64 0 d.size d') : d'.toList.Perm d.toList ∧ d'.toList.Pairwise (· ≤ ·) := by
  constructor
  · have h := hp.2.2
    rw [Array.extract_size] at h
    rw [show d'.extract 0 d.size = d' by rw [← hp.1]; exact Array.extract_size] at h
    exact h
  · rw [List.pairwise_iff_getElem]
    intro i j hi hj hij
    rw [Array.length_toList] at hi hj
    have h := hs i j (Nat.zero_le _) hij (by rw [← hp.1]; exact hj)
    rw [getElem!_pos d' i hi, getElem!_pos d' j hj] at h
    simp only [lt64, Go.Sort.ltInt, decide_eq_false_iff_not] at h
    rw [Array.getElem_toList, Array.getElem_toList]
    omega
set_option maxRecDepth 100000 in
set_option maxHeartbeats 4000000 in
theorem Tryd.sort_any (g c : Nat) (d : Array Int) (t : List Int) (w : World) (h : SoAt w g d t) (hn : d.size ≤ 1000000) :
    Calls Tryd.prog 23 #[.slice (some ⟨g, 0, none⟩) d.size c] w fun e w' => e = .returned (.tuple #[]) ∧ ∃ d' : Array Int, d'.toList.Perm d.toList ∧ d'.toList.Pairwise (· ≤ ·) ∧ SoAt w' g d' t ∧ w.grownBy w' (some g) := by
  have hb := Tryd.bits_Len (d.size : Int) w (by omega) (by omega)
  have hl := bitLen_le (d.size : Int).toNat
  have hpq := Tryd.pdq_all (d.size + 1) g c 0 d.size (Go.Lib.bitLen (d.size : Int).toNat) d t w h (Nat.zero_le _) (Nat.le_refl _) hn hl (by omega) (Or.inl rfl)
  have HF : Hid (∀ d' : Array Int, PermIn 0 d.size d d' → SortedIn lt64 0 d.size d' → d'.toList.Perm d.toList ∧ d'.toList.Pairwise (· ≤ ·)) := fun d' => sorted_list
  have wN : IntKind.u64.wrap (d.size : Int) = (d.size : Int) := by rw [IntKind.wrap_u64]; omega
  generalize Go.Lib.bitLen (d.size : Int).toNat = lim at *
  generalize d.size = N at *
  go_enter Tryd.func23, Tryd.ntmps23
  go_wp2_with fail
  refine hb.mono ?_
  rintro e w0 ⟨rfl, hw⟩
  rw [hw]
  clear hw w0
  go_wp2_with fail
  refine hpq.mono ?_
  rintro e w1 ⟨rfl, d', hp, hs, h1, hg⟩
  have HZ : Hid (∃ d' : Array Int, d'.toList.Perm d.toList ∧ d'.toList.Pairwise (· ≤ ·) ∧ SoAt w1 g d' t ∧ w.grownBy w1 (some g)) := ⟨d', (HF.out d' hp hs).1, (HF.out d' hp hs).2, h1, hg⟩
  clear hpq hb hp hs h1 hg HF
  go_wp2
  go_end0
  exact ⟨rfl, HZ.out⟩
/-- Nothing to sort, wherever the slice stands. -/
theorem Tryd.ins_none (p : Option Addr) (c : Nat) (w : World) :
    Calls Tryd.prog 32 #[.slice p 0 c, .int .i64 0, .int .i64 0] w fun e w' => e = .returned (.tuple #[]) ∧ w' = w := by
  go_enter Tryd.func32, Tryd.ntmps32
  go_wp2
  go_loopw [6] (fun iv wr => iv = .int .i64 1 ∧ wr = w) (fun _ _ => 0)
  case atStart => exact ⟨rfl, rfl⟩
  case round =>
    obtain ⟨rfl, rfl⟩ := hrel
    go_wp2
    go_end0
    exact ⟨rfl, rfl⟩
set_option maxRecDepth 100000 in
theorem Tryd.pdq_none (p : Option Addr) (c lim : Nat) (w : World) :
    Calls Tryd.prog 28 #[.slice p 0 c, .int .i64 0, .int .i64 0, .int .i64 (lim : Int)] w fun e w' => e = .returned (.tuple #[]) ∧ w' = w := by
  have hi := Tryd.ins_none p c w
  go_enter Tryd.func28, Tryd.ntmps28
  go_wp2
  go_loopw [1, 2] (fun iv jv wr => iv = .int .i64 0 ∧ jv = .int .i64 0 ∧ wr = w) (fun _ _ _ => 0)
  case atStart => exact ⟨rfl, rfl, rfl⟩
  case round =>
    obtain ⟨rfl, rfl, rfl⟩ := hrel
    go_wp2_with fail
    refine hi.mono ?_
    rintro e w0 ⟨rfl, rfl⟩
    go_wp2
    refine bodyPost_ret (results_none rfl _ _ _) rfl ?_
    exact ⟨rfl, rfl⟩
theorem Tryd.sort_none (p : Option Addr) (c : Nat) (w : World) :
    Calls Tryd.prog 23 #[.slice p 0 c] w fun e w' => e = .returned (.tuple #[]) ∧ w' = w := by
  have hb := Tryd.bits_Len 0 w (by omega) (by omega)
  have hpq := Tryd.pdq_none p c (Go.Lib.bitLen (0 : Int).toNat) w
  generalize Go.Lib.bitLen (0 : Int).toNat = lim at *
  go_enter Tryd.func23, Tryd.ntmps23
  go_wp2_with fail
  refine hb.mono ?_
  rintro e w0 ⟨rfl, hw⟩
  rw [hw]
  clear hw w0
  go_wp2_with fail
  refine hpq.mono ?_
  rintro e w0 ⟨rfl, rfl⟩
  go_wp2
  go_end0
  exact ⟨rfl, rfl⟩
end Go.Proofs.YtllcjmaecgfijaaDoor
