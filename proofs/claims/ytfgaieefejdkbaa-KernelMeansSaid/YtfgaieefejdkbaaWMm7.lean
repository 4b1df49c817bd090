/- Package mean: the values of formulas of one other. Written by mkmo.py. -/
import Derived.Test.YtfgaieefejdkbaaWMm6
namespace Go.Proofs.Ytfgaieefejdkbaa
open Go.RowKit Go.Maps

theorem fin_rec {n : Nat} {A : Nat → Prop} (i : Nat) : unV n 9 A i ↔ i < n ∧ (A i ∨ unV n 9 A (i + 1)) := by
  simp [unV]
  constructor
  · rintro ⟨j, h1, h2, h3⟩
    refine ⟨by omega, ?_⟩
    by_cases e : j = i
    · subst e; exact Or.inl h3
    · exact Or.inr ⟨j, by omega, h2, h3⟩
  · rintro ⟨h, h1 | ⟨j, h1, h2, h3⟩⟩
    · exact ⟨i, Nat.le_refl _, h, h1⟩
    · exact ⟨j, by omega, h2, h3⟩
theorem glo_rec {n : Nat} {A : Nat → Prop} {i : Nat} (hi : i ≤ n) : unV n 10 A i ↔ i = n ∨ A i ∧ unV n 10 A (i + 1) := by
  simp [unV]
  constructor
  · intro h
    by_cases e : i = n
    · exact Or.inl e
    · exact Or.inr ⟨h i (Nat.le_refl _) (by omega), fun j h1 h2 => h j (by omega) h2⟩
  · rintro (rfl | ⟨h1, h2⟩) j j1 j2
    · omega
    · by_cases e : j = i
      · subst e; exact h1
      · exact h2 j (by omega) j2
set_option maxRecDepth 100000 in
set_option maxHeartbeats 1600000 in
theorem Try.mone6_any (n ga : Nat) (av : List Bool) (A : Nat → Prop) (w : World) (hA : ValAt w ga av) (hl : av.length = n + 1) (hv : ∀ i, i ≤ n → (av.getD i false = true ↔ A i)) (hn : n ≤ 10000) :
    Calls Try.prog 74 #[.int .u8 6, .slice (some ⟨ga, 0, none⟩) (n + 1) (n + 1)] w (ValR n (unV n 6 A) w) := by
  have hmk := Try.makeB (n + 1) (by omega)
  have en : ((n + 1 : Nat) : Int) = (n : Int) + 1 := by omega
  rw [en] at hmk
  have HA : Hid (ValAt w ga av) := hA
  have hga := hA.lt
  have HV : Hid (∀ i, i ≤ n → (av.getD i false = true ↔ A i)) := hv
  have HREC : Hid (∀ i, i ≤ n → ((unV n 6 A) i ↔ ¬ A i)) := fun i hi => by
    simp [unV]
  clear hA hv
  generalize (unV n 6 A) = V at *
  have e1 : (n : Int) + 1 - 1 = (n : Int) := by omega
  go_enter Try.func74, Try.ntmps74
  go_wp2
  clear hmk
  go_loopw [7] (fun i wr => ∃ k : Nat, k ≤ n + 1 ∧ i = .int .i64 ((k : Int) - 1) ∧ (∃ bs, Hid (ValAt wr w.heap.size bs) ∧ Hid (FillB n V k bs)) ∧ Hid (Below w.heap.size w wr)) (fun i _ => (intOf i + 1).toNat)
  case atStart => exact ⟨n + 1, Nat.le_refl _, by rw [en, e1], ⟨List.replicate (n + 1) false, ValAt.made w _, by simp, fun i h1 h2 => absurd h1 (by omega)⟩, below_new _ _⟩
  case round =>
    obtain ⟨k1, hk1, rfl, ⟨bs, HB, HF⟩, HW⟩ := hrel
    by_cases hk0 : k1 = 0
    · subst hk0
      have hle : ¬ (0 : Int) ≤ ((0 : Nat) : Int) - 1 := by omega
      go_wp2
      go_ret
      unfold ValR
      exact ⟨_, bs, rfl, HB.out, HF.out.len, fun i hi => HF.out.done i (Nat.zero_le _) hi, HW.out, Nat.le_refl _⟩
    · obtain ⟨k, rfl⟩ : ∃ k, k1 = k + 1 := ⟨k1 - 1, by omega⟩
      have hkn : k ≤ n := by omega
      have em : (((k + 1 : Nat) : Int) - 1) = (k : Int) := by omega
      rw [em]
      have hle : (0 : Int) ≤ (k : Int) := by omega
      have hAr := HA.out.up HW.out
      have hi1 := fun w' => Try.idxB ga (n + 1) k w' (by omega)
      have hi2 := fun w' => Try.idxB w.heap.size (n + 1) k w' (by omega)
      have hca := hAr.cell (i := k) (by omega)
      have hcb := HB.out.cell (i := k) (by rw [HF.out.len]; omega)
      have hzb := HB.out.fz k
      have HST : Hid (∀ b : Bool, ValAt (wr.setCell ⟨w.heap.size, k, none⟩ (.bool b)) w.heap.size (bs.set k b) ∧ Below w.heap.size w (wr.setCell ⟨w.heap.size, k, none⟩ (.bool b))) := fun b => ⟨HB.out.set k b, HW.out.setCell (Nat.le_refl _) _⟩
      have HRk : Hid _ := HREC.out k hkn
      have HVk : Hid _ := HV.out k hkn
      clear em hk0 e1 en
      generalize av.getD k false = q at *
      cases q with
      | false =>
        have HNA : Hid (¬ A k) := fun h => (by have := HVk.out.2 h; cases this)
        go_wp2
        go_roundw
        case rel =>
          refine ⟨k, by omega, rfl, ⟨_, (HST.out _).1, HF.out.next hkn ?_⟩, (HST.out _).2⟩
          rw [HRk.out]
          simpa using HNA.out
        case measure => simp [intOf] <;> omega
      | true =>
        have HYA : Hid (A k) := HVk.out.1 rfl
        go_wp2
        go_roundw
        case rel =>
          refine ⟨k, by omega, rfl, ⟨_, (HST.out _).1, HF.out.next hkn ?_⟩, (HST.out _).2⟩
          rw [HRk.out]
          simpa using HYA.out
        case measure => simp [intOf] <;> omega
set_option maxRecDepth 100000 in
set_option maxHeartbeats 1600000 in
theorem Try.mone7_any (n ga : Nat) (av : List Bool) (A : Nat → Prop) (w : World) (hA : ValAt w ga av) (hl : av.length = n + 1) (hv : ∀ i, i ≤ n → (av.getD i false = true ↔ A i)) (hn : n ≤ 10000) :
    Calls Try.prog 74 #[.int .u8 7, .slice (some ⟨ga, 0, none⟩) (n + 1) (n + 1)] w (ValR n (unV n 7 A) w) := by
  have hmk := Try.makeB (n + 1) (by omega)
  have en : ((n + 1 : Nat) : Int) = (n : Int) + 1 := by omega
  rw [en] at hmk
  have HA : Hid (ValAt w ga av) := hA
  have hga := hA.lt
  have HV : Hid (∀ i, i ≤ n → (av.getD i false = true ↔ A i)) := hv
  have HREC : Hid (∀ i, i ≤ n → ((unV n 7 A) i ↔ i + 1 < n ∧ A (i + 1))) := fun i hi => by
    simp [unV]
  clear hA hv
  generalize (unV n 7 A) = V at *
  have e1 : (n : Int) + 1 - 1 = (n : Int) := by omega
  go_enter Try.func74, Try.ntmps74
  go_wp2
  clear hmk
  go_loopw [7] (fun i wr => ∃ k : Nat, k ≤ n + 1 ∧ i = .int .i64 ((k : Int) - 1) ∧ (∃ bs, Hid (ValAt wr w.heap.size bs) ∧ Hid (FillB n V k bs)) ∧ Hid (Below w.heap.size w wr)) (fun i _ => (intOf i + 1).toNat)
  case atStart => exact ⟨n + 1, Nat.le_refl _, by rw [en, e1], ⟨List.replicate (n + 1) false, ValAt.made w _, by simp, fun i h1 h2 => absurd h1 (by omega)⟩, below_new _ _⟩
  case round =>
    obtain ⟨k1, hk1, rfl, ⟨bs, HB, HF⟩, HW⟩ := hrel
    by_cases hk0 : k1 = 0
    · subst hk0
      have hle : ¬ (0 : Int) ≤ ((0 : Nat) : Int) - 1 := by omega
      go_wp2
      go_ret
      unfold ValR
      exact ⟨_, bs, rfl, HB.out, HF.out.len, fun i hi => HF.out.done i (Nat.zero_le _) hi, HW.out, Nat.le_refl _⟩
    · obtain ⟨k, rfl⟩ : ∃ k, k1 = k + 1 := ⟨k1 - 1, by omega⟩
      have hkn : k ≤ n := by omega
      have em : (((k + 1 : Nat) : Int) - 1) = (k : Int) := by omega
      rw [em]
      have hle : (0 : Int) ≤ (k : Int) := by omega
      have hAr := HA.out.up HW.out
      have hi1 := fun w' => Try.idxB ga (n + 1) k w' (by omega)
      have hi2 := fun w' => Try.idxB w.heap.size (n + 1) k w' (by omega)
      have hca := hAr.cell (i := k) (by omega)
      have hcb := HB.out.cell (i := k) (by rw [HF.out.len]; omega)
      have hzb := HB.out.fz k
      have HST : Hid (∀ b : Bool, ValAt (wr.setCell ⟨w.heap.size, k, none⟩ (.bool b)) w.heap.size (bs.set k b) ∧ Below w.heap.size w (wr.setCell ⟨w.heap.size, k, none⟩ (.bool b))) := fun b => ⟨HB.out.set k b, HW.out.setCell (Nat.le_refl _) _⟩
      have HRk : Hid _ := HREC.out k hkn
      have HVk : Hid _ := HV.out k hkn
      clear em hk0 e1 en
      by_cases hc : k + 1 < n
      · have hci : (k : Int) + 1 < (n : Int) := by omega
        have hj1 := fun w' => Try.idxB ga (n + 1) (k + 1) w' (by omega)
        rw [show ((k + 1 : Nat) : Int) = (k : Int) + 1 by omega] at hj1
        have hcj := hAr.cell (i := k + 1) (by omega)
        have HVj : Hid _ := HV.out (k + 1) (by omega)
        generalize av.getD (k + 1) false = q at *
        cases q with
        | false =>
          go_wp2
          go_roundw
          case rel =>
            refine ⟨k, by omega, rfl, ⟨_, (HST.out _).1, HF.out.next hkn ?_⟩, (HST.out _).2⟩
            rw [HRk.out]
            simp [hc]; intro h; have := HVj.out.2 h; cases this
          case measure => simp [intOf] <;> omega
        | true =>
          go_wp2
          go_roundw
          case rel =>
            refine ⟨k, by omega, rfl, ⟨_, (HST.out _).1, HF.out.next hkn ?_⟩, (HST.out _).2⟩
            rw [HRk.out]
            simp [hc, HVj.out.1 rfl]
          case measure => simp [intOf] <;> omega
      · have hci : ¬ (k : Int) + 1 < (n : Int) := by omega
        go_wp2
        go_roundw
        case rel =>
          refine ⟨k, by omega, rfl, ⟨_, (HST.out _).1, HF.out.next hkn ?_⟩, (HST.out _).2⟩
          rw [HRk.out]
          simp [hc]
        case measure => simp [intOf] <;> omega
set_option maxRecDepth 100000 in
set_option maxHeartbeats 1600000 in
theorem Try.mone8_any (n ga : Nat) (av : List Bool) (A : Nat → Prop) (w : World) (hA : ValAt w ga av) (hl : av.length = n + 1) (hv : ∀ i, i ≤ n → (av.getD i false = true ↔ A i)) (hn : n ≤ 10000) :
    Calls Try.prog 74 #[.int .u8 8, .slice (some ⟨ga, 0, none⟩) (n + 1) (n + 1)] w (ValR n (unV n 8 A) w) := by
  have hmk := Try.makeB (n + 1) (by omega)
  have en : ((n + 1 : Nat) : Int) = (n : Int) + 1 := by omega
  rw [en] at hmk
  have HA : Hid (ValAt w ga av) := hA
  have hga := hA.lt
  have HV : Hid (∀ i, i ≤ n → (av.getD i false = true ↔ A i)) := hv
  have HREC : Hid (∀ i, i ≤ n → ((unV n 8 A) i ↔ n ≤ i + 1 ∨ A (i + 1))) := fun i hi => by
    simp only [unV, if_neg (show ¬ (8 = 6) by decide), if_neg (show ¬ (8 = 7) by decide), if_true]; constructor
    · intro h; by_cases hc : i + 1 < n
      · exact Or.inr (h hc)
      · exact Or.inl (by omega)
    · rintro (h | h) hc
      · omega
      · exact h
  clear hA hv
  generalize (unV n 8 A) = V at *
  have e1 : (n : Int) + 1 - 1 = (n : Int) := by omega
  go_enter Try.func74, Try.ntmps74
  go_wp2
  clear hmk
  go_loopw [7] (fun i wr => ∃ k : Nat, k ≤ n + 1 ∧ i = .int .i64 ((k : Int) - 1) ∧ (∃ bs, Hid (ValAt wr w.heap.size bs) ∧ Hid (FillB n V k bs)) ∧ Hid (Below w.heap.size w wr)) (fun i _ => (intOf i + 1).toNat)
  case atStart => exact ⟨n + 1, Nat.le_refl _, by rw [en, e1], ⟨List.replicate (n + 1) false, ValAt.made w _, by simp, fun i h1 h2 => absurd h1 (by omega)⟩, below_new _ _⟩
  case round =>
    obtain ⟨k1, hk1, rfl, ⟨bs, HB, HF⟩, HW⟩ := hrel
    by_cases hk0 : k1 = 0
    · subst hk0
      have hle : ¬ (0 : Int) ≤ ((0 : Nat) : Int) - 1 := by omega
      go_wp2
      go_ret
      unfold ValR
      exact ⟨_, bs, rfl, HB.out, HF.out.len, fun i hi => HF.out.done i (Nat.zero_le _) hi, HW.out, Nat.le_refl _⟩
    · obtain ⟨k, rfl⟩ : ∃ k, k1 = k + 1 := ⟨k1 - 1, by omega⟩
      have hkn : k ≤ n := by omega
      have em : (((k + 1 : Nat) : Int) - 1) = (k : Int) := by omega
      rw [em]
      have hle : (0 : Int) ≤ (k : Int) := by omega
      have hAr := HA.out.up HW.out
      have hi1 := fun w' => Try.idxB ga (n + 1) k w' (by omega)
      have hi2 := fun w' => Try.idxB w.heap.size (n + 1) k w' (by omega)
      have hca := hAr.cell (i := k) (by omega)
      have hcb := HB.out.cell (i := k) (by rw [HF.out.len]; omega)
      have hzb := HB.out.fz k
      have HST : Hid (∀ b : Bool, ValAt (wr.setCell ⟨w.heap.size, k, none⟩ (.bool b)) w.heap.size (bs.set k b) ∧ Below w.heap.size w (wr.setCell ⟨w.heap.size, k, none⟩ (.bool b))) := fun b => ⟨HB.out.set k b, HW.out.setCell (Nat.le_refl _) _⟩
      have HRk : Hid _ := HREC.out k hkn
      have HVk : Hid _ := HV.out k hkn
      clear em hk0 e1 en
      by_cases hc : k + 1 < n
      · have hci : ¬ (n : Int) ≤ (k : Int) + 1 := by omega
        have hj1 := fun w' => Try.idxB ga (n + 1) (k + 1) w' (by omega)
        rw [show ((k + 1 : Nat) : Int) = (k : Int) + 1 by omega] at hj1
        have hcj := hAr.cell (i := k + 1) (by omega)
        have HVj : Hid _ := HV.out (k + 1) (by omega)
        generalize av.getD (k + 1) false = q at *
        cases q with
        | false =>
          go_wp2
          go_roundw
          case rel =>
            refine ⟨k, by omega, rfl, ⟨_, (HST.out _).1, HF.out.next hkn ?_⟩, (HST.out _).2⟩
            rw [HRk.out]
            simp; exact ⟨by omega, fun h => by have := HVj.out.2 h; cases this⟩
          case measure => simp [intOf] <;> omega
        | true =>
          go_wp2
          go_roundw
          case rel =>
            refine ⟨k, by omega, rfl, ⟨_, (HST.out _).1, HF.out.next hkn ?_⟩, (HST.out _).2⟩
            rw [HRk.out]
            simp [HVj.out.1 rfl]
          case measure => simp [intOf] <;> omega
      · have hci : (n : Int) ≤ (k : Int) + 1 := by omega
        go_wp2
        go_roundw
        case rel =>
          refine ⟨k, by omega, rfl, ⟨_, (HST.out _).1, HF.out.next hkn ?_⟩, (HST.out _).2⟩
          rw [HRk.out]
          simp; exact Or.inl (by omega)
        case measure => simp [intOf] <;> omega
set_option maxRecDepth 100000 in
set_option maxHeartbeats 1600000 in
theorem Try.mone9_any (n ga : Nat) (av : List Bool) (A : Nat → Prop) (w : World) (hA : ValAt w ga av) (hl : av.length = n + 1) (hv : ∀ i, i ≤ n → (av.getD i false = true ↔ A i)) (hn : n ≤ 10000) :
    Calls Try.prog 74 #[.int .u8 9, .slice (some ⟨ga, 0, none⟩) (n + 1) (n + 1)] w (ValR n (unV n 9 A) w) := by
  have hmk := Try.makeB (n + 1) (by omega)
  have en : ((n + 1 : Nat) : Int) = (n : Int) + 1 := by omega
  rw [en] at hmk
  have HA : Hid (ValAt w ga av) := hA
  have hga := hA.lt
  have HV : Hid (∀ i, i ≤ n → (av.getD i false = true ↔ A i)) := hv
  have HREC : Hid (∀ i, i ≤ n → ((unV n 9 A) i ↔ i < n ∧ (A i ∨ unV n 9 A (i + 1)))) := fun i hi => by
    exact fin_rec i
  clear hA hv
  generalize (unV n 9 A) = V at *
  have e1 : (n : Int) + 1 - 1 = (n : Int) := by omega
  go_enter Try.func74, Try.ntmps74
  go_wp2
  clear hmk
  go_loopw [7] (fun i wr => ∃ k : Nat, k ≤ n + 1 ∧ i = .int .i64 ((k : Int) - 1) ∧ (∃ bs, Hid (ValAt wr w.heap.size bs) ∧ Hid (FillB n V k bs)) ∧ Hid (Below w.heap.size w wr)) (fun i _ => (intOf i + 1).toNat)
  case atStart => exact ⟨n + 1, Nat.le_refl _, by rw [en, e1], ⟨List.replicate (n + 1) false, ValAt.made w _, by simp, fun i h1 h2 => absurd h1 (by omega)⟩, below_new _ _⟩
  case round =>
    obtain ⟨k1, hk1, rfl, ⟨bs, HB, HF⟩, HW⟩ := hrel
    by_cases hk0 : k1 = 0
    · subst hk0
      have hle : ¬ (0 : Int) ≤ ((0 : Nat) : Int) - 1 := by omega
      go_wp2
      go_ret
      unfold ValR
      exact ⟨_, bs, rfl, HB.out, HF.out.len, fun i hi => HF.out.done i (Nat.zero_le _) hi, HW.out, Nat.le_refl _⟩
    · obtain ⟨k, rfl⟩ : ∃ k, k1 = k + 1 := ⟨k1 - 1, by omega⟩
      have hkn : k ≤ n := by omega
      have em : (((k + 1 : Nat) : Int) - 1) = (k : Int) := by omega
      rw [em]
      have hle : (0 : Int) ≤ (k : Int) := by omega
      have hAr := HA.out.up HW.out
      have hi1 := fun w' => Try.idxB ga (n + 1) k w' (by omega)
      have hi2 := fun w' => Try.idxB w.heap.size (n + 1) k w' (by omega)
      have hca := hAr.cell (i := k) (by omega)
      have hcb := HB.out.cell (i := k) (by rw [HF.out.len]; omega)
      have hzb := HB.out.fz k
      have HST : Hid (∀ b : Bool, ValAt (wr.setCell ⟨w.heap.size, k, none⟩ (.bool b)) w.heap.size (bs.set k b) ∧ Below w.heap.size w (wr.setCell ⟨w.heap.size, k, none⟩ (.bool b))) := fun b => ⟨HB.out.set k b, HW.out.setCell (Nat.le_refl _) _⟩
      have HRk : Hid _ := HREC.out k hkn
      have HVk : Hid _ := HV.out k hkn
      clear em hk0 e1 en
      by_cases hc : k < n
      · have hci : (k : Int) < (n : Int) := by omega
        have hj1 := fun w' => Try.idxB w.heap.size (n + 1) (k + 1) w' (by omega)
        rw [show ((k + 1 : Nat) : Int) = (k : Int) + 1 by omega] at hj1
        have hcj := HB.out.cell (i := k + 1) (by rw [HF.out.len]; omega)
        have HVj : Hid _ := HF.out.done (k + 1) (Nat.le_refl _) (by omega)
        generalize av.getD k false = q at *
        generalize bs.getD (k + 1) false = r at *
        cases q with
        | false =>
          cases r with
          | false =>
            go_wp2
            go_roundw
            case rel =>
              refine ⟨k, by omega, rfl, ⟨_, (HST.out _).1, HF.out.next hkn ?_⟩, (HST.out _).2⟩
              rw [HRk.out]
              simp; intro _; exact ⟨fun h => (by have := HVk.out.2 h; cases this), fun h => (by have := HVj.out.2 h; cases this)⟩
            case measure => simp [intOf] <;> omega
          | true =>
            go_wp2
            go_roundw
            case rel =>
              refine ⟨k, by omega, rfl, ⟨_, (HST.out _).1, HF.out.next hkn ?_⟩, (HST.out _).2⟩
              rw [HRk.out]
              simp [hc]; exact Or.inr (HVj.out.1 rfl)
            case measure => simp [intOf] <;> omega
        | true =>
          go_wp2
          go_roundw
          case rel =>
            refine ⟨k, by omega, rfl, ⟨_, (HST.out _).1, HF.out.next hkn ?_⟩, (HST.out _).2⟩
            rw [HRk.out]
            simp [hc]; exact Or.inl (HVk.out.1 rfl)
          case measure => simp [intOf] <;> omega
      · have hci : ¬ (k : Int) < (n : Int) := by omega
        go_wp2
        go_roundw
        case rel =>
          refine ⟨k, by omega, rfl, ⟨_, (HST.out _).1, HF.out.next hkn ?_⟩, (HST.out _).2⟩
          rw [HRk.out]
          simp [hc]
        case measure => simp [intOf] <;> omega
set_option maxRecDepth 100000 in
set_option maxHeartbeats 1600000 in
theorem Try.mone10_any (n ga : Nat) (av : List Bool) (A : Nat → Prop) (w : World) (hA : ValAt w ga av) (hl : av.length = n + 1) (hv : ∀ i, i ≤ n → (av.getD i false = true ↔ A i)) (hn : n ≤ 10000) :
    Calls Try.prog 74 #[.int .u8 10, .slice (some ⟨ga, 0, none⟩) (n + 1) (n + 1)] w (ValR n (unV n 10 A) w) := by
  have hmk := Try.makeB (n + 1) (by omega)
  have en : ((n + 1 : Nat) : Int) = (n : Int) + 1 := by omega
  rw [en] at hmk
  have HA : Hid (ValAt w ga av) := hA
  have hga := hA.lt
  have HV : Hid (∀ i, i ≤ n → (av.getD i false = true ↔ A i)) := hv
  have HREC : Hid (∀ i, i ≤ n → ((unV n 10 A) i ↔ i = n ∨ A i ∧ unV n 10 A (i + 1))) := fun i hi => by
    exact glo_rec hi
  clear hA hv
  generalize (unV n 10 A) = V at *
  have e1 : (n : Int) + 1 - 1 = (n : Int) := by omega
  go_enter Try.func74, Try.ntmps74
  go_wp2
  clear hmk
  go_loopw [7] (fun i wr => ∃ k : Nat, k ≤ n + 1 ∧ i = .int .i64 ((k : Int) - 1) ∧ (∃ bs, Hid (ValAt wr w.heap.size bs) ∧ Hid (FillB n V k bs)) ∧ Hid (Below w.heap.size w wr)) (fun i _ => (intOf i + 1).toNat)
  case atStart => exact ⟨n + 1, Nat.le_refl _, by rw [en, e1], ⟨List.replicate (n + 1) false, ValAt.made w _, by simp, fun i h1 h2 => absurd h1 (by omega)⟩, below_new _ _⟩
  case round =>
    obtain ⟨k1, hk1, rfl, ⟨bs, HB, HF⟩, HW⟩ := hrel
    by_cases hk0 : k1 = 0
    · subst hk0
      have hle : ¬ (0 : Int) ≤ ((0 : Nat) : Int) - 1 := by omega
      go_wp2
      go_ret
      unfold ValR
      exact ⟨_, bs, rfl, HB.out, HF.out.len, fun i hi => HF.out.done i (Nat.zero_le _) hi, HW.out, Nat.le_refl _⟩
    · obtain ⟨k, rfl⟩ : ∃ k, k1 = k + 1 := ⟨k1 - 1, by omega⟩
      have hkn : k ≤ n := by omega
      have em : (((k + 1 : Nat) : Int) - 1) = (k : Int) := by omega
      rw [em]
      have hle : (0 : Int) ≤ (k : Int) := by omega
      have hAr := HA.out.up HW.out
      have hi1 := fun w' => Try.idxB ga (n + 1) k w' (by omega)
      have hi2 := fun w' => Try.idxB w.heap.size (n + 1) k w' (by omega)
      have hca := hAr.cell (i := k) (by omega)
      have hcb := HB.out.cell (i := k) (by rw [HF.out.len]; omega)
      have hzb := HB.out.fz k
      have HST : Hid (∀ b : Bool, ValAt (wr.setCell ⟨w.heap.size, k, none⟩ (.bool b)) w.heap.size (bs.set k b) ∧ Below w.heap.size w (wr.setCell ⟨w.heap.size, k, none⟩ (.bool b))) := fun b => ⟨HB.out.set k b, HW.out.setCell (Nat.le_refl _) _⟩
      have HRk : Hid _ := HREC.out k hkn
      have HVk : Hid _ := HV.out k hkn
      clear em hk0 e1 en
      by_cases hc : k = n
      · subst hc
        go_wp2
        go_roundw
        case rel =>
          refine ⟨k, by omega, rfl, ⟨_, (HST.out _).1, HF.out.next hkn ?_⟩, (HST.out _).2⟩
          rw [HRk.out]
          simp
        case measure => simp [intOf] <;> omega
      · have hci : ¬ (k : Int) = (n : Int) := by omega
        have hj1 := fun w' => Try.idxB w.heap.size (n + 1) (k + 1) w' (by omega)
        rw [show ((k + 1 : Nat) : Int) = (k : Int) + 1 by omega] at hj1
        have hcj := HB.out.cell (i := k + 1) (by rw [HF.out.len]; omega)
        have HVj : Hid _ := HF.out.done (k + 1) (Nat.le_refl _) (by omega)
        generalize av.getD k false = q at *
        generalize bs.getD (k + 1) false = r at *
        cases q with
        | false =>
          go_wp2
          go_roundw
          case rel =>
            refine ⟨k, by omega, rfl, ⟨_, (HST.out _).1, HF.out.next hkn ?_⟩, (HST.out _).2⟩
            rw [HRk.out]
            simp [hc, hci]; intro h; have := HVk.out.2 h; cases this
          case measure => simp [intOf] <;> omega
        | true =>
          cases r with
          | false =>
            go_wp2
            go_roundw
            case rel =>
              refine ⟨k, by omega, rfl, ⟨_, (HST.out _).1, HF.out.next hkn ?_⟩, (HST.out _).2⟩
              rw [HRk.out]
              simp [hc, hci]; intro _ h; have := HVj.out.2 h; cases this
            case measure => simp [intOf] <;> omega
          | true =>
            go_wp2
            go_roundw
            case rel =>
              refine ⟨k, by omega, rfl, ⟨_, (HST.out _).1, HF.out.next hkn ?_⟩, (HST.out _).2⟩
              rw [HRk.out]
              simp [hc]; exact ⟨HVk.out.1 rfl, HVj.out.1 rfl⟩
            case measure => simp [intOf] <;> omega
end Go.Proofs.Ytfgaieefejdkbaa
