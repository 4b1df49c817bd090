/- Package mean: the values of formulas of two others. Written by mkm2.py. -/
import Derived.Test.YtfgaieefejdkbaaWMm7
namespace Go.Proofs.Ytfgaieefejdkbaa
open Go.RowKit Go.Maps

theorem unt_rec {n : Nat} {A B : Nat → Prop} {a b : Nat → Nat → Prop} (i : Nat) : binV n 15 (A, a) (B, b) i ↔ i < n ∧ (B i ∨ A i ∧ binV n 15 (A, a) (B, b) (i + 1)) := by
  simp [binV]
  constructor
  · rintro ⟨j, h1, h2, h3, h4⟩
    refine ⟨by omega, ?_⟩
    by_cases e : j = i
    · subst e; exact Or.inl h3
    · exact Or.inr ⟨h4 i (Nat.le_refl _) (by omega), j, by omega, h2, h3, fun k k1 k2 => h4 k (by omega) k2⟩
  · rintro ⟨h, h1 | ⟨h0, j, h1, h2, h3, h4⟩⟩
    · exact ⟨i, Nat.le_refl _, h, h1, fun k k1 k2 => by omega⟩
    · refine ⟨j, by omega, h2, h3, fun k k1 k2 => ?_⟩
      by_cases e : k = i
      · subst e; exact h0
      · exact h4 k (by omega) k2
theorem rel_rec {n : Nat} {A B : Nat → Prop} {a b : Nat → Nat → Prop} {i : Nat} (hi : i ≤ n) : binV n 16 (A, a) (B, b) i ↔ i = n ∨ B i ∧ (A i ∨ binV n 16 (A, a) (B, b) (i + 1)) := by
  simp [binV]
  constructor
  · intro h
    by_cases e : i = n
    · exact Or.inl e
    · refine Or.inr ⟨?_, ?_⟩
      · rcases h i (Nat.le_refl _) (by omega) with h | ⟨k, k1, k2, _⟩
        · exact h
        · omega
      · by_cases hx : A i
        · exact Or.inl hx
        · refine Or.inr fun j j1 j2 => ?_
          rcases h j (by omega) j2 with h | ⟨k, k1, k2, k3⟩
          · exact Or.inl h
          · refine Or.inr ⟨k, ?_, k2, k3⟩
            rcases Nat.lt_or_ge i k with hk | hk
            · omega
            · exact absurd (by have : k = i := by omega
                               subst this; exact k3) hx
  · rintro (rfl | ⟨h1, h2⟩) j j1 j2
    · omega
    · by_cases hj : j = i
      · subst hj; exact Or.inl h1
      · rcases h2 with h2 | h2
        · exact Or.inr ⟨i, Nat.le_refl _, by omega, h2⟩
        · rcases h2 j (by omega) j2 with h | ⟨k, k1, k2, k3⟩
          · exact Or.inl h
          · exact Or.inr ⟨k, by omega, k2, k3⟩
set_option maxRecDepth 100000 in
set_option maxHeartbeats 1600000 in
theorem Try.mtwo11_any (n ga gb : Nat) (av bv : List Bool) (A B : Nat → Prop) (w : World) (hA : ValAt w ga av) (hB : ValAt w gb bv) (hl : av.length = n + 1) (hl2 : bv.length = n + 1) (hv : ∀ i, i ≤ n → (av.getD i false = true ↔ A i)) (hv2 : ∀ i, i ≤ n → (bv.getD i false = true ↔ B i)) (hn : n ≤ 10000) :
    Calls Try.prog 82 #[.int .u8 11, .slice (some ⟨ga, 0, none⟩) (n + 1) (n + 1), .slice (some ⟨gb, 0, none⟩) (n + 1) (n + 1)] w (ValR n (binV n 11 (A, fun _ _ => False) (B, fun _ _ => False)) w) := by
  have hmk := Try.makeB (n + 1) (by omega)
  have en : ((n + 1 : Nat) : Int) = (n : Int) + 1 := by omega
  rw [en] at hmk
  have HA : Hid (ValAt w ga av) := hA
  have HAB : Hid (ValAt w gb bv) := hB
  have HV : Hid (∀ i, i ≤ n → (av.getD i false = true ↔ A i)) := hv
  have HVB : Hid (∀ i, i ≤ n → (bv.getD i false = true ↔ B i)) := hv2
  have HREC : Hid (∀ i, i ≤ n → ((binV n 11 (A, fun _ _ => False) (B, fun _ _ => False)) i ↔ A i ∧ B i)) := fun i hi => by
    simp [binV]
  clear hA hv hB hv2
  generalize (binV n 11 (A, fun _ _ => False) (B, fun _ _ => False)) = V at *
  have e1 : (n : Int) + 1 - 1 = (n : Int) := by omega
  go_enter Try.func82, Try.ntmps82
  go_wp2
  clear hmk
  go_loopw [9] (fun i wr => ∃ k : Nat, k ≤ n + 1 ∧ i = .int .i64 ((k : Int) - 1) ∧ (∃ bs, Hid (ValAt wr w.heap.size bs) ∧ Hid (FillB n V k bs)) ∧ Hid (Below w.heap.size w wr)) (fun i _ => (intOf i + 1).toNat)
  case atStart => exact ⟨n + 1, Nat.le_refl _, by rw [en, e1], ⟨List.replicate (n + 1) false, ValAt.made w _, by simp, fun i h1 h2 => absurd h1 (by omega)⟩, below_new _ _⟩
  case round =>
    obtain ⟨k1, hk1, rfl, ⟨bs, HB, HF⟩, HW⟩ := hrel
    by_cases hk0 : k1 = 0
    · subst hk0
      have hle : ¬ (0 : Int) ≤ ((0 : Nat) : Int) - 1 := by omega
      go_wp2
      go_ret
      unfold ValR
      exact ⟨_, bs, rfl, HB.out, HF.out.len, fun i hi => HF.out.done i (Nat.zero_le _) hi, HW.out, Nat.le_refl _⟩
    · obtain ⟨k, rfl⟩ : ∃ k, k1 = k + 1 := ⟨k1 - 1, by omega⟩
      have hkn : k ≤ n := by omega
      have em : (((k + 1 : Nat) : Int) - 1) = (k : Int) := by omega
      rw [em]
      have hle : (0 : Int) ≤ (k : Int) := by omega
      have hAr := HA.out.up HW.out
      have hBr := HAB.out.up HW.out
      have hi1 := fun w' => Try.idxB ga (n + 1) k w' (by omega)
      have hi3 := fun w' => Try.idxB gb (n + 1) k w' (by omega)
      have hi2 := fun w' => Try.idxB w.heap.size (n + 1) k w' (by omega)
      have hca := hAr.cell (i := k) (by omega)
      have hcc := hBr.cell (i := k) (by omega)
      have hcb := HB.out.cell (i := k) (by rw [HF.out.len]; omega)
      have hzb := HB.out.fz k
      have HST : Hid (∀ b : Bool, ValAt (wr.setCell ⟨w.heap.size, k, none⟩ (.bool b)) w.heap.size (bs.set k b) ∧ Below w.heap.size w (wr.setCell ⟨w.heap.size, k, none⟩ (.bool b))) := fun b => ⟨HB.out.set k b, HW.out.setCell (Nat.le_refl _) _⟩
      have HRk : Hid _ := HREC.out k hkn
      have HVk : Hid _ := HV.out k hkn
      have HVc : Hid _ := HVB.out k hkn
      clear em hk0 e1 en hAr hBr
      generalize av.getD k false = q at *
      generalize bv.getD k false = p at *
      cases q <;> cases p
      all_goals
        go_wp2
        go_roundw
        case rel =>
          refine ⟨k, by omega, rfl, ⟨_, (HST.out _).1, HF.out.next hkn ?_⟩, (HST.out _).2⟩
          rw [HRk.out]
          have h1 := HVk.out; have h2 := HVc.out; simp at h1 h2; simp [h1, h2]
        case measure => simp [intOf] <;> omega
set_option maxRecDepth 100000 in
set_option maxHeartbeats 1600000 in
theorem Try.mtwo12_any (n ga gb : Nat) (av bv : List Bool) (A B : Nat → Prop) (w : World) (hA : ValAt w ga av) (hB : ValAt w gb bv) (hl : av.length = n + 1) (hl2 : bv.length = n + 1) (hv : ∀ i, i ≤ n → (av.getD i false = true ↔ A i)) (hv2 : ∀ i, i ≤ n → (bv.getD i false = true ↔ B i)) (hn : n ≤ 10000) :
    Calls Try.prog 82 #[.int .u8 12, .slice (some ⟨ga, 0, none⟩) (n + 1) (n + 1), .slice (some ⟨gb, 0, none⟩) (n + 1) (n + 1)] w (ValR n (binV n 12 (A, fun _ _ => False) (B, fun _ _ => False)) w) := by
  have hmk := Try.makeB (n + 1) (by omega)
  have en : ((n + 1 : Nat) : Int) = (n : Int) + 1 := by omega
  rw [en] at hmk
  have HA : Hid (ValAt w ga av) := hA
  have HAB : Hid (ValAt w gb bv) := hB
  have HV : Hid (∀ i, i ≤ n → (av.getD i false = true ↔ A i)) := hv
  have HVB : Hid (∀ i, i ≤ n → (bv.getD i false = true ↔ B i)) := hv2
  have HREC : Hid (∀ i, i ≤ n → ((binV n 12 (A, fun _ _ => False) (B, fun _ _ => False)) i ↔ A i ∨ B i)) := fun i hi => by
    simp [binV]
  clear hA hv hB hv2
  generalize (binV n 12 (A, fun _ _ => False) (B, fun _ _ => False)) = V at *
  have e1 : (n : Int) + 1 - 1 = (n : Int) := by omega
  go_enter Try.func82, Try.ntmps82
  go_wp2
  clear hmk
  go_loopw [9] (fun i wr => ∃ k : Nat, k ≤ n + 1 ∧ i = .int .i64 ((k : Int) - 1) ∧ (∃ bs, Hid (ValAt wr w.heap.size bs) ∧ Hid (FillB n V k bs)) ∧ Hid (Below w.heap.size w wr)) (fun i _ => (intOf i + 1).toNat)
  case atStart => exact ⟨n + 1, Nat.le_refl _, by rw [en, e1], ⟨List.replicate (n + 1) false, ValAt.made w _, by simp, fun i h1 h2 => absurd h1 (by omega)⟩, below_new _ _⟩
  case round =>
    obtain ⟨k1, hk1, rfl, ⟨bs, HB, HF⟩, HW⟩ := hrel
    by_cases hk0 : k1 = 0
    · subst hk0
      have hle : ¬ (0 : Int) ≤ ((0 : Nat) : Int) - 1 := by omega
      go_wp2
      go_ret
      unfold ValR
      exact ⟨_, bs, rfl, HB.out, HF.out.len, fun i hi => HF.out.done i (Nat.zero_le _) hi, HW.out, Nat.le_refl _⟩
    · obtain ⟨k, rfl⟩ : ∃ k, k1 = k + 1 := ⟨k1 - 1, by omega⟩
      have hkn : k ≤ n := by omega
      have em : (((k + 1 : Nat) : Int) - 1) = (k : Int) := by omega
      rw [em]
      have hle : (0 : Int) ≤ (k : Int) := by omega
      have hAr := HA.out.up HW.out
      have hBr := HAB.out.up HW.out
      have hi1 := fun w' => Try.idxB ga (n + 1) k w' (by omega)
      have hi3 := fun w' => Try.idxB gb (n + 1) k w' (by omega)
      have hi2 := fun w' => Try.idxB w.heap.size (n + 1) k w' (by omega)
      have hca := hAr.cell (i := k) (by omega)
      have hcc := hBr.cell (i := k) (by omega)
      have hcb := HB.out.cell (i := k) (by rw [HF.out.len]; omega)
      have hzb := HB.out.fz k
      have HST : Hid (∀ b : Bool, ValAt (wr.setCell ⟨w.heap.size, k, none⟩ (.bool b)) w.heap.size (bs.set k b) ∧ Below w.heap.size w (wr.setCell ⟨w.heap.size, k, none⟩ (.bool b))) := fun b => ⟨HB.out.set k b, HW.out.setCell (Nat.le_refl _) _⟩
      have HRk : Hid _ := HREC.out k hkn
      have HVk : Hid _ := HV.out k hkn
      have HVc : Hid _ := HVB.out k hkn
      clear em hk0 e1 en hAr hBr
      generalize av.getD k false = q at *
      generalize bv.getD k false = p at *
      cases q <;> cases p
      all_goals
        go_wp2
        go_roundw
        case rel =>
          refine ⟨k, by omega, rfl, ⟨_, (HST.out _).1, HF.out.next hkn ?_⟩, (HST.out _).2⟩
          rw [HRk.out]
          have h1 := HVk.out; have h2 := HVc.out; simp at h1 h2; simp [h1, h2]
        case measure => simp [intOf] <;> omega
set_option maxRecDepth 100000 in
set_option maxHeartbeats 1600000 in
theorem Try.mtwo13_any (n ga gb : Nat) (av bv : List Bool) (A B : Nat → Prop) (w : World) (hA : ValAt w ga av) (hB : ValAt w gb bv) (hl : av.length = n + 1) (hl2 : bv.length = n + 1) (hv : ∀ i, i ≤ n → (av.getD i false = true ↔ A i)) (hv2 : ∀ i, i ≤ n → (bv.getD i false = true ↔ B i)) (hn : n ≤ 10000) :
    Calls Try.prog 82 #[.int .u8 13, .slice (some ⟨ga, 0, none⟩) (n + 1) (n + 1), .slice (some ⟨gb, 0, none⟩) (n + 1) (n + 1)] w (ValR n (binV n 13 (A, fun _ _ => False) (B, fun _ _ => False)) w) := by
  have hmk := Try.makeB (n + 1) (by omega)
  have en : ((n + 1 : Nat) : Int) = (n : Int) + 1 := by omega
  rw [en] at hmk
  have HA : Hid (ValAt w ga av) := hA
  have HAB : Hid (ValAt w gb bv) := hB
  have HV : Hid (∀ i, i ≤ n → (av.getD i false = true ↔ A i)) := hv
  have HVB : Hid (∀ i, i ≤ n → (bv.getD i false = true ↔ B i)) := hv2
  have HREC : Hid (∀ i, i ≤ n → ((binV n 13 (A, fun _ _ => False) (B, fun _ _ => False)) i ↔ ¬ A i ∨ B i)) := fun i hi => by
    simp only [binV]; simp; exact ⟨fun h => by by_cases hx : A i; exact Or.inr (h hx); exact Or.inl hx, fun h hx => by rcases h with h | h; exact absurd hx h; exact h⟩
  clear hA hv hB hv2
  generalize (binV n 13 (A, fun _ _ => False) (B, fun _ _ => False)) = V at *
  have e1 : (n : Int) + 1 - 1 = (n : Int) := by omega
  go_enter Try.func82, Try.ntmps82
  go_wp2
  clear hmk
  go_loopw [9] (fun i wr => ∃ k : Nat, k ≤ n + 1 ∧ i = .int .i64 ((k : Int) - 1) ∧ (∃ bs, Hid (ValAt wr w.heap.size bs) ∧ Hid (FillB n V k bs)) ∧ Hid (Below w.heap.size w wr)) (fun i _ => (intOf i + 1).toNat)
  case atStart => exact ⟨n + 1, Nat.le_refl _, by rw [en, e1], ⟨List.replicate (n + 1) false, ValAt.made w _, by simp, fun i h1 h2 => absurd h1 (by omega)⟩, below_new _ _⟩
  case round =>
    obtain ⟨k1, hk1, rfl, ⟨bs, HB, HF⟩, HW⟩ := hrel
    by_cases hk0 : k1 = 0
    · subst hk0
      have hle : ¬ (0 : Int) ≤ ((0 : Nat) : Int) - 1 := by omega
      go_wp2
      go_ret
      unfold ValR
      exact ⟨_, bs, rfl, HB.out, HF.out.len, fun i hi => HF.out.done i (Nat.zero_le _) hi, HW.out, Nat.le_refl _⟩
    · obtain ⟨k, rfl⟩ : ∃ k, k1 = k + 1 := ⟨k1 - 1, by omega⟩
      have hkn : k ≤ n := by omega
      have em : (((k + 1 : Nat) : Int) - 1) = (k : Int) := by omega
      rw [em]
      have hle : (0 : Int) ≤ (k : Int) := by omega
      have hAr := HA.out.up HW.out
      have hBr := HAB.out.up HW.out
      have hi1 := fun w' => Try.idxB ga (n + 1) k w' (by omega)
      have hi3 := fun w' => Try.idxB gb (n + 1) k w' (by omega)
      have hi2 := fun w' => Try.idxB w.heap.size (n + 1) k w' (by omega)
      have hca := hAr.cell (i := k) (by omega)
      have hcc := hBr.cell (i := k) (by omega)
      have hcb := HB.out.cell (i := k) (by rw [HF.out.len]; omega)
      have hzb := HB.out.fz k
      have HST : Hid (∀ b : Bool, ValAt (wr.setCell ⟨w.heap.size, k, none⟩ (.bool b)) w.heap.size (bs.set k b) ∧ Below w.heap.size w (wr.setCell ⟨w.heap.size, k, none⟩ (.bool b))) := fun b => ⟨HB.out.set k b, HW.out.setCell (Nat.le_refl _) _⟩
      have HRk : Hid _ := HREC.out k hkn
      have HVk : Hid _ := HV.out k hkn
      have HVc : Hid _ := HVB.out k hkn
      clear em hk0 e1 en hAr hBr
      generalize av.getD k false = q at *
      generalize bv.getD k false = p at *
      cases q <;> cases p
      all_goals
        go_wp2
        go_roundw
        case rel =>
          refine ⟨k, by omega, rfl, ⟨_, (HST.out _).1, HF.out.next hkn ?_⟩, (HST.out _).2⟩
          rw [HRk.out]
          have h1 := HVk.out; have h2 := HVc.out; simp at h1 h2; simp [h1, h2]
        case measure => simp [intOf] <;> omega
set_option maxRecDepth 100000 in
set_option maxHeartbeats 1600000 in
theorem Try.mtwo14_any (n ga gb : Nat) (av bv : List Bool) (A B : Nat → Prop) (w : World) (hA : ValAt w ga av) (hB : ValAt w gb bv) (hl : av.length = n + 1) (hl2 : bv.length = n + 1) (hv : ∀ i, i ≤ n → (av.getD i false = true ↔ A i)) (hv2 : ∀ i, i ≤ n → (bv.getD i false = true ↔ B i)) (hn : n ≤ 10000) :
    Calls Try.prog 82 #[.int .u8 14, .slice (some ⟨ga, 0, none⟩) (n + 1) (n + 1), .slice (some ⟨gb, 0, none⟩) (n + 1) (n + 1)] w (ValR n (binV n 14 (A, fun _ _ => False) (B, fun _ _ => False)) w) := by
  have hmk := Try.makeB (n + 1) (by omega)
  have en : ((n + 1 : Nat) : Int) = (n : Int) + 1 := by omega
  rw [en] at hmk
  have HA : Hid (ValAt w ga av) := hA
  have HAB : Hid (ValAt w gb bv) := hB
  have HV : Hid (∀ i, i ≤ n → (av.getD i false = true ↔ A i)) := hv
  have HVB : Hid (∀ i, i ≤ n → (bv.getD i false = true ↔ B i)) := hv2
  have HREC : Hid (∀ i, i ≤ n → ((binV n 14 (A, fun _ _ => False) (B, fun _ _ => False)) i ↔ (A i ↔ B i))) := fun i hi => by
    simp [binV]
  clear hA hv hB hv2
  generalize (binV n 14 (A, fun _ _ => False) (B, fun _ _ => False)) = V at *
  have e1 : (n : Int) + 1 - 1 = (n : Int) := by omega
  go_enter Try.func82, Try.ntmps82
  go_wp2
  clear hmk
  go_loopw [9] (fun i wr => ∃ k : Nat, k ≤ n + 1 ∧ i = .int .i64 ((k : Int) - 1) ∧ (∃ bs, Hid (ValAt wr w.heap.size bs) ∧ Hid (FillB n V k bs)) ∧ Hid (Below w.heap.size w wr)) (fun i _ => (intOf i + 1).toNat)
  case atStart => exact ⟨n + 1, Nat.le_refl _, by rw [en, e1], ⟨List.replicate (n + 1) false, ValAt.made w _, by simp, fun i h1 h2 => absurd h1 (by omega)⟩, below_new _ _⟩
  case round =>
    obtain ⟨k1, hk1, rfl, ⟨bs, HB, HF⟩, HW⟩ := hrel
    by_cases hk0 : k1 = 0
    · subst hk0
      have hle : ¬ (0 : Int) ≤ ((0 : Nat) : Int) - 1 := by omega
      go_wp2
      go_ret
      unfold ValR
      exact ⟨_, bs, rfl, HB.out, HF.out.len, fun i hi => HF.out.done i (Nat.zero_le _) hi, HW.out, Nat.le_refl _⟩
    · obtain ⟨k, rfl⟩ : ∃ k, k1 = k + 1 := ⟨k1 - 1, by omega⟩
      have hkn : k ≤ n := by omega
      have em : (((k + 1 : Nat) : Int) - 1) = (k : Int) := by omega
      rw [em]
      have hle : (0 : Int) ≤ (k : Int) := by omega
      have hAr := HA.out.up HW.out
      have hBr := HAB.out.up HW.out
      have hi1 := fun w' => Try.idxB ga (n + 1) k w' (by omega)
      have hi3 := fun w' => Try.idxB gb (n + 1) k w' (by omega)
      have hi2 := fun w' => Try.idxB w.heap.size (n + 1) k w' (by omega)
      have hca := hAr.cell (i := k) (by omega)
      have hcc := hBr.cell (i := k) (by omega)
      have hcb := HB.out.cell (i := k) (by rw [HF.out.len]; omega)
      have hzb := HB.out.fz k
      have HST : Hid (∀ b : Bool, ValAt (wr.setCell ⟨w.heap.size, k, none⟩ (.bool b)) w.heap.size (bs.set k b) ∧ Below w.heap.size w (wr.setCell ⟨w.heap.size, k, none⟩ (.bool b))) := fun b => ⟨HB.out.set k b, HW.out.setCell (Nat.le_refl _) _⟩
      have HRk : Hid _ := HREC.out k hkn
      have HVk : Hid _ := HV.out k hkn
      have HVc : Hid _ := HVB.out k hkn
      clear em hk0 e1 en hAr hBr
      generalize av.getD k false = q at *
      generalize bv.getD k false = p at *
      cases q <;> cases p
      all_goals
        go_wp2
        go_region
        go_wp2
        go_roundw
        case rel =>
          refine ⟨k, by omega, rfl, ⟨_, (HST.out _).1, HF.out.next hkn ?_⟩, Below.drew (HST.out _).2⟩
          rw [HRk.out]
          have h1 := HVk.out; have h2 := HVc.out; simp at h1 h2; simp [h1, h2]
        case measure => simp [intOf] <;> omega
set_option maxRecDepth 100000 in
set_option maxHeartbeats 1600000 in
theorem Try.mtwo15_any (n ga gb : Nat) (av bv : List Bool) (A B : Nat → Prop) (w : World) (hA : ValAt w ga av) (hB : ValAt w gb bv) (hl : av.length = n + 1) (hl2 : bv.length = n + 1) (hv : ∀ i, i ≤ n → (av.getD i false = true ↔ A i)) (hv2 : ∀ i, i ≤ n → (bv.getD i false = true ↔ B i)) (hn : n ≤ 10000) :
    Calls Try.prog 82 #[.int .u8 15, .slice (some ⟨ga, 0, none⟩) (n + 1) (n + 1), .slice (some ⟨gb, 0, none⟩) (n + 1) (n + 1)] w (ValR n (binV n 15 (A, fun _ _ => False) (B, fun _ _ => False)) w) := by
  have hmk := Try.makeB (n + 1) (by omega)
  have en : ((n + 1 : Nat) : Int) = (n : Int) + 1 := by omega
  rw [en] at hmk
  have HA : Hid (ValAt w ga av) := hA
  have HAB : Hid (ValAt w gb bv) := hB
  have HV : Hid (∀ i, i ≤ n → (av.getD i false = true ↔ A i)) := hv
  have HVB : Hid (∀ i, i ≤ n → (bv.getD i false = true ↔ B i)) := hv2
  have HREC : Hid (∀ i, i ≤ n → ((binV n 15 (A, fun _ _ => False) (B, fun _ _ => False)) i ↔ i < n ∧ (B i ∨ A i ∧ (binV n 15 (A, fun _ _ => False) (B, fun _ _ => False)) (i + 1)))) := fun i hi => by
    exact unt_rec i
  clear hA hv hB hv2
  generalize (binV n 15 (A, fun _ _ => False) (B, fun _ _ => False)) = V at *
  have e1 : (n : Int) + 1 - 1 = (n : Int) := by omega
  go_enter Try.func82, Try.ntmps82
  go_wp2
  clear hmk
  go_loopw [9] (fun i wr => ∃ k : Nat, k ≤ n + 1 ∧ i = .int .i64 ((k : Int) - 1) ∧ (∃ bs, Hid (ValAt wr w.heap.size bs) ∧ Hid (FillB n V k bs)) ∧ Hid (Below w.heap.size w wr)) (fun i _ => (intOf i + 1).toNat)
  case atStart => exact ⟨n + 1, Nat.le_refl _, by rw [en, e1], ⟨List.replicate (n + 1) false, ValAt.made w _, by simp, fun i h1 h2 => absurd h1 (by omega)⟩, below_new _ _⟩
  case round =>
    obtain ⟨k1, hk1, rfl, ⟨bs, HB, HF⟩, HW⟩ := hrel
    by_cases hk0 : k1 = 0
    · subst hk0
      have hle : ¬ (0 : Int) ≤ ((0 : Nat) : Int) - 1 := by omega
      go_wp2
      go_ret
      unfold ValR
      exact ⟨_, bs, rfl, HB.out, HF.out.len, fun i hi => HF.out.done i (Nat.zero_le _) hi, HW.out, Nat.le_refl _⟩
    · obtain ⟨k, rfl⟩ : ∃ k, k1 = k + 1 := ⟨k1 - 1, by omega⟩
      have hkn : k ≤ n := by omega
      have em : (((k + 1 : Nat) : Int) - 1) = (k : Int) := by omega
      rw [em]
      have hle : (0 : Int) ≤ (k : Int) := by omega
      have hAr := HA.out.up HW.out
      have hBr := HAB.out.up HW.out
      have hi1 := fun w' => Try.idxB ga (n + 1) k w' (by omega)
      have hi3 := fun w' => Try.idxB gb (n + 1) k w' (by omega)
      have hi2 := fun w' => Try.idxB w.heap.size (n + 1) k w' (by omega)
      have hca := hAr.cell (i := k) (by omega)
      have hcc := hBr.cell (i := k) (by omega)
      have hcb := HB.out.cell (i := k) (by rw [HF.out.len]; omega)
      have hzb := HB.out.fz k
      have HST : Hid (∀ b : Bool, ValAt (wr.setCell ⟨w.heap.size, k, none⟩ (.bool b)) w.heap.size (bs.set k b) ∧ Below w.heap.size w (wr.setCell ⟨w.heap.size, k, none⟩ (.bool b))) := fun b => ⟨HB.out.set k b, HW.out.setCell (Nat.le_refl _) _⟩
      have HRk : Hid _ := HREC.out k hkn
      have HVk : Hid _ := HV.out k hkn
      have HVc : Hid _ := HVB.out k hkn
      clear em hk0 e1 en hAr hBr
      generalize av.getD k false = q at *
      generalize bv.getD k false = p at *
      by_cases hc : k < n
      · have hci : (k : Int) < (n : Int) := by omega
        have hj1 := fun w' => Try.idxB w.heap.size (n + 1) (k + 1) w' (by omega)
        rw [show ((k + 1 : Nat) : Int) = (k : Int) + 1 by omega] at hj1
        have hcj := HB.out.cell (i := k + 1) (by rw [HF.out.len]; omega)
        have HVj : Hid _ := HF.out.done (k + 1) (Nat.le_refl _) (by omega)
        generalize bs.getD (k + 1) false = r at *
        cases q <;> cases p <;> cases r
        all_goals
          go_wp2
          go_roundw
          case rel =>
            refine ⟨k, by omega, rfl, ⟨_, (HST.out _).1, HF.out.next hkn ?_⟩, (HST.out _).2⟩
            rw [HRk.out]
            have h1 := HVk.out; have h2 := HVc.out; have h3 := HVj.out; simp at h1 h2 h3; simp [h1, h2, h3, hc]
          case measure => simp [intOf] <;> omega
      · have hci : ¬ (k : Int) < (n : Int) := by omega
        go_wp2
        go_roundw
        case rel =>
          refine ⟨k, by omega, rfl, ⟨_, (HST.out _).1, HF.out.next hkn ?_⟩, (HST.out _).2⟩
          rw [HRk.out]
          simp [hc]
        case measure => simp [intOf] <;> omega
set_option maxRecDepth 100000 in
set_option maxHeartbeats 1600000 in
theorem Try.mtwo16_any (n ga gb : Nat) (av bv : List Bool) (A B : Nat → Prop) (w : World) (hA : ValAt w ga av) (hB : ValAt w gb bv) (hl : av.length = n + 1) (hl2 : bv.length = n + 1) (hv : ∀ i, i ≤ n → (av.getD i false = true ↔ A i)) (hv2 : ∀ i, i ≤ n → (bv.getD i false = true ↔ B i)) (hn : n ≤ 10000) :
    Calls Try.prog 82 #[.int .u8 16, .slice (some ⟨ga, 0, none⟩) (n + 1) (n + 1), .slice (some ⟨gb, 0, none⟩) (n + 1) (n + 1)] w (ValR n (binV n 16 (A, fun _ _ => False) (B, fun _ _ => False)) w) := by
  have hmk := Try.makeB (n + 1) (by omega)
  have en : ((n + 1 : Nat) : Int) = (n : Int) + 1 := by omega
  rw [en] at hmk
  have HA : Hid (ValAt w ga av) := hA
  have HAB : Hid (ValAt w gb bv) := hB
  have HV : Hid (∀ i, i ≤ n → (av.getD i false = true ↔ A i)) := hv
  have HVB : Hid (∀ i, i ≤ n → (bv.getD i false = true ↔ B i)) := hv2
  have HREC : Hid (∀ i, i ≤ n → ((binV n 16 (A, fun _ _ => False) (B, fun _ _ => False)) i ↔ i = n ∨ B i ∧ (A i ∨ (binV n 16 (A, fun _ _ => False) (B, fun _ _ => False)) (i + 1)))) := fun i hi => by
    exact rel_rec hi
  clear hA hv hB hv2
  generalize (binV n 16 (A, fun _ _ => False) (B, fun _ _ => False)) = V at *
  have e1 : (n : Int) + 1 - 1 = (n : Int) := by omega
  go_enter Try.func82, Try.ntmps82
  go_wp2
  clear hmk
  go_loopw [9] (fun i wr => ∃ k : Nat, k ≤ n + 1 ∧ i = .int .i64 ((k : Int) - 1) ∧ (∃ bs, Hid (ValAt wr w.heap.size bs) ∧ Hid (FillB n V k bs)) ∧ Hid (Below w.heap.size w wr)) (fun i _ => (intOf i + 1).toNat)
  case atStart => exact ⟨n + 1, Nat.le_refl _, by rw [en, e1], ⟨List.replicate (n + 1) false, ValAt.made w _, by simp, fun i h1 h2 => absurd h1 (by omega)⟩, below_new _ _⟩
  case round =>
    obtain ⟨k1, hk1, rfl, ⟨bs, HB, HF⟩, HW⟩ := hrel
    by_cases hk0 : k1 = 0
    · subst hk0
      have hle : ¬ (0 : Int) ≤ ((0 : Nat) : Int) - 1 := by omega
      go_wp2
      go_ret
      unfold ValR
      exact ⟨_, bs, rfl, HB.out, HF.out.len, fun i hi => HF.out.done i (Nat.zero_le _) hi, HW.out, Nat.le_refl _⟩
    · obtain ⟨k, rfl⟩ : ∃ k, k1 = k + 1 := ⟨k1 - 1, by omega⟩
      have hkn : k ≤ n := by omega
      have em : (((k + 1 : Nat) : Int) - 1) = (k : Int) := by omega
      rw [em]
      have hle : (0 : Int) ≤ (k : Int) := by omega
      have hAr := HA.out.up HW.out
      have hBr := HAB.out.up HW.out
      have hi1 := fun w' => Try.idxB ga (n + 1) k w' (by omega)
      have hi3 := fun w' => Try.idxB gb (n + 1) k w' (by omega)
      have hi2 := fun w' => Try.idxB w.heap.size (n + 1) k w' (by omega)
      have hca := hAr.cell (i := k) (by omega)
      have hcc := hBr.cell (i := k) (by omega)
      have hcb := HB.out.cell (i := k) (by rw [HF.out.len]; omega)
      have hzb := HB.out.fz k
      have HST : Hid (∀ b : Bool, ValAt (wr.setCell ⟨w.heap.size, k, none⟩ (.bool b)) w.heap.size (bs.set k b) ∧ Below w.heap.size w (wr.setCell ⟨w.heap.size, k, none⟩ (.bool b))) := fun b => ⟨HB.out.set k b, HW.out.setCell (Nat.le_refl _) _⟩
      have HRk : Hid _ := HREC.out k hkn
      have HVk : Hid _ := HV.out k hkn
      have HVc : Hid _ := HVB.out k hkn
      clear em hk0 e1 en hAr hBr
      generalize av.getD k false = q at *
      generalize bv.getD k false = p at *
      by_cases hc : k = n
      · subst hc
        go_wp2
        go_roundw
        case rel =>
          refine ⟨k, by omega, rfl, ⟨_, (HST.out _).1, HF.out.next hkn ?_⟩, (HST.out _).2⟩
          rw [HRk.out]
          simp
        case measure => simp [intOf] <;> omega
      · have hci : ¬ (k : Int) = (n : Int) := by omega
        have hj1 := fun w' => Try.idxB w.heap.size (n + 1) (k + 1) w' (by omega)
        rw [show ((k + 1 : Nat) : Int) = (k : Int) + 1 by omega] at hj1
        have hcj := HB.out.cell (i := k + 1) (by rw [HF.out.len]; omega)
        have HVj : Hid _ := HF.out.done (k + 1) (Nat.le_refl _) (by omega)
        generalize bs.getD (k + 1) false = r at *
        cases q <;> cases p <;> cases r
        all_goals
          go_wp2
          go_roundw
          case rel =>
            refine ⟨k, by omega, rfl, ⟨_, (HST.out _).1, HF.out.next hkn ?_⟩, (HST.out _).2⟩
            rw [HRk.out]
            have h1 := HVk.out; have h2 := HVc.out; have h3 := HVj.out; simp at h1 h2 h3; simp [h1, h2, h3, hc, hci]
          case measure => simp [intOf] <;> omega
end Go.Proofs.Ytfgaieefejdkbaa
