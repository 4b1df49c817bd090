/- The document's Cover. -/
import Derived.Test.YtnaalbcbmhpfjaaWCubR7
import Derived.Test.YtnaalbcbmhpfjaaWLCover
namespace Go.Proofs.Ytnaalbcbmhpfjaa
open Go.RowKit Go.Maps

set_option maxRecDepth 100000 in
set_option maxHeartbeats 1000000 in
theorem Try.rCover_any (n : Int) (ad : Option Addr) (len cap : Nat) (zs : List Int) (w : World) (hS : IntSl Try.prog 36 .u8 w ad len cap zs) (hz : ∀ z ∈ zs, 0 ≤ z ∧ z < 256) :
    Calls Try.prog 27 #[.int .i64 n, .slice ad len cap] w fun e w' => CoverR 24 n zs w e w' ∧ Below w.heap.size w w' := by
  by_cases hn0 : 0 ≤ n
  · by_cases hn8 : n ≤ 8
    · have hmk := Try.makeBool
      obtain ⟨N, rfl⟩ := Int.eq_ofNat_of_zero_le hn0
      have hN : N ≤ 8 := by omega
      have hp := powN_bd (n := (N : Int)) (by omega) (by omega)
      have hpw := powN_wrap (n := (N : Int)) (by omega) (by omega)
      have HP : Hid (powN (N : Int) = 2 ^ N) := rfl
      have hb0 := hS.bd
      have hb1 := hS.hcap
      unfold maxLen at hb0
      have hl0 := hS.hlen
      have hR0 := zb_new w 4
      rw [← bsTo_zero zs] at hR0
      have hbe0 := below_new w (.cells zb256 4)
      have hidx := fun (k : Nat) (w : World) (h : k < len) => hS.idx len k w h (Nat.le_refl _)
      have HRb : Hid (fitsAll N zs ≠ true → ∀ e w', e = .returned (.tuple #[.slice none 0 0, .int .i64 2]) → CoverR 24 N zs w e w') := fun hf e w' h => Or.inr ⟨fun h2 => hf h2.1, h⟩
      have HRg : Hid (fitsAll N zs = true → ∀ e w', (∃ v, e = .returned (.tuple #[v, .int .i64 0]) ∧ w'.ownsRow w.heap.size 24 2 v (coverV N zs).length (encC (coverV N zs))) → CoverR 24 N zs w e w') := fun hf e w' h => Or.inl ⟨hf, ⟨hn0, hn8⟩, h⟩
      generalize powN (N : Int) = M at *
      have hpw2 : wrap64 (2 ^ N) = (M : Int) := hpw
      clear hpw
      go_enter Try.func27, Try.ntmps27
      go_wp2
      clear hmk
      go_loopw [7] (fun i wr => ∃ k : Nat, k ≤ len ∧ i = .int .i64 k ∧ Hid (fitsTo N zs k) ∧ BRow wr w.heap.size 4 (bsTo zs k) ∧ Below w.heap.size w wr) (fun i _ => len - (intOf i).toNat)
      case atStart => exact ⟨0, Nat.zero_le _, rfl, fitsTo_zero _ _, hR0, hbe0⟩
      case round =>
        obtain ⟨k, hk, rfl, HF, hR, hbw⟩ := hrel
        clear hR0 hbe0
        by_cases hlt : k < len
        · have hck := (hS.up hbw).cell k hlt
          have HCK : Hid (∀ w' : World, Below w.heap.size w w' → w'.cell? (adOf ad k) = some (.int .u8 (zs.getD k 0))) := fun w' h => (hS.up h).cell k hlt
          have hzk := getD_val hz (show k < zs.length by omega)
          have HS : Hid _ := bsTo_succ (zs := zs) (k := k) (by omega)
          have HFs : Hid (fitsB N (zs.getD k 0) = true → fitsTo N zs (k + 1)) := fun h => fitsTo_succ (by omega) HF.out h
          have HFb : Hid (fitsB N (zs.getD k 0) = false → fitsAll N zs ≠ true) := fun h => fitsAll_bad (by omega) h
          have hlen := bsTo_len zs k
          have hfit := fits_lt hN hzk.1
          generalize zs.getD k 0 = z at *
          rw [← HP.out] at hfit
          have hix := Try.idxBool w.heap.size z hzk.1 hzk.2
          by_cases hzM : z < (M : Int)
          · have HF2 : Hid _ := HFs.out (by rw [hfit]; exact decide_eq_true hzM)
            have hzM2 : decide ((M : Int) ≤ z) = false := decide_eq_false (by omega)
            clear hfit HFs HFb
            go_wp2_with fail
            go_quiet (fail)
            have hbd := below_drewN (Below.refl wr.heap.size wr) nq
            have hRd := hR.up hbd
            have hbwd := below_step hbw hbd
            clear hbd hR hbw hck
            generalize wr.drewN nq = wd at *
            have hckd := HCK.out _ hbwd
            have hcz := hRd.cell (i := z.toNat) (by omega)
            have hfz := hRd.fz z.toNat
            have hR2 := hRd.set z.toNat true
            rw [← HS.out] at hR2
            have hb2 := hbwd.setCell (p := ⟨w.heap.size, z.toNat, none⟩) (Nat.le_refl _) (.bool true)
            go_wp2
            go_roundw
            case rel => exact ⟨k + 1, by omega, by go_num, HF2, hR2, hb2⟩
            case measure => simp [intOf]; omega
          · have HF2 : Hid _ := HFb.out (by rw [hfit]; exact decide_eq_false hzM)
            have hzM2 : (M : Int) ≤ z := by omega
            clear hfit HFs HFb
            go_wp2_with fail
            go_quiet (fail)
            have hbwd := below_drewN hbw nq
            go_wp2
            go_ret2
            exact ⟨HRb.out HF2.out _ _ rfl, hbwd⟩
        · obtain rfl : k = len := by omega
          have HFA : Hid (fitsAll N zs = true) := fitsTo_end (by rw [hl0]; exact HF.out)
          have hcv := Try.rcover_any N w.heap.size (bsTo zs k) hN (bsTo_len zs k) N 0 0 0 wr (by omega) (by decide) (by decide) says_zero hR
          have HV : Hid (coverF N (innB (bsTo zs k)) N 0 (0, 0) = coverV N zs) := by show _ = _; unfold coverV coverC; rw [hl0]
          rw [HV.out] at hcv
          unfold MinusR at hcv
          have hg := HRg.out HFA.out
          generalize coverV N zs = cs at *
          clear HV HRb HRg HF HFA
          go_wp2_with fail
          refine hcv.mono ?_
          rintro e w2 ⟨⟨v, rfl, hown⟩, hw2⟩
          have HO : Hid _ := owns_base hown hbw.size
          have hb2 := below_step hbw hw2
          have HG : Hid _ := hg
          clear hown hg
          go_wp2
          go_ret2
          exact ⟨HG.out _ _ ⟨v, rfl, HO.out⟩, hb2⟩
    · have HR : Hid (∀ e w', e = .returned (.tuple #[.slice none 0 0, .int .i64 2]) → CoverR 24 n zs w e w') := fun e w' h => Or.inr ⟨fun h2 => hn8 h2.2.2, h⟩
      go_enter Try.func27, Try.ntmps27
      go_wp2
      go_ret2
      exact ⟨HR.out _ _ rfl, Below.refl _ _⟩
  · have HR : Hid (∀ e w', e = .returned (.tuple #[.slice none 0 0, .int .i64 2]) → CoverR 24 n zs w e w') := fun e w' h => Or.inr ⟨fun h2 => hn0 h2.2.1, h⟩
    go_enter Try.func27, Try.ntmps27
    go_wp2
    go_ret2
    exact ⟨HR.out _ _ rfl, Below.refl _ _⟩
end Go.Proofs.Ytnaalbcbmhpfjaa
