/- Package mean: star, walked. -/
import Derived.Test.YtfgaieefejdkbaaWMm4
namespace Go.Proofs.Ytfgaieefejdkbaa
open Go.RowKit Go.Maps

set_option maxHeartbeats 4000000 in
theorem Try.mstar_any (g P : Nat) (rs : Nat → List Nat) (w : World) (hP : P ≤ 100000) (hP1 : 1 ≤ P) (hA : EndAt w g P rs) (hr : InR rs P) :
    Calls Try.prog 77 #[.slice (some ⟨g, 0, none⟩) P P] w fun e w' => e = .returned (.slice (some ⟨w.heap.size, 0, none⟩) P P) ∧ (∃ xs, EndAt w' w.heap.size P xs ∧ ∀ i, i < P → ∀ k, hasW (xs i) k = true ↔ ∃ m, stepsP (Rl rs) m i k) ∧ Below w.heap.size w w' := by
  have hnow := Try.mnow_any P w hP
  have HR : Hid (InR rs P) := hr
  have HA : Hid (EndAt w g P rs) := hA
  have hl1 := hA.lt
  clear hA hr
  go_enter Try.func77, Try.ntmps77
  go_wp2_with fail
  refine hnow.mono ?_
  rintro e w1 ⟨rfl, hE1, hB1⟩
  have HE1 : Hid (EndAt w1 w.heap.size P (fun _ => List.replicate (wordsN P) 0)) := hE1
  have HB1 : Hid (Below w.heap.size w w1) := hB1
  clear hnow hE1 hB1
  go_wp2
  go_loopw [13] (fun i wr => ∃ k : Nat, k ≤ P ∧ i = .int .i64 k ∧ (∃ xs, Hid (EndAt wr w.heap.size P xs) ∧ Hid (∀ i, i < k → ∀ j, hasW (xs i) j = decide (j = i)) ∧ Hid (∀ i, k ≤ i → xs i = List.replicate (wordsN P) 0)) ∧ Hid (Below w.heap.size w wr)) (fun i _ => P - (intOf i).toNat)
  case atStart => exact ⟨0, Nat.zero_le _, rfl, ⟨_, HE1, fun i hi => absurd hi (by omega), fun _ _ => rfl⟩, HB1⟩
  case round =>
    obtain ⟨k, hk, rfl, ⟨xs, HE, HD, HZ⟩, HB⟩ := hrel
    clear HE1 HB1
    by_cases hlt : k < P
    · have hi2 := fun w' => Try.idxUs w.heap.size P k w' hlt
      have hc2 := HE.out.cell hlt
      have HZk : Hid (xs k = List.replicate (wordsN P) 0) := HZ.out k (Nat.le_refl _)
      have hput := Try.mput_any (w.heap.size + 1 + k) (wordsN P) k (xs k) wr (HE.out.rows k hlt) (HE.out.ok k hlt) (words_in hlt) (by omega)
      have HPW : Hid (∀ j, hasW (putW (xs k) k) j = decide (j = k)) := fun j => by rw [hasW_put (HE.out.ok k hlt) (words_in hlt), HZk.out, hasW_zero, Bool.false_or]
      have HPO : Hid (OkW (wordsN P) (putW (xs k) k)) := (HE.out.ok k hlt).put
      go_wp2_with fail
      refine hput.mono ?_
      rintro e w2 ⟨rfl, hr2, hg2⟩
      have HE2 : Hid (EndAt w2 w.heap.size P (upd xs k (putW (xs k) k))) := HE.out.turn hlt hr2 HPO.out hg2
      have HB2 : Hid (Below w.heap.size w w2) := HB.out.grown hg2 HB.out.size (fun j e => by injection e with e; omega)
      clear hput hr2 hg2 hc2
      go_wp2
      go_roundw
      case rel =>
        refine ⟨k + 1, by omega, by go_num, ⟨_, HE2, fun i hi j => ?_, fun i hi => ?_⟩, HB2⟩
        · by_cases e : i = k
          · subst e; rw [upd_same, HPW.out]
          · rw [upd_ne _ _ e]; exact HD.out i (by omega) j
        · rw [upd_ne _ _ (by omega)]; exact HZ.out i (by omega)
      case measure => simp [intOf]; omega
    · obtain rfl : k = P := by omega
      have HI : Hid (StarI rs xs k) := ⟨fun i hi => by rw [HD.out i hi]; simp, fun i hi j hj => ⟨0, by rw [HD.out i hi] at hj; exact (of_decide_eq_true hj).symm⟩⟩
      clear HD HZ
      go_wp2
      go_loopw [5] (fun c wr => ∃ bb : Bool, c = .bool bb ∧ (∃ xs, Hid (EndAt wr w.heap.size k xs) ∧ Hid (StarI rs xs k) ∧ Hid (bb = false → ∀ i, i < k → ClI rs xs i k)) ∧ Hid (Below w.heap.size w wr)) (fun c wr => starM c wr w.heap.size k)
      case atStart => exact ⟨true, rfl, ⟨xs, HE, HI, fun h => by cases h⟩, HB⟩
      case round =>
        obtain ⟨b0, rfl, ⟨x0, HE0, HI0, HC0⟩, HW0⟩ := hrel
        clear HE HI HB
        cases b0 with
        | false =>
          go_wp2
          go_ret
          exact ⟨rfl, ⟨x0, HE0.out, fun i hi j => star_done HI0.out HR.out (HC0.out (by first | rfl | trivial)) hi j⟩, HW0.out⟩
        | true =>
          clear HC0
          have wk := wr64 ((k : Int) - 1) (by omega)
          have HM : Hid (∀ wr' ys (b : Bool), EndAt wr' w.heap.size k ys → StR rs x0 ys k b → starM (.bool b) wr' w.heap.size k < starM (.bool true) wr w.heap.size k) := fun wr' ys b h hs => by
            cases b with
            | true => exact starM_true HE0.out h (hs.ch rfl)
            | false => exact starM_false HE0.out h hs.le
          go_wp2
          go_loopw [5, 6] (fun c i wr => ∃ n : Nat, n ≤ k ∧ i = .int .i64 ((n : Int) - 1) ∧ ∃ bb : Bool, c = .bool bb ∧ (∃ xs, Hid (EndAt wr w.heap.size k xs) ∧ Hid (StR rs x0 xs k bb) ∧ Hid (bb = false → ∀ i, n ≤ i → i < k → ClI rs xs i k)) ∧ Hid (Below w.heap.size w wr)) (fun _ i _ => (intOf i + 1).toNat)
          case atStart => exact ⟨k, Nat.le_refl _, rfl, false, rfl, ⟨x0, HE0, ⟨HI0.out, fun h => (by cases h), fun _ => rfl⟩, fun _ i h1 h2 => absurd h1 (by omega)⟩, HW0⟩
          case round =>
            obtain ⟨n, hn, rfl, b1, rfl, ⟨x1, HE1, HS1, HC1⟩, HW1⟩ := hrel
            by_cases hn0 : n = 0
            · subst hn0
              have hle : ¬ (0 : Int) ≤ ((0 : Nat) : Int) - 1 := by omega
              go_wp2
              go_roundw
              case rel => exact ⟨b1, rfl, ⟨x1, HE1, HS1.out.st, fun h i hi => HC1.out h i (Nat.zero_le _) hi⟩, HW1⟩
              case measure => exact HM.out _ _ _ HE1.out HS1.out
            · obtain ⟨m, rfl⟩ : ∃ m, n = m + 1 := ⟨n - 1, by omega⟩
              have hmk : m < k := by omega
              have em : (((m + 1 : Nat) : Int) - 1) = (m : Int) := by omega
              rw [em]
              have hle : (0 : Int) ≤ (m : Int) := by omega
              have wk2 := wr64 (m : Int) (by omega)
              clear HE0 HI0 HW0 HM hn0 em
              go_wp2
              go_loopw [5, 33] (fun c i wr => ∃ n : Nat, n ≤ k ∧ i = .int .i64 n ∧ ∃ bb : Bool, c = .bool bb ∧ (∃ xs, Hid (EndAt wr w.heap.size k xs) ∧ Hid (StR rs x0 xs k bb) ∧ Hid (bb = false → (∀ i, m + 1 ≤ i → i < k → ClI rs xs i k) ∧ ClI rs xs m n)) ∧ Hid (Below w.heap.size w wr)) (fun _ i _ => k - (intOf i).toNat)
              case atStart => exact ⟨0, Nat.zero_le _, rfl, b1, rfl, ⟨x1, HE1, HS1, fun h => ⟨HC1.out h, fun m hm => absurd hm (by omega)⟩⟩, HW1⟩
              case round =>
                obtain ⟨n, hn, rfl, b2, rfl, ⟨x2, HE2, HS2, HC2⟩, HW2⟩ := hrel
                clear HE1 HS1 HC1 HW1
                by_cases hnk : n < k
                · have hA2 := HA.out.up HW2.out
                  have hhas := fun W (h : RowU W (g + 1 + m) (rs m)) => Try.mhas_same (g + 1 + m) (wordsN k) n (rs m) W h (HA.out.ok m hmk) (words_in hnk) (by omega)
                  have hi0 := fun w' => Try.idxUs g k m w' hmk
                  have hc0 := hA2.cell hmk
                  have hr0 := hA2.rows m hmk
                  cases hh : hasW (rs m) n with
                  | false =>
                    simp only [hh] at hhas
                    have HC3 : Hid (b2 = false → (∀ i, m + 1 ≤ i → i < k → ClI rs x2 i k) ∧ ClI rs x2 m (n + 1)) := fun h => ⟨(HC2.out h).1, (HC2.out h).2.skip hh⟩
                    have hq := fun q => hhas (wr.drewN q) (hr0.up (below_drewN (Below.refl _ _) q))
                    generalize hWW : wordsN k = W at *
                    clear hWW
                    go_wp2_with fail
                    go_quiet ((go_at_call 88; first | exact Calls.quiet_of_same (hhas _ hr0) | exact Calls.quiet_of_same (hq _)))
                    go_wp2
                    go_roundw
                    case rel => exact ⟨n + 1, by omega, by go_num, b2, rfl, ⟨x2, HE2.out.up (below_drewN (Below.refl _ _) nq), HS2, HC3⟩, below_drewN HW2.out nq⟩
                    case measure => simp [intOf]; omega
                  | true =>
                    have hin := HR.out m hmk n hh
                    have hi1 := fun w' => Try.idxUs w.heap.size k m w' hmk
                    have hi2 := fun w' => Try.idxUs w.heap.size k n w' hnk
                    have hc1 := HE2.out.cell hmk
                    have hc2 := HE2.out.cell hnk
                    have hr1 := HE2.out.rows m hmk
                    have hr2 := HE2.out.rows n hnk
                    have hjn := fun W (h1 : RowU W (w.heap.size + 1 + m) (x2 m)) (h2 : RowU W (w.heap.size + 1 + n) (x2 n)) => Try.mjoin_any (w.heap.size + 1 + m) (w.heap.size + 1 + n) (wordsN k) n (x2 m) (x2 n) W h1 h2 (HE2.out.ok m hmk) (HE2.out.ok n hnk) (fun e => congrArg x2 (by omega)) (words_in hnk) (words_le hP)
                    have HST : Hid (StarI rs (upd x2 m (joinW (x2 m) (x2 n) (n / 64))) k) := HS2.out.st.join HR.out hmk hnk HE2.out.ok hh
                    have HTT : Hid (joinW (x2 m) (x2 n) (n / 64) ≠ x2 m → tot k x2 < tot k (upd x2 m (joinW (x2 m) (x2 n) (n / 64)))) := fun h => tot_join _ hmk h
                    have HCJ : Hid (b2 = false → joinW (x2 m) (x2 n) (n / 64) = x2 m → (∀ i, m + 1 ≤ i → i < k → ClI rs x2 i k) ∧ ClI rs x2 m (n + 1)) := fun h he => ⟨(HC2.out h).1, (HC2.out h).2.join HS2.out.st HR.out hmk hnk HE2.out.ok he⟩
                    have HX : Hid (∀ w2, RowU w2 (w.heap.size + 1 + m) (joinW (x2 m) (x2 n) (n / 64)) → wr.grownBy w2 (some (w.heap.size + 1 + m)) → EndAt w2 w.heap.size k (upd x2 m (joinW (x2 m) (x2 n) (n / 64))) ∧ Below w.heap.size w w2) := fun w2 h1 h2 =>
                      ⟨HE2.out.turn hmk h1 ((HE2.out.ok m hmk).join (HE2.out.ok n hnk) _ _) h2, HW2.out.grown h2 HW2.out.size (fun j e => by injection e with e; omega)⟩
                    have HSL : Hid (tot k x0 ≤ tot k x2) := HS2.out.le
                    have HSS : Hid (b2 = false → x2 = x0) := HS2.out.same
                    have HSC : Hid (b2 = true → tot k x0 < tot k x2) := HS2.out.ch
                    have hk0 : wr.cell? ⟨g, m, none⟩ = some (.slice (some ⟨g + 1 + m, 0, none⟩) (wordsN k) (wordsN k)) ∧ wr.cell? ⟨w.heap.size, m, none⟩ = some (.slice (some ⟨w.heap.size + 1 + m, 0, none⟩) (wordsN k) (wordsN k)) ∧ wr.cell? ⟨w.heap.size, n, none⟩ = some (.slice (some ⟨w.heap.size + 1 + n, 0, none⟩) (wordsN k) (wordsN k)) := ⟨hc0, hc1, hc2⟩
                    have hkeep : ∀ w2, wr.grownBy w2 (some (w.heap.size + 1 + m)) → w2.cell? ⟨g, m, none⟩ = some (.slice (some ⟨g + 1 + m, 0, none⟩) (wordsN k) (wordsN k)) ∧ w2.cell? ⟨w.heap.size, m, none⟩ = some (.slice (some ⟨w.heap.size + 1 + m, 0, none⟩) (wordsN k) (wordsN k)) ∧ w2.cell? ⟨w.heap.size, n, none⟩ = some (.slice (some ⟨w.heap.size + 1 + n, 0, none⟩) (wordsN k) (wordsN k)) := fun w2 h2 =>
                      ⟨grown_cell hc0 h2 (fun e => by injection e with e; dsimp only at e; omega), grown_cell hc1 h2 (fun e => by injection e with e; dsimp only at e; omega), grown_cell hc2 h2 (fun e => by injection e with e; dsimp only at e; omega)⟩
                    simp only [hh] at hhas
                    have HHH : Hid (hasW (rs m) n = true) := hh
                    clear hA2 HE2 HW2 HC2 HS2 hh hin
                    generalize hWW : wordsN k = W at *
                    have HWW : Hid (wordsN k = W) := hWW
                    clear hWW
                    generalize hY : joinW (x2 m) (x2 n) (n / 64) = Y at *
                    clear hY
                    by_cases hYx : Y = x2 m
                    · have hd : decide (Y ≠ x2 m) = false := by simp [hYx]
                      have HUS : Hid (upd x2 m Y = x2) := by show _ = _; rw [hYx, upd_self]
                      have HYX : Hid (Y = x2 m) := hYx
                      simp only [hd] at hjn
                      clear hd hYx
                      go_wp2_with fail
                      go_region_held3 (fun w' => w'.cell? ⟨g, m, none⟩ = some (.slice (some ⟨g + 1 + m, 0, none⟩) W W) ∧ w'.cell? ⟨w.heap.size, m, none⟩ = some (.slice (some ⟨w.heap.size + 1 + m, 0, none⟩) W W) ∧ w'.cell? ⟨w.heap.size, n, none⟩ = some (.slice (some ⟨w.heap.size + 1 + n, 0, none⟩) W W)) (first | exact hk0 | exact hkeep _ ‹_›) (first | (go_at_call 88; refine (hhas wr.drew hr0).mono ?_; rintro e w' ⟨rfl, rfl⟩) | (go_at_call 89; (first | refine (hjn wr.drew hr1 hr2).mono ?_ | refine (hjn wr.drew.drew hr1 hr2).mono ?_); rintro e w2 ⟨rfl, hr3, hg3⟩; have hg4 : wr.grownBy w2 (some (w.heap.size + 1 + m)) := ⟨hg3.os, hg3.tape, hg3.output, hg3.size, hg3.block⟩; clear hg3))
                      obtain ⟨q1, q2⟩ := HX.out _ hr3 hg4
                      have H1 : Hid _ := q1
                      have H2 : Hid _ := q2
                      clear hjn hhas hkeep hk0 hc0 hc1 hc2 hr3 hg4 q1 q2 HX hr0 hr1 hr2
                      go_wp2
                      go_roundw
                      case rel =>
                        have h1 := H1.out
                        rw [HUS.out] at h1
                        exact ⟨n + 1, by omega, by go_num, b2, rfl, ⟨x2, h1, ⟨by have := HST.out; rw [HUS.out] at this; exact this, HSC.out, HSS.out⟩, fun h => HCJ.out h HYX.out⟩, H2⟩
                      case measure => simp [intOf]; omega
                    · have hd : decide (Y ≠ x2 m) = true := by simp [hYx]
                      have HTL : Hid _ := HTT.out hYx
                      simp only [hd] at hjn
                      clear hd hYx
                      go_wp2_with fail
                      go_region_held3 (fun w' => w'.cell? ⟨g, m, none⟩ = some (.slice (some ⟨g + 1 + m, 0, none⟩) W W) ∧ w'.cell? ⟨w.heap.size, m, none⟩ = some (.slice (some ⟨w.heap.size + 1 + m, 0, none⟩) W W) ∧ w'.cell? ⟨w.heap.size, n, none⟩ = some (.slice (some ⟨w.heap.size + 1 + n, 0, none⟩) W W)) (first | exact hk0 | exact hkeep _ ‹_›) (first | (go_at_call 88; refine (hhas wr.drew hr0).mono ?_; rintro e w' ⟨rfl, rfl⟩) | (go_at_call 89; (first | refine (hjn wr.drew hr1 hr2).mono ?_ | refine (hjn wr.drew.drew hr1 hr2).mono ?_); rintro e w2 ⟨rfl, hr3, hg3⟩; have hg4 : wr.grownBy w2 (some (w.heap.size + 1 + m)) := ⟨hg3.os, hg3.tape, hg3.output, hg3.size, hg3.block⟩; clear hg3))
                      obtain ⟨q1, q2⟩ := HX.out _ hr3 hg4
                      have H1 : Hid _ := q1
                      have H2 : Hid _ := q2
                      clear hjn hhas hkeep hk0 hc0 hc1 hc2 hr3 hg4 q1 q2 HX hr0 hr1 hr2
                      go_wp2
                      go_roundw
                      case rel => exact ⟨n + 1, by omega, by go_num, true, rfl, ⟨_, H1, ⟨HST.out, fun _ => Nat.lt_of_le_of_lt HSL.out HTL.out, fun h => (by cases h)⟩, fun h => (by cases h)⟩, H2⟩
                      case measure => simp [intOf]; omega
                · obtain rfl : n = k := by omega
                  go_wp2
                  go_roundw
                  case rel =>
                    refine ⟨m, by omega, rfl, b2, rfl, ⟨x2, HE2, HS2, fun h i h1 h2 => ?_⟩, HW2⟩
                    by_cases e : i = m
                    · subst e; exact (HC2.out h).2
                    · exact (HC2.out h).1 i (by omega) h2
                  case measure => simp [intOf]
end Go.Proofs.Ytfgaieefejdkbaa
