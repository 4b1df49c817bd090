/- Package mean: someWay, everyWay. Written by mkmw.py. -/
import Derived.Test.YtfgaieefejdkbaaWMm6
namespace Go.Proofs.Ytfgaieefejdkbaa
open Go.RowKit Go.Maps

def someP (rs : Nat → List Nat) (bv : List Bool) (i k : Nat) : Prop := ∃ m, m < k ∧ hasW (rs i) m = true ∧ bv.getD m false = true
def everyP (rs : Nat → List Nat) (bv : List Bool) (i k : Nat) : Prop := ∀ m, m < k → hasW (rs i) m = true → bv.getD m false = true
theorem someP_zero {rs : Nat → List Nat} {bv : List Bool} {i : Nat} : false = true ↔ someP rs bv i 0 := ⟨fun h => (by cases h), fun ⟨m, h, _⟩ => absurd h (by omega)⟩
theorem everyP_zero {rs : Nat → List Nat} {bv : List Bool} {i : Nat} : true = true ↔ everyP rs bv i 0 := ⟨fun _ m h => absurd h (by omega), fun _ => rfl⟩
theorem someP_hit {rs : Nat → List Nat} {bv : List Bool} {i k : Nat} (h1 : hasW (rs i) k = true) (h2 : bv.getD k false = true) : true = true ↔ someP rs bv i (k + 1) := ⟨fun _ => ⟨k, by omega, h1, h2⟩, fun _ => rfl⟩
theorem everyP_hit {rs : Nat → List Nat} {bv : List Bool} {i k : Nat} (h1 : hasW (rs i) k = true) (h2 : bv.getD k false = false) : false = true ↔ everyP rs bv i (k + 1) := ⟨fun h => (by cases h), fun h => by have := h k (by omega) h1; rw [h2] at this; cases this⟩
theorem someP_no {rs : Nat → List Nat} {bv : List Bool} {i k : Nat} {b : Bool} (h : b = true ↔ someP rs bv i k) (hn : hasW (rs i) k = true → bv.getD k false = false) : b = true ↔ someP rs bv i (k + 1) := by
  rw [h]
  constructor
  · rintro ⟨m, h1, h2⟩; exact ⟨m, by omega, h2⟩
  · rintro ⟨m, h1, h2, h3⟩
    by_cases e : m = k
    · subst e; rw [hn h2] at h3; cases h3
    · exact ⟨m, by omega, h2, h3⟩
theorem everyP_no {rs : Nat → List Nat} {bv : List Bool} {i k : Nat} {b : Bool} (h : b = true ↔ everyP rs bv i k) (hn : hasW (rs i) k = true → bv.getD k false = true) : b = true ↔ everyP rs bv i (k + 1) := by
  rw [h]
  constructor
  · intro h m h1 h2
    by_cases e : m = k
    · subst e; exact hn h2
    · exact h m (by omega) h2
  · intro h m h1 h2; exact h m (by omega) h2
theorem set_self {bs : List Bool} {k : Nat} (h : bs.getD k false = false) : bs.set k false = bs := by
  refine List.ext_getElem (by simp) fun i h1 h2 => ?_
  by_cases e : k = i
  · subst e
    rw [List.getD_eq_getElem?_getD, List.getElem?_eq_getElem h2] at h
    simp at h
    simp [h]
  · simp [e]
set_option maxRecDepth 100000 in
set_option maxHeartbeats 3200000 in
theorem Try.msomeWay_any (n g gb : Nat) (rs : Nat → List Nat) (bv : List Bool) (w : World) (hE : EndAt w g (n + 1) rs) (hB : ValAt w gb bv) (hl : bv.length = n + 1) (hn : n ≤ 10000) :
    Calls Try.prog 78 #[.slice (some ⟨g, 0, none⟩) (n + 1) (n + 1), .slice (some ⟨gb, 0, none⟩) (n + 1) (n + 1)] w (ValR n (fun i => someP rs bv i (n + 1)) w) := by
  have hmk := Try.makeB (n + 1) (by omega)
  have HE : Hid (EndAt w g (n + 1) rs) := hE
  have HVB : Hid (ValAt w gb bv) := hB
  clear hE hB
  have hq : ∃ q, n + 1 = q := ⟨_, rfl⟩
  obtain ⟨q, hq⟩ := hq
  have HQ : Hid (n + 1 = q) := hq
  rw [hq] at hmk hl ⊢
  clear hq
  have hqb : q ≤ 10001 := by have := HQ.out; omega
  go_enter Try.func78, Try.ntmps78
  go_wp2
  clear hmk
  go_loopw [14] (fun i wr => ∃ k : Nat, k ≤ q ∧ i = .int .i64 k ∧ (∃ bs, Hid (ValAt wr w.heap.size bs) ∧ Hid (FillF n (fun i => someP rs bv i q) k bs)) ∧ Hid (Below w.heap.size w wr)) (fun i _ => q - (intOf i).toNat)
  case atStart => exact ⟨0, Nat.zero_le _, rfl, ⟨List.replicate q false, ValAt.made w _, by have := FillF.zero n (fun i => someP rs bv i q); rw [HQ.out] at this; exact this⟩, below_new _ _⟩
  case round =>
    obtain ⟨n0, hn0, rfl, ⟨bs, HB, HF⟩, HW⟩ := hrel
    by_cases hnq : n0 < q
    · have hi1 := fun w' => Try.idxB w.heap.size q n0 w' hnq
      have hbl : bs.length = q := by rw [HF.out.len]; exact HQ.out
      have hcb := HB.out.cell (i := n0) (by omega)
      have hzb := HB.out.fz n0
      have HB0 : Hid (ValAt (wr) w.heap.size (bs.set n0 false)) := by show ValAt _ _ _; rw [set_self (HF.out.rest n0 (Nat.le_refl _))]; exact HB.out
      have HW0 : Hid (Below w.heap.size w (wr)) := HW
      clear HB HW
      go_wp2
      clear hcb hzb
      go_loopw [19] (fun i wr => ∃ k : Nat, k ≤ q ∧ i = .int .i64 k ∧ (∃ bb : Bool, Hid (ValAt wr w.heap.size (bs.set n0 bb)) ∧ Hid (bb = true ↔ someP rs bv n0 k)) ∧ Hid (Below w.heap.size w wr)) (fun i _ => q - (intOf i).toNat)
      case atStart => exact ⟨0, Nat.zero_le _, rfl, ⟨false, HB0, someP_zero⟩, HW0⟩
      case round =>
        obtain ⟨k, hk, rfl, ⟨bb, HB, HP⟩, HW⟩ := hrel
        clear HB0 HW0
        by_cases hlt : k < q
        · have hEr := HE.out.up HW.out
          have hVr := HVB.out.up HW.out
          have hi2 := fun w' => Try.idxB gb q k w' hlt
          have hc2 := hVr.cell (i := k) (by omega)
          have hi3 := fun w' => Try.idxUs g q n0 w' hnq
          have hc3 := hEr.cell (i := n0) (by have := HQ.out; omega)
          have hhas := Try.mhas_any (g + 1 + n0) (wordsN (n + 1)) k (rs n0) wr (hEr.rows n0 (by have := HQ.out; omega)) (HE.out.ok n0 (by have := HQ.out; omega)) (words_in (by have := HQ.out; omega)) (by omega)
          generalize wordsN (n + 1) = W at *
          have HN : Hid _ := someP_no HP.out
          have HH : Hid _ := someP_hit (rs := rs) (bv := bv) (i := n0) (k := k)
          clear hEr hVr
          generalize bv.getD k false = p at *
          cases p with
          | false =>
            clear hhas
            go_wp2
            go_roundw
            case rel => exact ⟨k + 1, by omega, by go_num, ⟨bb, HB, HN.out (fun _ => rfl)⟩, HW⟩
            case measure => simp [intOf] <;> omega
          | true =>
            generalize hasW (rs n0) k = r at *
            go_wp2_with fail
            refine hhas.mono ?_
            rintro e w3 ⟨rfl, hb3⟩
            have HB3 : Hid (ValAt w3 w.heap.size (bs.set n0 bb)) := HB.out.up hb3
            have HW3 : Hid (Below w.heap.size w w3) := below_step HW.out hb3
            clear hhas hb3 HB HW hc2 hc3
            cases r with
            | false =>
              go_wp2
              go_roundw
              case rel => exact ⟨k + 1, by omega, by go_num, ⟨bb, HB3, HN.out (fun h => (by cases h))⟩, HW3⟩
              case measure => simp [intOf] <;> omega
            | true =>
              have hcb := HB3.out.cell (i := n0) (by rw [List.length_set]; omega)
              have hzb := HB3.out.fz n0
              have HB4 : Hid _ := HB3.out.set n0 true
              go_wp2
              go_roundw
              case rel => exact ⟨k + 1, by omega, by go_num, ⟨true, by have := HB4.out; rw [List.set_set] at this; exact this, by have h := HH.out; simp at h; show (_ = true ↔ _); simp [h]⟩, HW3.out.setCell (Nat.le_refl _) _⟩
              case measure => simp [intOf] <;> omega
        · obtain rfl : k = q := by omega
          go_wp2
          go_roundw
          case rel => exact ⟨n0 + 1, by omega, by go_num, ⟨_, HB, HF.out.next (by have := HQ.out; omega) HP.out⟩, HW⟩
          case measure => simp [intOf] <;> omega
    · obtain rfl : n0 = q := by omega
      go_wp2
      go_ret
      unfold ValR
      have e := HQ.out
      subst e
      exact ⟨_, bs, rfl, HB.out, HF.out.len, fun i hi => HF.out.done i (by omega), HW.out, Nat.le_refl _⟩
set_option maxRecDepth 100000 in
set_option maxHeartbeats 3200000 in
theorem Try.meveryWay_any (n g gb : Nat) (rs : Nat → List Nat) (bv : List Bool) (w : World) (hE : EndAt w g (n + 1) rs) (hB : ValAt w gb bv) (hl : bv.length = n + 1) (hn : n ≤ 10000) :
    Calls Try.prog 79 #[.slice (some ⟨g, 0, none⟩) (n + 1) (n + 1), .slice (some ⟨gb, 0, none⟩) (n + 1) (n + 1)] w (ValR n (fun i => everyP rs bv i (n + 1)) w) := by
  have hmk := Try.makeB (n + 1) (by omega)
  have HE : Hid (EndAt w g (n + 1) rs) := hE
  have HVB : Hid (ValAt w gb bv) := hB
  clear hE hB
  have hq : ∃ q, n + 1 = q := ⟨_, rfl⟩
  obtain ⟨q, hq⟩ := hq
  have HQ : Hid (n + 1 = q) := hq
  rw [hq] at hmk hl ⊢
  clear hq
  have hqb : q ≤ 10001 := by have := HQ.out; omega
  go_enter Try.func79, Try.ntmps79
  go_wp2
  clear hmk
  go_loopw [14] (fun i wr => ∃ k : Nat, k ≤ q ∧ i = .int .i64 k ∧ (∃ bs, Hid (ValAt wr w.heap.size bs) ∧ Hid (FillF n (fun i => everyP rs bv i q) k bs)) ∧ Hid (Below w.heap.size w wr)) (fun i _ => q - (intOf i).toNat)
  case atStart => exact ⟨0, Nat.zero_le _, rfl, ⟨List.replicate q false, ValAt.made w _, by have := FillF.zero n (fun i => everyP rs bv i q); rw [HQ.out] at this; exact this⟩, below_new _ _⟩
  case round =>
    obtain ⟨n0, hn0, rfl, ⟨bs, HB, HF⟩, HW⟩ := hrel
    by_cases hnq : n0 < q
    · have hi1 := fun w' => Try.idxB w.heap.size q n0 w' hnq
      have hbl : bs.length = q := by rw [HF.out.len]; exact HQ.out
      have hcb := HB.out.cell (i := n0) (by omega)
      have hzb := HB.out.fz n0
      have HB0 : Hid (ValAt (wr.setCell ⟨w.heap.size, n0, none⟩ (.bool true)) w.heap.size (bs.set n0 true)) := HB.out.set n0 true
      have HW0 : Hid (Below w.heap.size w (wr.setCell ⟨w.heap.size, n0, none⟩ (.bool true))) := HW.out.setCell (Nat.le_refl _) _
      clear HB HW
      go_wp2
      clear hcb hzb
      go_loopw [22] (fun i wr => ∃ k : Nat, k ≤ q ∧ i = .int .i64 k ∧ (∃ bb : Bool, Hid (ValAt wr w.heap.size (bs.set n0 bb)) ∧ Hid (bb = true ↔ everyP rs bv n0 k)) ∧ Hid (Below w.heap.size w wr)) (fun i _ => q - (intOf i).toNat)
      case atStart => exact ⟨0, Nat.zero_le _, rfl, ⟨true, HB0, everyP_zero⟩, HW0⟩
      case round =>
        obtain ⟨k, hk, rfl, ⟨bb, HB, HP⟩, HW⟩ := hrel
        clear HB0 HW0
        by_cases hlt : k < q
        · have hEr := HE.out.up HW.out
          have hVr := HVB.out.up HW.out
          have hi2 := fun w' => Try.idxB gb q k w' hlt
          have hc2 := hVr.cell (i := k) (by omega)
          have hi3 := fun w' => Try.idxUs g q n0 w' hnq
          have hc3 := hEr.cell (i := n0) (by have := HQ.out; omega)
          have hhas := Try.mhas_any (g + 1 + n0) (wordsN (n + 1)) k (rs n0) wr (hEr.rows n0 (by have := HQ.out; omega)) (HE.out.ok n0 (by have := HQ.out; omega)) (words_in (by have := HQ.out; omega)) (by omega)
          generalize wordsN (n + 1) = W at *
          have HN : Hid _ := everyP_no HP.out
          have HH : Hid _ := everyP_hit (rs := rs) (bv := bv) (i := n0) (k := k)
          clear hEr hVr
          generalize bv.getD k false = p at *
          cases p with
          | true =>
            clear hhas
            go_wp2
            go_roundw
            case rel => exact ⟨k + 1, by omega, by go_num, ⟨bb, HB, HN.out (fun _ => rfl)⟩, HW⟩
            case measure => simp [intOf] <;> omega
          | false =>
            generalize hasW (rs n0) k = r at *
            go_wp2_with fail
            refine hhas.mono ?_
            rintro e w3 ⟨rfl, hb3⟩
            have HB3 : Hid (ValAt w3 w.heap.size (bs.set n0 bb)) := HB.out.up hb3
            have HW3 : Hid (Below w.heap.size w w3) := below_step HW.out hb3
            clear hhas hb3 HB HW hc2 hc3
            cases r with
            | false =>
              go_wp2
              go_roundw
              case rel => exact ⟨k + 1, by omega, by go_num, ⟨bb, HB3, HN.out (fun h => (by cases h))⟩, HW3⟩
              case measure => simp [intOf] <;> omega
            | true =>
              have hcb := HB3.out.cell (i := n0) (by rw [List.length_set]; omega)
              have hzb := HB3.out.fz n0
              have HB4 : Hid _ := HB3.out.set n0 false
              go_wp2
              go_roundw
              case rel => exact ⟨k + 1, by omega, by go_num, ⟨false, by have := HB4.out; rw [List.set_set] at this; exact this, by have h := HH.out; simp at h; show (_ = true ↔ _); simp [h]⟩, HW3.out.setCell (Nat.le_refl _) _⟩
              case measure => simp [intOf] <;> omega
        · obtain rfl : k = q := by omega
          go_wp2
          go_roundw
          case rel => exact ⟨n0 + 1, by omega, by go_num, ⟨_, HB, HF.out.next (by have := HQ.out; omega) HP.out⟩, HW⟩
          case measure => simp [intOf] <;> omega
    · obtain rfl : n0 = q := by omega
      go_wp2
      go_ret
      unfold ValR
      have e := HQ.out
      subst e
      exact ⟨_, bs, rfl, HB.out, HF.out.len, fun i hi => HF.out.done i (by omega), HW.out, Nat.le_refl _⟩
end Go.Proofs.Ytfgaieefejdkbaa
