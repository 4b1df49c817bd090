/- Package mean: the values of formulas that take nothing. Written by mkmv.py. -/
import Derived.Test.YtfgaieefejdkbaaWMm5
namespace Go.Proofs.Ytfgaieefejdkbaa
open Go.RowKit Go.Maps

/-- What a call answers that tells values. -/
def ValR (n : Nat) (V : Nat → Prop) (w : World) (e : Ending) (w' : World) : Prop :=
  ∃ g bs, e = .returned (.slice (some ⟨g, 0, none⟩) (n + 1) (n + 1)) ∧ ValAt w' g bs ∧ bs.length = n + 1 ∧ (∀ i, i ≤ n → (bs.getD i false = true ↔ V i)) ∧ Below w.heap.size w w' ∧ w.heap.size ≤ g
theorem getD_setB (bs : List Bool) (i j : Nat) (x : Bool) : (bs.set i x).getD j false = if i = j ∧ i < bs.length then x else bs.getD j false := by
  simp only [List.getD_eq_getElem?_getD, List.getElem?_set]
  by_cases h : i = j
  · subst h
    by_cases h2 : i < bs.length
    · simp [h2]
    · rw [if_pos rfl, if_neg h2, if_neg (by omega)]; simp [List.getElem?_eq_none (by omega : bs.length ≤ i)]
  · simp [h]
structure FillF (n : Nat) (V : Nat → Prop) (k : Nat) (bs : List Bool) : Prop where
  len : bs.length = n + 1
  done : ∀ i, i < k → (bs.getD i false = true ↔ V i)
  rest : ∀ i, k ≤ i → bs.getD i false = false
theorem FillF.zero (n : Nat) (V : Nat → Prop) : FillF n V 0 (List.replicate (n + 1) false) :=
  ⟨by simp, fun i hi => absurd hi (by omega), fun i _ => by simp only [List.getD_eq_getElem?_getD, List.getElem?_replicate]; split <;> rfl⟩
theorem FillF.next {n k : Nat} {V : Nat → Prop} {bs : List Bool} (h : FillF n V k bs) (hk : k ≤ n) {b : Bool} (hb : b = true ↔ V k) : FillF n V (k + 1) (bs.set k b) := by
  have hl := h.len
  refine ⟨by rw [List.length_set]; exact hl, fun i hi => ?_, fun i hi => ?_⟩
  · rw [getD_setB]
    by_cases e : k = i
    · subst e; rw [if_pos ⟨rfl, by omega⟩]; exact hb
    · rw [if_neg (fun h => e h.1)]; exact h.done i (by omega)
  · rw [getD_setB, if_neg (by omega)]; exact h.rest i (by omega)
theorem FillF.skip {n k : Nat} {V : Nat → Prop} {bs : List Bool} (h : FillF n V k bs) (hb : ¬ V k) : FillF n V (k + 1) bs := by
  refine ⟨h.len, fun i hi => ?_, fun i hi => h.rest i (by omega)⟩
  by_cases e : i = k
  · subst e; rw [h.rest i (Nat.le_refl _)]; exact ⟨fun h => (by cases h), fun h => absurd h hb⟩
  · exact h.done i (by omega)
structure FillB (n : Nat) (V : Nat → Prop) (k : Nat) (bs : List Bool) : Prop where
  len : bs.length = n + 1
  done : ∀ i, k ≤ i → i ≤ n → (bs.getD i false = true ↔ V i)
theorem FillB.next {n k : Nat} {V : Nat → Prop} {bs : List Bool} (h : FillB n V (k + 1) bs) (hk : k ≤ n) {b : Bool} (hb : b = true ↔ V k) : FillB n V k (bs.set k b) := by
  have hl := h.len
  refine ⟨by rw [List.length_set]; exact hl, fun i hi hn => ?_⟩
  rw [getD_setB]
  by_cases e : k = i
  · subst e; rw [if_pos ⟨rfl, by omega⟩]; exact hb
  · rw [if_neg (fun h => e h.1)]; exact h.done i (by omega) hn
theorem u8_bit (x : Int) (k : Nat) (h0 : 0 ≤ x) (h1 : x < 256) : (bits .and .u8 (x / 2 ^ k) 1 == 1) = x.toNat.testBit k := by
  obtain ⟨n, rfl⟩ : ∃ n : Nat, x = (n : Int) := ⟨x.toNat, by omega⟩
  have e : ((n : Int) / 2 ^ k) = ((n / 2 ^ k : Nat) : Int) := by simp
  have hd : n / 2 ^ k ≤ n := Nat.div_le_self _ _
  rw [e]
  have := u8_and_nat (n / 2 ^ k) 1 (by omega) (by decide)
  rw [show ((1 : Nat) : Int) = 1 from rfl] at this
  rw [this, Nat.and_one_is_mod, Int.toNat_natCast, Nat.testBit_eq_decide_div_mod_eq]
  by_cases h : n / 2 ^ k % 2 = 1 <;> simp [h] <;> omega
set_option maxHeartbeats 1600000 in
theorem Try.malone0_any (m c : Nat) (d : Option Addr) (zs : List Int) (w : World) (hL : LtSl w d m c zs) (hm : m ≤ 10000) :
    Calls Try.prog 73 #[.agg #[.int .u8 0, .int .u8 0], .slice d m c] w (ValR m (leafV (zN zs) 0 0) w) := by
  have hmk := Try.makeB (m + 1) (by omega)
  rw [show ((m + 1 : Nat) : Int) = (m : Int) + 1 by omega] at hmk
  have hzl : (zN zs).length = m := by rw [zN_len]; exact hL.sl.hlen
  have HL : Hid (LtSl w d m c zs) := hL
  have HV : Hid (∀ i, i ≤ m → ((leafV (zN zs) 0 0) i ↔ True)) := fun i hi => by
    simp [leafV]
  clear hL
  have hbx := below_new w (.cells #[.int .u8 0, .int .u8 0] 37)
  have hBx := (MapKept.heap_alloc w (.cells #[.int .u8 0, .int .u8 0] 37)).1
  unfold ValR
  generalize (leafV (zN zs) 0 0) = V at *
  go_enter Try.func73, Try.ntmps73
  go_wp2
  generalize hw1 : w.alloc (.cells #[.int .u8 0, .int .u8 0] 37) = w1 at *
  have hs1 : w1.heap.size = w.heap.size + 1 := by rw [← hw1]; simp
  clear hw1 hmk
  go_loopw [15] (fun i wr => ∃ k : Nat, k ≤ m + 1 ∧ i = .int .i64 k ∧ (∃ bs, Hid (ValAt wr (w.heap.size + 1) bs) ∧ Hid (FillF m V k bs)) ∧ Hid (wr.heap[w.heap.size]? = some (.cells #[.int .u8 0, .int .u8 0] 37 (0, 0))) ∧ Hid (Below w.heap.size w wr)) (fun i _ => m + 1 - (intOf i).toNat)
  case atStart =>
    refine ⟨0, Nat.zero_le _, rfl, ⟨List.replicate (m + 1) false, ?_, FillF.zero _ _⟩, ?_, ?_⟩
    · rw [← hs1]; exact ValAt.made w1 _
    · exact (Below.heap_alloc w1 _ _ (by omega)).trans hBx
    · exact below_step hbx (below_new _ _)
  case round =>
    obtain ⟨k, hk, rfl, ⟨bs, HB, HF⟩, HX, HW⟩ := hrel
    clear hbx hBx
    have hc0 := cell_row HX.out 0
    have hc1 := cell_row HX.out 1
    simp at hc0 hc1
    by_cases hlt : k < m + 1
    · have hi1 := fun w' => Try.idxB (w.heap.size + 1) (m + 1) k w' hlt
      have hcb := HB.out.cell (i := k) (by rw [HF.out.len]; exact hlt)
      have hzb := HB.out.fz k
      have HST : Hid (∀ b : Bool, ValAt (wr.setCell ⟨w.heap.size + 1, k, none⟩ (.bool b)) (w.heap.size + 1) (bs.set k b) ∧ (wr.setCell ⟨w.heap.size + 1, k, none⟩ (.bool b)).heap[w.heap.size]? = some (.cells #[.int .u8 0, .int .u8 0] 37 (0, 0)) ∧ Below w.heap.size w (wr.setCell ⟨w.heap.size + 1, k, none⟩ (.bool b))) := fun b => ⟨HB.out.set k b, (Below.heap_setCell _ _ _ _ (by dsimp only; omega)).trans HX.out, HW.out.setCell (by dsimp only; omega) _⟩
      have HVk : Hid _ := HV.out k (by omega)
      go_wp2
      go_roundw
      case rel =>
        refine ⟨k + 1, by omega, by go_num, ⟨_, (HST.out _).1, HF.out.next (by omega) ?_⟩, (HST.out _).2.1, (HST.out _).2.2⟩
        rw [HVk.out]
        simp
      case measure => simp [intOf] <;> omega
    · obtain rfl : k = m + 1 := by omega
      go_wp2
      go_ret
      exact ⟨_, bs, rfl, HB.out, HF.out.len, fun i hi => HF.out.done i (by omega), HW.out, Nat.le_succ _⟩
set_option maxHeartbeats 1600000 in
theorem Try.malone1_any (m c : Nat) (d : Option Addr) (zs : List Int) (w : World) (hL : LtSl w d m c zs) (hm : m ≤ 10000) :
    Calls Try.prog 73 #[.agg #[.int .u8 1, .int .u8 0], .slice d m c] w (ValR m (leafV (zN zs) 1 0) w) := by
  have hmk := Try.makeB (m + 1) (by omega)
  rw [show ((m + 1 : Nat) : Int) = (m : Int) + 1 by omega] at hmk
  have hzl : (zN zs).length = m := by rw [zN_len]; exact hL.sl.hlen
  have HL : Hid (LtSl w d m c zs) := hL
  have HV : Hid (∀ i, i ≤ m → ((leafV (zN zs) 1 0) i ↔ False)) := fun i hi => by
    simp [leafV]
  clear hL
  have hbx := below_new w (.cells #[.int .u8 1, .int .u8 0] 37)
  have hBx := (MapKept.heap_alloc w (.cells #[.int .u8 1, .int .u8 0] 37)).1
  unfold ValR
  generalize (leafV (zN zs) 1 0) = V at *
  go_enter Try.func73, Try.ntmps73
  go_wp2
  generalize hw1 : w.alloc (.cells #[.int .u8 1, .int .u8 0] 37) = w1 at *
  have hs1 : w1.heap.size = w.heap.size + 1 := by rw [← hw1]; simp
  clear hw1 hmk
  go_loopw [15] (fun i wr => ∃ k : Nat, k ≤ m + 1 ∧ i = .int .i64 k ∧ (∃ bs, Hid (ValAt wr (w.heap.size + 1) bs) ∧ Hid (FillF m V k bs)) ∧ Hid (wr.heap[w.heap.size]? = some (.cells #[.int .u8 1, .int .u8 0] 37 (0, 0))) ∧ Hid (Below w.heap.size w wr)) (fun i _ => m + 1 - (intOf i).toNat)
  case atStart =>
    refine ⟨0, Nat.zero_le _, rfl, ⟨List.replicate (m + 1) false, ?_, FillF.zero _ _⟩, ?_, ?_⟩
    · rw [← hs1]; exact ValAt.made w1 _
    · exact (Below.heap_alloc w1 _ _ (by omega)).trans hBx
    · exact below_step hbx (below_new _ _)
  case round =>
    obtain ⟨k, hk, rfl, ⟨bs, HB, HF⟩, HX, HW⟩ := hrel
    clear hbx hBx
    have hc0 := cell_row HX.out 0
    have hc1 := cell_row HX.out 1
    simp at hc0 hc1
    by_cases hlt : k < m + 1
    · have hi1 := fun w' => Try.idxB (w.heap.size + 1) (m + 1) k w' hlt
      have hcb := HB.out.cell (i := k) (by rw [HF.out.len]; exact hlt)
      have hzb := HB.out.fz k
      have HST : Hid (∀ b : Bool, ValAt (wr.setCell ⟨w.heap.size + 1, k, none⟩ (.bool b)) (w.heap.size + 1) (bs.set k b) ∧ (wr.setCell ⟨w.heap.size + 1, k, none⟩ (.bool b)).heap[w.heap.size]? = some (.cells #[.int .u8 1, .int .u8 0] 37 (0, 0)) ∧ Below w.heap.size w (wr.setCell ⟨w.heap.size + 1, k, none⟩ (.bool b))) := fun b => ⟨HB.out.set k b, (Below.heap_setCell _ _ _ _ (by dsimp only; omega)).trans HX.out, HW.out.setCell (by dsimp only; omega) _⟩
      have HVk : Hid _ := HV.out k (by omega)
      go_wp2
      go_roundw
      case rel => exact ⟨k + 1, by omega, by go_num, ⟨bs, HB, HF.out.skip (by rw [HVk.out]; exact id)⟩, HX, HW⟩
      case measure => simp [intOf] <;> omega
    · obtain rfl : k = m + 1 := by omega
      go_wp2
      go_ret
      exact ⟨_, bs, rfl, HB.out, HF.out.len, fun i hi => HF.out.done i (by omega), HW.out, Nat.le_succ _⟩
set_option maxHeartbeats 1600000 in
theorem Try.malone2_any (m c p : Nat) (d : Option Addr) (zs : List Int) (w : World) (hL : LtSl w d m c zs) (hm : m ≤ 10000) (hp : p ≤ 7) :
    Calls Try.prog 73 #[.agg #[.int .u8 2, .int .u8 (p : Int)], .slice d m c] w (ValR m (leafV (zN zs) 2 p) w) := by
  have hmk := Try.makeB (m + 1) (by omega)
  rw [show ((m + 1 : Nat) : Int) = (m : Int) + 1 by omega] at hmk
  have hzl : (zN zs).length = m := by rw [zN_len]; exact hL.sl.hlen
  have HL : Hid (LtSl w d m c zs) := hL
  have HV : Hid (∀ i, i ≤ m → ((leafV (zN zs) 2 p) i ↔ i < m ∧ ((zN zs).getD i 0).testBit p = true)) := fun i hi => by
    simp [leafV, hzl]
  clear hL
  have hbx := below_new w (.cells #[.int .u8 2, .int .u8 (p : Int)] 37)
  have hBx := (MapKept.heap_alloc w (.cells #[.int .u8 2, .int .u8 (p : Int)] 37)).1
  unfold ValR
  generalize (leafV (zN zs) 2 p) = V at *
  go_enter Try.func73, Try.ntmps73
  go_wp2
  generalize hw1 : w.alloc (.cells #[.int .u8 2, .int .u8 (p : Int)] 37) = w1 at *
  have hs1 : w1.heap.size = w.heap.size + 1 := by rw [← hw1]; simp
  clear hw1 hmk
  go_loopw [15] (fun i wr => ∃ k : Nat, k ≤ m + 1 ∧ i = .int .i64 k ∧ (∃ bs, Hid (ValAt wr (w.heap.size + 1) bs) ∧ Hid (FillF m V k bs)) ∧ Hid (wr.heap[w.heap.size]? = some (.cells #[.int .u8 2, .int .u8 (p : Int)] 37 (0, 0))) ∧ Hid (Below w.heap.size w wr)) (fun i _ => m + 1 - (intOf i).toNat)
  case atStart =>
    refine ⟨0, Nat.zero_le _, rfl, ⟨List.replicate (m + 1) false, ?_, FillF.zero _ _⟩, ?_, ?_⟩
    · rw [← hs1]; exact ValAt.made w1 _
    · exact (Below.heap_alloc w1 _ _ (by omega)).trans hBx
    · exact below_step hbx (below_new _ _)
  case round =>
    obtain ⟨k, hk, rfl, ⟨bs, HB, HF⟩, HX, HW⟩ := hrel
    clear hbx hBx
    have hc0 := cell_row HX.out 0
    have hc1 := cell_row HX.out 1
    simp at hc0 hc1
    by_cases hlt : k < m + 1
    · have hi1 := fun w' => Try.idxB (w.heap.size + 1) (m + 1) k w' hlt
      have hcb := HB.out.cell (i := k) (by rw [HF.out.len]; exact hlt)
      have hzb := HB.out.fz k
      have HST : Hid (∀ b : Bool, ValAt (wr.setCell ⟨w.heap.size + 1, k, none⟩ (.bool b)) (w.heap.size + 1) (bs.set k b) ∧ (wr.setCell ⟨w.heap.size + 1, k, none⟩ (.bool b)).heap[w.heap.size]? = some (.cells #[.int .u8 2, .int .u8 (p : Int)] 37 (0, 0)) ∧ Below w.heap.size w (wr.setCell ⟨w.heap.size + 1, k, none⟩ (.bool b))) := fun b => ⟨HB.out.set k b, (Below.heap_setCell _ _ _ _ (by dsimp only; omega)).trans HX.out, HW.out.setCell (by dsimp only; omega) _⟩
      have HVk : Hid _ := HV.out k (by omega)
      by_cases hc : k < m
      · have hci : (k : Int) < (m : Int) := by omega
        have hLr := HL.out.up HW.out
        have hi2 := fun w' => hLr.sl.idx m k w' hc (Nat.le_refl _)
        have hc2 := hLr.sl.cell k hc
        have hzz : 0 ≤ zs.getD k 0 ∧ zs.getD k 0 < 256 := by
          have hlz := hLr.sl.hlen
          have : zs.getD k 0 = zs[k]'(by omega) := by simp [List.getD_eq_getElem?_getD, show k < zs.length by omega]
          rw [this]; exact hLr.ok _ (List.getElem_mem _)
        have HU : Hid _ := u8_bit (zs.getD k 0) p hzz.1 hzz.2
        have HZ : Hid ((zN zs).getD k 0 = (zs.getD k 0).toNat) := by
          have hlz := hLr.sl.hlen
          show _ = _
          simp [zN, List.getD_eq_getElem?_getD, show k < zs.length by omega]
        generalize zs.getD k 0 = z at *
        generalize hr : bits BinOp.and IntKind.u8 (z / 2 ^ p) 1 = r at *
        have HR : Hid (bits BinOp.and IntKind.u8 (z / 2 ^ p) 1 = r) := hr
        clear hLr hzz
        go_wp2
        go_region
        go_wp2
        go_roundw
        case rel => exact ⟨k + 1, by omega, by go_num, ⟨_, (HST.out _).1, HF.out.next (by omega) (by rw [HVk.out, HZ.out, ← HU.out]; simp [hc])⟩, (HST.out _).2.1, Below.drew (HST.out _).2.2⟩
        case measure => simp [intOf] <;> omega
      · have hci : ¬ (k : Int) < (m : Int) := by omega
        go_wp2
        go_region
        go_wp2
        go_roundw
        case rel => exact ⟨k + 1, by omega, by go_num, ⟨_, (HST.out _).1, HF.out.next (by omega) (by rw [HVk.out]; simp [hc])⟩, (HST.out _).2.1, Below.drew (HST.out _).2.2⟩
        case measure => simp [intOf] <;> omega
    · obtain rfl : k = m + 1 := by omega
      go_wp2
      go_ret
      exact ⟨_, bs, rfl, HB.out, HF.out.len, fun i hi => HF.out.done i (by omega), HW.out, Nat.le_succ _⟩
set_option maxHeartbeats 1600000 in
theorem Try.malone3_any (m c : Nat) (d : Option Addr) (zs : List Int) (w : World) (hL : LtSl w d m c zs) (hm : m ≤ 10000) :
    Calls Try.prog 73 #[.agg #[.int .u8 3, .int .u8 0], .slice d m c] w (ValR m (leafV (zN zs) 3 0) w) := by
  have hmk := Try.makeB (m + 1) (by omega)
  rw [show ((m + 1 : Nat) : Int) = (m : Int) + 1 by omega] at hmk
  have hzl : (zN zs).length = m := by rw [zN_len]; exact hL.sl.hlen
  have HL : Hid (LtSl w d m c zs) := hL
  have HV : Hid (∀ i, i ≤ m → ((leafV (zN zs) 3 0) i ↔ i + 1 = m)) := fun i hi => by
    simp [leafV, hzl]
  clear hL
  have hbx := below_new w (.cells #[.int .u8 3, .int .u8 0] 37)
  have hBx := (MapKept.heap_alloc w (.cells #[.int .u8 3, .int .u8 0] 37)).1
  unfold ValR
  generalize (leafV (zN zs) 3 0) = V at *
  go_enter Try.func73, Try.ntmps73
  go_wp2
  generalize hw1 : w.alloc (.cells #[.int .u8 3, .int .u8 0] 37) = w1 at *
  have hs1 : w1.heap.size = w.heap.size + 1 := by rw [← hw1]; simp
  clear hw1 hmk
  go_loopw [15] (fun i wr => ∃ k : Nat, k ≤ m + 1 ∧ i = .int .i64 k ∧ (∃ bs, Hid (ValAt wr (w.heap.size + 1) bs) ∧ Hid (FillF m V k bs)) ∧ Hid (wr.heap[w.heap.size]? = some (.cells #[.int .u8 3, .int .u8 0] 37 (0, 0))) ∧ Hid (Below w.heap.size w wr)) (fun i _ => m + 1 - (intOf i).toNat)
  case atStart =>
    refine ⟨0, Nat.zero_le _, rfl, ⟨List.replicate (m + 1) false, ?_, FillF.zero _ _⟩, ?_, ?_⟩
    · rw [← hs1]; exact ValAt.made w1 _
    · exact (Below.heap_alloc w1 _ _ (by omega)).trans hBx
    · exact below_step hbx (below_new _ _)
  case round =>
    obtain ⟨k, hk, rfl, ⟨bs, HB, HF⟩, HX, HW⟩ := hrel
    clear hbx hBx
    have hc0 := cell_row HX.out 0
    have hc1 := cell_row HX.out 1
    simp at hc0 hc1
    by_cases hlt : k < m + 1
    · have hi1 := fun w' => Try.idxB (w.heap.size + 1) (m + 1) k w' hlt
      have hcb := HB.out.cell (i := k) (by rw [HF.out.len]; exact hlt)
      have hzb := HB.out.fz k
      have HST : Hid (∀ b : Bool, ValAt (wr.setCell ⟨w.heap.size + 1, k, none⟩ (.bool b)) (w.heap.size + 1) (bs.set k b) ∧ (wr.setCell ⟨w.heap.size + 1, k, none⟩ (.bool b)).heap[w.heap.size]? = some (.cells #[.int .u8 3, .int .u8 0] 37 (0, 0)) ∧ Below w.heap.size w (wr.setCell ⟨w.heap.size + 1, k, none⟩ (.bool b))) := fun b => ⟨HB.out.set k b, (Below.heap_setCell _ _ _ _ (by dsimp only; omega)).trans HX.out, HW.out.setCell (by dsimp only; omega) _⟩
      have HVk : Hid _ := HV.out k (by omega)
      by_cases hc : k + 1 = m
      · obtain rfl : m = k + 1 := by omega
        go_wp2
        go_roundw
        case rel =>
          refine ⟨k + 1, by omega, by go_num, ⟨_, (HST.out _).1, HF.out.next (by omega) ?_⟩, (HST.out _).2.1, (HST.out _).2.2⟩
          rw [HVk.out]
          simp
        case measure => simp [intOf] <;> omega
      · have hci : ¬ (k : Int) + 1 = (m : Int) := by omega
        go_wp2
        go_roundw
        case rel =>
          refine ⟨k + 1, by omega, by go_num, ⟨_, (HST.out _).1, HF.out.next (by omega) ?_⟩, (HST.out _).2.1, (HST.out _).2.2⟩
          rw [HVk.out]
          first | (simp [hc]; done) | (simp [hc]; omega)
        case measure => simp [intOf] <;> omega
    · obtain rfl : k = m + 1 := by omega
      go_wp2
      go_ret
      exact ⟨_, bs, rfl, HB.out, HF.out.len, fun i hi => HF.out.done i (by omega), HW.out, Nat.le_succ _⟩
set_option maxHeartbeats 1600000 in
theorem Try.malone4_any (m c : Nat) (d : Option Addr) (zs : List Int) (w : World) (hL : LtSl w d m c zs) (hm : m ≤ 10000) :
    Calls Try.prog 73 #[.agg #[.int .u8 4, .int .u8 0], .slice d m c] w (ValR m (leafV (zN zs) 4 0) w) := by
  have hmk := Try.makeB (m + 1) (by omega)
  rw [show ((m + 1 : Nat) : Int) = (m : Int) + 1 by omega] at hmk
  have hzl : (zN zs).length = m := by rw [zN_len]; exact hL.sl.hlen
  have HL : Hid (LtSl w d m c zs) := hL
  have HV : Hid (∀ i, i ≤ m → ((leafV (zN zs) 4 0) i ↔ i < m)) := fun i hi => by
    simp [leafV, hzl]
  clear hL
  have hbx := below_new w (.cells #[.int .u8 4, .int .u8 0] 37)
  have hBx := (MapKept.heap_alloc w (.cells #[.int .u8 4, .int .u8 0] 37)).1
  unfold ValR
  generalize (leafV (zN zs) 4 0) = V at *
  go_enter Try.func73, Try.ntmps73
  go_wp2
  generalize hw1 : w.alloc (.cells #[.int .u8 4, .int .u8 0] 37) = w1 at *
  have hs1 : w1.heap.size = w.heap.size + 1 := by rw [← hw1]; simp
  clear hw1 hmk
  go_loopw [15] (fun i wr => ∃ k : Nat, k ≤ m + 1 ∧ i = .int .i64 k ∧ (∃ bs, Hid (ValAt wr (w.heap.size + 1) bs) ∧ Hid (FillF m V k bs)) ∧ Hid (wr.heap[w.heap.size]? = some (.cells #[.int .u8 4, .int .u8 0] 37 (0, 0))) ∧ Hid (Below w.heap.size w wr)) (fun i _ => m + 1 - (intOf i).toNat)
  case atStart =>
    refine ⟨0, Nat.zero_le _, rfl, ⟨List.replicate (m + 1) false, ?_, FillF.zero _ _⟩, ?_, ?_⟩
    · rw [← hs1]; exact ValAt.made w1 _
    · exact (Below.heap_alloc w1 _ _ (by omega)).trans hBx
    · exact below_step hbx (below_new _ _)
  case round =>
    obtain ⟨k, hk, rfl, ⟨bs, HB, HF⟩, HX, HW⟩ := hrel
    clear hbx hBx
    have hc0 := cell_row HX.out 0
    have hc1 := cell_row HX.out 1
    simp at hc0 hc1
    by_cases hlt : k < m + 1
    · have hi1 := fun w' => Try.idxB (w.heap.size + 1) (m + 1) k w' hlt
      have hcb := HB.out.cell (i := k) (by rw [HF.out.len]; exact hlt)
      have hzb := HB.out.fz k
      have HST : Hid (∀ b : Bool, ValAt (wr.setCell ⟨w.heap.size + 1, k, none⟩ (.bool b)) (w.heap.size + 1) (bs.set k b) ∧ (wr.setCell ⟨w.heap.size + 1, k, none⟩ (.bool b)).heap[w.heap.size]? = some (.cells #[.int .u8 4, .int .u8 0] 37 (0, 0)) ∧ Below w.heap.size w (wr.setCell ⟨w.heap.size + 1, k, none⟩ (.bool b))) := fun b => ⟨HB.out.set k b, (Below.heap_setCell _ _ _ _ (by dsimp only; omega)).trans HX.out, HW.out.setCell (by dsimp only; omega) _⟩
      have HVk : Hid _ := HV.out k (by omega)
      by_cases hc : k < m
      · have hci : (k : Int) < (m : Int) := by omega
        go_wp2
        go_roundw
        case rel =>
          refine ⟨k + 1, by omega, by go_num, ⟨_, (HST.out _).1, HF.out.next (by omega) ?_⟩, (HST.out _).2.1, (HST.out _).2.2⟩
          rw [HVk.out]
          first | (simp [hc]; done) | (simp [hc]; omega)
        case measure => simp [intOf] <;> omega
      · have hci : ¬ (k : Int) < (m : Int) := by omega
        go_wp2
        go_roundw
        case rel =>
          refine ⟨k + 1, by omega, by go_num, ⟨_, (HST.out _).1, HF.out.next (by omega) ?_⟩, (HST.out _).2.1, (HST.out _).2.2⟩
          rw [HVk.out]
          first | (simp [hc]; done) | (simp [hc]; omega)
        case measure => simp [intOf] <;> omega
    · obtain rfl : k = m + 1 := by omega
      go_wp2
      go_ret
      exact ⟨_, bs, rfl, HB.out, HF.out.len, fun i hi => HF.out.done i (by omega), HW.out, Nat.le_succ _⟩
set_option maxHeartbeats 1600000 in
theorem Try.malone5_any (m c : Nat) (d : Option Addr) (zs : List Int) (w : World) (hL : LtSl w d m c zs) (hm : m ≤ 10000) :
    Calls Try.prog 73 #[.agg #[.int .u8 5, .int .u8 0], .slice d m c] w (ValR m (leafV (zN zs) 5 0) w) := by
  have hmk := Try.makeB (m + 1) (by omega)
  rw [show ((m + 1 : Nat) : Int) = (m : Int) + 1 by omega] at hmk
  have hzl : (zN zs).length = m := by rw [zN_len]; exact hL.sl.hlen
  have HL : Hid (LtSl w d m c zs) := hL
  have HV : Hid (∀ i, i ≤ m → ((leafV (zN zs) 5 0) i ↔ i = m)) := fun i hi => by
    simp [leafV, hzl]
  clear hL
  have hbx := below_new w (.cells #[.int .u8 5, .int .u8 0] 37)
  have hBx := (MapKept.heap_alloc w (.cells #[.int .u8 5, .int .u8 0] 37)).1
  unfold ValR
  generalize (leafV (zN zs) 5 0) = V at *
  go_enter Try.func73, Try.ntmps73
  go_wp2
  generalize hw1 : w.alloc (.cells #[.int .u8 5, .int .u8 0] 37) = w1 at *
  have hs1 : w1.heap.size = w.heap.size + 1 := by rw [← hw1]; simp
  clear hw1 hmk
  go_loopw [15] (fun i wr => ∃ k : Nat, k ≤ m + 1 ∧ i = .int .i64 k ∧ (∃ bs, Hid (ValAt wr (w.heap.size + 1) bs) ∧ Hid (FillF m V k bs)) ∧ Hid (wr.heap[w.heap.size]? = some (.cells #[.int .u8 5, .int .u8 0] 37 (0, 0))) ∧ Hid (Below w.heap.size w wr)) (fun i _ => m + 1 - (intOf i).toNat)
  case atStart =>
    refine ⟨0, Nat.zero_le _, rfl, ⟨List.replicate (m + 1) false, ?_, FillF.zero _ _⟩, ?_, ?_⟩
    · rw [← hs1]; exact ValAt.made w1 _
    · exact (Below.heap_alloc w1 _ _ (by omega)).trans hBx
    · exact below_step hbx (below_new _ _)
  case round =>
    obtain ⟨k, hk, rfl, ⟨bs, HB, HF⟩, HX, HW⟩ := hrel
    clear hbx hBx
    have hc0 := cell_row HX.out 0
    have hc1 := cell_row HX.out 1
    simp at hc0 hc1
    by_cases hlt : k < m + 1
    · have hi1 := fun w' => Try.idxB (w.heap.size + 1) (m + 1) k w' hlt
      have hcb := HB.out.cell (i := k) (by rw [HF.out.len]; exact hlt)
      have hzb := HB.out.fz k
      have HST : Hid (∀ b : Bool, ValAt (wr.setCell ⟨w.heap.size + 1, k, none⟩ (.bool b)) (w.heap.size + 1) (bs.set k b) ∧ (wr.setCell ⟨w.heap.size + 1, k, none⟩ (.bool b)).heap[w.heap.size]? = some (.cells #[.int .u8 5, .int .u8 0] 37 (0, 0)) ∧ Below w.heap.size w (wr.setCell ⟨w.heap.size + 1, k, none⟩ (.bool b))) := fun b => ⟨HB.out.set k b, (Below.heap_setCell _ _ _ _ (by dsimp only; omega)).trans HX.out, HW.out.setCell (by dsimp only; omega) _⟩
      have HVk : Hid _ := HV.out k (by omega)
      by_cases hc : k = m
      · obtain rfl : k = m := hc
        go_wp2
        go_roundw
        case rel =>
          refine ⟨k + 1, by omega, by go_num, ⟨_, (HST.out _).1, HF.out.next (by omega) ?_⟩, (HST.out _).2.1, (HST.out _).2.2⟩
          rw [HVk.out]
          simp
        case measure => simp [intOf] <;> omega
      · have hci : ¬ (k : Int) = (m : Int) := by omega
        go_wp2
        go_roundw
        case rel =>
          refine ⟨k + 1, by omega, by go_num, ⟨_, (HST.out _).1, HF.out.next (by omega) ?_⟩, (HST.out _).2.1, (HST.out _).2.2⟩
          rw [HVk.out]
          first | (simp [hc]; done) | (simp [hc]; omega)
        case measure => simp [intOf] <;> omega
    · obtain rfl : k = m + 1 := by omega
      go_wp2
      go_ret
      exact ⟨_, bs, rfl, HB.out, HF.out.len, fun i hi => HF.out.done i (by omega), HW.out, Nat.le_succ _⟩
end Go.Proofs.Ytfgaieefejdkbaa
