/- Lists of numbers in memory; SameInts. -/
import Derived.Test.YtmnkkknkmbldhaaKGen
namespace Go.Proofs.Ytmnkkknkmbldhaa
open Go.RowKit Go.Maps

/-- Block g is a row of just these numbers. -/
def RowI (w : World) (e : TypeId) (g : Nat) (cur : List Int) : Prop := w.heap[g]? = some (.cells (cur.map (Value.int .i64)).toArray e (0, 0))
theorem RowI.lt {w : World} {e : TypeId} {g : Nat} {cur : List Int} (h : RowI w e g cur) : g < w.heap.size := (Array.getElem?_eq_some_iff.1 h).1
theorem RowI.up {w w' : World} {e : TypeId} {g : Nat} {cur : List Int} (h : RowI w e g cur) (hb : Below w.heap.size w w') : RowI w' e g cur := (hb.block g h.lt).trans h
theorem RowI.cell {w : World} {e : TypeId} {g : Nat} {cur : List Int} (h : RowI w e g cur) {i : Nat} (hi : i < cur.length) : w.cell? ⟨g, i, none⟩ = some (.int .i64 (cur.getD i 0)) := by
  unfold RowI at h; simp [World.cell?, h, List.getD_eq_getElem?_getD, List.getElem?_eq_getElem hi]
theorem RowI.frozen {w : World} {e : TypeId} {g : Nat} {cur : List Int} (h : RowI w e g cur) (i : Nat) : w.frozen? ⟨g, i, none⟩ = false := frozen_of_row w g i _ e h
theorem RowI.set {w : World} {e : TypeId} {g : Nat} {cur : List Int} (h : RowI w e g cur) (i : Nat) (x : Int) : RowI (w.setCell ⟨g, i, none⟩ (.int .i64 x)) e g (cur.set i x) := by
  have := heap_setCell_same w g i _ e (.int .i64 x) h
  unfold RowI; rw [this]; simp [List.map_set]
theorem RowI.other {w : World} {e : TypeId} {g g' : Nat} {cur : List Int} (h : RowI w e g cur) (hne : g ≠ g') (i : Nat) (v : Value) : RowI (w.setCell ⟨g', i, none⟩ v) e g cur := (Below.heap_setCell _ _ _ _ hne).trans h
theorem RowI.owns {w : World} {e : TypeId} {g base n : Nat} {cur : List Int} (h : RowI w e g cur) (hb : base ≤ g) (hl : cur.length = n) (hm : n ≤ maxLen) : w.ownsRow base e 1 (.slice (some ⟨g, 0, none⟩) n n) n (cur.map (Value.int .i64)) :=
  ⟨by simp [hl], Or.inr ⟨g, n, _, rfl, hb, h, Nat.le_refl _, hm, by simp [hl], by rw [Nat.mul_one, List.take_of_length_le (by simp [hl])]⟩⟩
theorem madeI (n : Nat) : madeCells #[.int .i64 0] n = ((List.replicate n (0 : Int)).map (Value.int .i64)).toArray := by
  apply Array.ext_getElem?
  intro i
  by_cases h : i < n
  · simp [madeCells, h, Nat.mod_one]
  · simp [madeCells, h]
theorem set_fill {xs : List Int} {n k : Nat} (hl : xs.length = n) (hk : k < n) : (xs.take k ++ List.replicate (n - k) 0).set k (xs.getD k 0) = xs.take (k + 1) ++ List.replicate (n - (k + 1)) 0 := by
  have h1 : (xs.take k).length = k := by simp; omega
  have h2 : n - k = (n - (k + 1)) + 1 := by omega
  have e : xs.getD k 0 = xs[k]'(by omega) := by simp [List.getD_eq_getElem?_getD, List.getElem?_eq_getElem (show k < xs.length by omega)]
  rw [List.set_append_right _ _ (by omega), h1, Nat.sub_self, h2, List.replicate_succ, List.set_cons_zero, List.take_add_one, List.getElem?_eq_getElem (by omega), e, List.append_assoc]
  rfl
/-- What Blocks and Depths answer. -/
def IntsR (T : TypeId) (E : Nat) (zs : List Int) (w : World) (e : Ending) (w' : World) : Prop :=
  ∃ v, e = .returned (.tuple #[v, .int .i64 (E : Int)]) ∧ (E = 0 → w'.ownsRow w.heap.size T 1 v zs.length (zs.map (Value.int .i64))) ∧ (E ≠ 0 → v = .slice none 0 0)
theorem Try.infoInt : (Try.prog.info? 3).map (fun i => (i.zero, i.size, i.bytes)) = some (some (.int .i64 0), 1, 8) := by kernel_rfl
theorem Try.makeInts (l : Nat) (hb : l ≤ 1000000) (w : World) :
    (Instr.makeSlice 30 (.int .i64 (l : Int)) (.int .i64 (l : Int))).run Try.prog w = .ok (.slice (some ⟨w.heap.size, 0, none⟩) l l) (w.alloc (.cells (madeCells #[.int .i64 0] l) 3)) := by
  obtain ⟨i, hi, hz0, hz1, hz2⟩ := info_parts Try.infoInt
  have := run_make (P := Try.prog) w 30 3 i (.int .i64 0) Try.underlying30 hi hz0 .i64 .i64 (l : Int) (l : Int) (by omega) (by omega) (by rw [hz2]; omega) (by omega)
  rw [this, hz1]
  simp only [Int.toNat_natCast, Nat.mul_one]
  rfl
theorem Try.sizeInt : (Try.prog.info? 3).map (·.size) = some 1 := by kernel_rfl
set_option maxHeartbeats 2000000 in
/-- SameInts tells whether two lists are one. -/
theorem Try.sameI_any (a : Option Addr) (len cap : Nat) (xs : List Int) (a' : Option Addr) (len' cap' : Nat) (ys : List Int) (w : World)
    (hS : IntSl Try.prog 30 .i64 w a len cap xs) (hO : IntSl Try.prog 30 .i64 w a' len' cap' ys) :
    Calls Try.prog 22 #[.slice a len cap, .slice a' len' cap'] w fun e w' => e = .returned (.bool (decide (xs = ys))) ∧ ∃ n, w' = w.drewN n := by
  have hb0 := hS.bd
  have hb1 := hS.hcap
  have hb2 := hO.bd
  have hb3 := hO.hcap
  unfold maxLen at hb0 hb2
  by_cases hll : len = len'
  · subst hll
    have hidx := fun (k : Nat) (w : World) (h : k < len) => hS.idx len k w h (Nat.le_refl _)
    have hidx' := fun (k : Nat) (w : World) (h : k < len) => hO.idx len k w h (Nat.le_refl _)
    go_enter Try.func22, Try.ntmps22
    go_wp2
    go_loopw [5] (fun i wr => ∃ k : Nat, k ≤ len ∧ i = .int .i64 k ∧ Hid (xs.take k = ys.take k) ∧ Hid (∃ n, wr = w.drewN n)) (fun i _ => len - (intOf i).toNat)
    case atStart => exact ⟨0, Nat.zero_le _, rfl, by show _ = _; simp, 0, rfl⟩
    case round =>
      obtain ⟨k, hk, rfl, HU, hwr⟩ := hrel
      by_cases hlt : k < len
      · have hS' : IntSl Try.prog 30 .i64 wr a len cap xs := by obtain ⟨n, hn⟩ := hwr.out; rw [hn]; exact hS.drewN n
        have hO' : IntSl Try.prog 30 .i64 wr a' len cap' ys := by obtain ⟨n, hn⟩ := hwr.out; rw [hn]; exact hO.drewN n
        have hck := hS'.cell k hlt
        have hck' := hO'.cell k hlt
        have HN : Hid (xs.getD k 0 = ys.getD k 0 → xs.take (k + 1) = ys.take (k + 1)) := fun h => take_eq_next (by rw [hS.hlen]; exact hlt) (by rw [hO.hlen]; exact hlt) HU.out h
        have HM : Hid (xs.getD k 0 ≠ ys.getD k 0 → decide (xs = ys) = false) := fun h => decide_eq_false (fun e => h (by rw [e]))
        clear hS' hO'
        generalize xs.getD k 0 = x at *
        generalize ys.getD k 0 = y at *
        go_wp2
        go_quiet (fail)
        rcases Bool.eq_false_or_eq_true (x != y) with ht | ht
        · go_wp2
          go_ret
          obtain ⟨n, hn⟩ := hwr.out
          exact ⟨by rw [HM.out (by simpa using ht)]; rfl, n + nq, by rw [hn, World.drewN_drewN]⟩
        · have HN2 : Hid _ := HN.out (by simpa using ht)
          go_wp2
          go_roundw
          case rel =>
            obtain ⟨n, hn⟩ := hwr.out
            exact ⟨k + 1, by omega, by go_num, HN2, n + nq, by rw [hn, World.drewN_drewN]⟩
          case measure => simp [intOf]; omega
      · have hx : Hid (decide (xs = ys) = true) := by
          have := HU.out
          rw [List.take_of_length_le (by rw [hS.hlen]; omega), List.take_of_length_le (by rw [hO.hlen]; omega)] at this
          exact decide_eq_true this
        go_wp2
        go_ret
        exact ⟨by rw [hx.out]; rfl, hwr.out⟩
  · have hx : Hid (decide (xs = ys) = false) := decide_eq_false (fun e => hll (by rw [← hS.hlen, ← hO.hlen, e]))
    have hll' : ((len : Int) != (len' : Int)) = true := by simp; omega
    clear hll
    go_enter Try.func22, Try.ntmps22
    go_wp2
    go_ret
    exact ⟨by rw [hx.out]; rfl, 0, rfl⟩
end Go.Proofs.Ytmnkkknkmbldhaa
