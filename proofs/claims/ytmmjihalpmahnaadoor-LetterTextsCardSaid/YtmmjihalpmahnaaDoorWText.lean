/- What letter.text answers: the names that hold, a blank between each two; a dash for none. -/
import Derived.Test.YtmmjihalpmahnaaDoorWApart2
import Derived.Test.YtmmjihalpmahnaaDoorPlainT
import Derived.Test.YtmmjihalpmahnaaDoorShelf
namespace Go.Proofs.YtmmjihalpmahnaaDoor
open Go.RowKit Go.Maps

theorem and_bit_nat (x i : Nat) : (x &&& 2 ^ i ≠ 0) ↔ x / 2 ^ i % 2 = 1 := by
  have h := Nat.testBit_eq_decide_div_mod_eq (x := x) (i := i)
  constructor
  · intro hne
    have : x.testBit i = true := by
      apply Classical.byContradiction
      intro hf
      apply hne
      apply Nat.eq_of_testBit_eq
      intro j
      rw [Nat.testBit_and, Nat.testBit_two_pow, Nat.zero_testBit]
      by_cases e : i = j
      · subst e; simp at hf; simp [hf]
      · simp [e]
    rw [this] at h
    exact of_decide_eq_true h.symm
  · intro he h0
    have ht : x.testBit i = true := by rw [h]; exact decide_eq_true he
    have : (x &&& 2 ^ i).testBit i = true := by rw [Nat.testBit_and, Nat.testBit_two_pow, ht]; simp
    rw [h0, Nat.zero_testBit] at this; exact absurd this (by decide)
theorem pow_cast (i : Nat) : ((2 : Int) ^ i) = ((2 ^ i : Nat) : Int) := by rw [Int.natCast_pow]; rfl
theorem and_bit (l : Int) (i : Nat) (h0 : 0 ≤ l) (h1 : l < 256) (hi : i < 8) : (bits BinOp.and IntKind.u8 l (2 ^ i % 256) != 0) = bitB l i := by
  have hp : (2 ^ i : Nat) < 256 := Nat.lt_of_lt_of_le (Nat.pow_lt_pow_right (by decide) hi) (by decide)
  have key : ∀ M : Nat, M < 256 → ((M : Int) % 256 = (M : Int)) := fun M h => by omega
  have h := and_bit_nat l.toNat i
  unfold bitB
  rw [decide_eq_true (show 0 ≤ (i : Int) ∧ (i : Int) < 8 by omega), Bool.true_and, Int.toNat_natCast, pow_cast, key _ hp, u8_and l _ h0 h1 (Int.natCast_nonneg _) (Int.ofNat_lt.2 hp), Int.toNat_natCast]
  have hl : (l : Int) = ((l.toNat : Nat) : Int) := by omega
  have e2 : l / ((2 ^ i : Nat) : Int) % 2 = ((l.toNat / 2 ^ i % 2 : Nat) : Int) := by
    conv => lhs; rw [hl]
    rw [← Int.natCast_ediv]; exact (Int.natCast_emod _ 2).symm
  rw [e2]
  generalize l.toNat / 2 ^ i % 2 = q at *
  generalize l.toNat &&& 2 ^ i = p at *
  by_cases hb : q = 1
  · have h3 := h.2 hb
    subst hb
    have : ((p : Int) != 0) = true := by simp; omega
    rw [this]; rfl
  · have h3 : p = 0 := Classical.byContradiction fun e => hb (h.1 e)
    subst h3
    have : decide ((q : Int) = 1) = false := decide_eq_false (by omega)
    rw [this]; rfl

/-- The texts that hold in a letter, among the first k. -/
def onB (l : Int) (ss : List ByteArray) : Nat → List ByteArray
  | 0 => []
  | k + 1 => onB l ss k ++ (if bitB l k then [ss.getD k ByteArray.empty] else [])
theorem onB_len (l : Int) (ss : List ByteArray) : ∀ k, (onB l ss k).length ≤ k
  | 0 => by simp [onB]
  | k + 1 => by have := onB_len l ss k; simp [onB]; split <;> simp <;> omega
theorem onB_t {l : Int} {ss : List ByteArray} {k : Nat} (h : bitB l k = true) : onB l ss (k + 1) = onB l ss k ++ [ss.getD k ByteArray.empty] := by simp [onB, h]
theorem onB_f {l : Int} {ss : List ByteArray} {k : Nat} (h : bitB l k = false) : onB l ss (k + 1) = onB l ss k := by simp [onB, h]
theorem onB_size {l : Int} {ss : List ByteArray} (hz : ∀ k, (ss.getD k ByteArray.empty).size ≤ 20) : ∀ k, ∀ x ∈ onB l ss k, x.size ≤ 20
  | 0, x, hx => by simp [onB] at hx
  | k + 1, x, hx => by
    simp only [onB, List.mem_append] at hx
    rcases hx with hx | hx
    · exact onB_size hz k x hx
    · split at hx
      · simp only [List.mem_singleton] at hx; subst hx; exact hz k
      · simp at hx
def textB (l : Int) (ss : List ByteArray) : ByteArray :=
  if onB l ss ss.length = [] then ⟨#[45]⟩ else ⟨(Lib.join ((onB l ss ss.length).map (·.data.toList)) [32]).toArray⟩

theorem join_len (c : UInt8) : ∀ (xs : List Bytes) (n : Nat), (∀ x ∈ xs, x.length ≤ n) → (Lib.join xs [c]).length ≤ xs.length * (n + 1)
  | [], n, _ => by simp [Lib.join_nil]
  | x :: r, n, h => by
    rw [Lib.join_cons]
    have hx := h x (by simp)
    have hr : (Lib.joinTail [c] r).length ≤ r.length * (n + 1) := by
      have h' : ∀ x ∈ r, x.length ≤ n := fun x hx => h x (by simp [hx])
      clear h hx
      induction r with
      | nil => simp [Lib.joinTail]
      | cons y r ih =>
        have hy := h' y (by simp)
        have := ih (fun x hx => h' x (by simp [hx]))
        simp [Lib.joinTail] at this ⊢
        rw [Nat.add_mul]; omega
    simp; rw [Nat.add_mul]; omega

def TextR (l : Int) (ss : List ByteArray) (e : Ending) : Prop := e = .returned (.string (textB l ss))

set_option maxRecDepth 100000 in
set_option maxHeartbeats 1000000 in
theorem Tryd.text_any (a : Option Addr) (len cap : Nat) (ad : Nat → Addr) (ss : List ByteArray) (l : Int) (w : World) (hS : StrSl Tryd.prog 22 w a len cap ad ss) (h8 : len ≤ 8) (hz : ∀ k, (ss.getD k ByteArray.empty).size ≤ 20) (hl0 : 0 ≤ l) (hl1 : l < 256) :
    Calls Tryd.prog 32 #[.slice a len cap, .int .u8 l] w fun e w' => TextR l ss e ∧ Below w.heap.size w w' := by
  obtain ⟨i0, hi, hz0, hz1, hz2⟩ := info_parts Tryd.infoStr
  have HI : Hid (Tryd.prog.info? 9 = some i0) := hi
  have HZ1 : Hid (i0.size = 1) := hz1
  clear hi hz0 hz1 hz2
  have hidx := fun (k : Nat) (w : World) (h : k < len) => hS.idx len k w h (Nat.le_refl _)
  have hmk := fun w => Tryd.makeStr 0 len 0 (len : Int) rfl rfl (by omega) (by omega) w
  have HL : Hid (ss.length = len) := hS.hlen
  go_enter Tryd.func32, Tryd.ntmps32
  go_wp2
  clear hmk
  go_loopw [5, 13] (fun o i wr => ∃ k : Nat, k ≤ len ∧ i = .int .i64 k ∧ o = .slice (some ⟨w.heap.size, 0, none⟩) (onB l ss k).length len ∧ wr.ownsRow w.heap.size 9 1 (.slice (some ⟨w.heap.size, 0, none⟩) (onB l ss k).length len) (onB l ss k).length ((onB l ss k).map Value.string) ∧ Below w.heap.size w wr) (fun _ i _ => len - (intOf i).toNat)
  case atStart =>
    refine ⟨0, Nat.zero_le _, rfl, rfl, ⟨by simp [onB], Or.inr ⟨w.heap.size, len, _, rfl, Nat.le_refl _, (MapKept.heap_alloc w _).1, Nat.zero_le _, by unfold maxLen; omega, by simp [encS], by simp [onB]⟩⟩, (Below.refl _ _).alloc (Nat.le_refl _) _⟩
  case round =>
    obtain ⟨k, hk, rfl, rfl, hown, hnx⟩ := hrel
    by_cases hlt : k < len
    · have hS' := hS.up hnx
      have hck := hS'.cell k hlt
      have hbit : Hid ((bits BinOp.and IntKind.u8 l (2 ^ k % 256) != 0) = bitB l k) := and_bit l k hl0 hl1 (by omega)
      have hol := onB_len l ss k
      have hxz := hz k
      have ht : bitB l k = true → Hid (onB l ss (k + 1) = onB l ss k ++ [ss.getD k ByteArray.empty]) := fun h => onB_t h
      clear hS'
      generalize ss.getD k ByteArray.empty = x at *
      rcases Bool.eq_false_or_eq_true (bitB l k) with hb | hb
      · have HT := ht hb
        have hbx := hbit.out
        rw [hb] at hbx
        clear ht hb
        generalize onB l ss k = xs at *
        go_wp2_with (first | (go_at_call 45; refine (Tryd.bit_any _ _ (by omega) (by omega)).mono ?_; rintro e w' ⟨rfl, rfl⟩) | (at_builtin; refine wpList_append_fits _ rfl _ _ 22 rfl w.heap.size 9 i0 1 Tryd.underlying22 HI.out HZ1.out w.heap.size _ len _ rfl (hown.alloc _) ⟨_, 0, none⟩ 1 1 [.string x] rfl rfl (cell_one_new _ _ _) (by intro u hu; simp at hu; subst hu; rfl) (by omega) ?_))
        intro w1 hown1 hgrow1
        have R1 : Hid (w1.ownsRow w.heap.size 9 1 (.slice (some ⟨w.heap.size, 0, none⟩) (onB l ss (k + 1)).length len) (onB l ss (k + 1)).length ((onB l ss (k + 1)).map Value.string)) := by
          show World.ownsRow _ _ _ _ _ _ _
          rw [HT.out, List.map_append, List.length_append]; exact hown1
        have R2 := (hnx.alloc hnx.size _).grown hgrow1 (by simp; have := hnx.size; omega) (fun j hj => by cases hj; exact Nat.le_refl _)
        have R3 : Hid (xs.length + 1 = (onB l ss (k + 1)).length) := by show _ = _; rw [HT.out, List.length_append]; rfl
        clear hown1 hgrow1 hown hbx
        go_wp2
        go_roundw
        case rel => exact ⟨k + 1, by omega, by go_num, by rw [R3.out], R1.out, R2⟩
        case measure => simp [intOf]; omega
      · have hbx := hbit.out
        rw [hb] at hbx
        have R1 : onB l ss (k + 1) = onB l ss k := onB_f hb
        have HR : Hid (onB l ss (k + 1) = onB l ss k) := R1
        clear R1 hb ht
        go_wp2_with (go_at_call 45; refine (Tryd.bit_any _ _ (by omega) (by omega)).mono ?_; rintro e w' ⟨rfl, rfl⟩)
        go_roundw
        case rel => exact ⟨k + 1, by omega, by go_num, by rw [HR.out], by rw [HR.out]; exact hown, hnx⟩
        case measure => simp [intOf]; omega
    · obtain rfl : len = k := by omega
      have hol := onB_len l ss len
      have hzz := onB_size (l := l) hz len
      have HT : Hid (textB l ss = if onB l ss len = [] then ⟨#[45]⟩ else ⟨(Lib.join ((onB l ss len).map (·.data.toList)) [32]).toArray⟩) := by show _ = _; unfold textB; rw [HL.out]
      generalize onB l ss len = xs at *
      cases xs with
      | nil =>
        go_wp2
        go_ret
        exact ⟨by unfold TextR; rw [HT.out]; rfl, hnx⟩
      | cons y r =>
        have hc : ∀ (j : Nat) x, (y :: r)[j]? = some x → wr.cell? ⟨w.heap.size, 0 + j, none⟩ = some (.string x) := by
          intro j x hj
          obtain ⟨_, hh⟩ := hown
          rcases hh with ⟨hh, _⟩ | ⟨g, cp, cur, hv, _, hcell, _, _, _, htk⟩
          · cases hh
          · injection hv with hv _ hcp; injection hv with hv; injection hv with hv; subst hv
            have hjl : j < (y :: r).length := (List.getElem?_eq_some_iff.1 hj).1
            have : (cur.toList.take ((y :: r).length * 1))[j]? = some (.string x) := by rw [htk, List.getElem?_map, hj]; rfl
            rw [List.getElem?_take, if_pos (by omega)] at this
            rw [Nat.zero_add]
            simp [World.cell?, hcell]
            simpa using this
        have hj := Tryd.strings_Join w.heap.size 0 len (y :: r) ⟨#[32]⟩ wr hc (hown.2.elim (fun h => absurd h.1 (by simp)) (fun ⟨g, cp, cur, hv, _, hcell, _⟩ => by injection hv with hv; injection hv with hv; injection hv with hv; subst hv; exact (Array.getElem?_eq_some_iff.1 hcell).1)) (by omega) (by omega)
          (by
            have := join_len 32 ((y :: r).map (·.data.toList)) 20 (fun z hz => by obtain ⟨x, hx, rfl⟩ := List.mem_map.1 hz; exact hzz x hx)
            have e : (⟨#[32]⟩ : ByteArray).data.toList = [32] := rfl
            rw [e]; simp only [List.length_map] at this; omega)
        have hj2 : Calls Tryd.prog 39 #[.slice (some ⟨w.heap.size, 0, none⟩) (y :: r).length len, .string ⟨#[32]⟩] wr fun e w' => TextR l ss e ∧ Below wr.heap.size wr w' :=
          hj.mono fun e w' ⟨he, hb⟩ => ⟨by unfold TextR; rw [HT.out, he, if_neg (by simp)], hb⟩
        have hne : (((y :: r).length : Int) == 0) = false := by simp; omega
        clear hj hc
        generalize (y :: r).length = q at *
        go_wp2_with fail
        refine hj2.mono ?_
        rintro e w2 ⟨he, hb2⟩
        unfold TextR at he
        subst he
        go_wp2
        go_ret
        exact ⟨rfl, hnx.trans (hb2.mono hnx.size)⟩
end Go.Proofs.YtmmjihalpmahnaaDoor
