/- Slices as walks read them, whether nil or not, and rows of letters in blocks of their own; what SameLetters, All and the document's All answer. -/
import Derived.Test.YtnaalbcbmhpfjaaWBits
import Derived.Laws.OwnMore
namespace Go.Proofs.Ytnaalbcbmhpfjaa
open Go.RowKit Go.Maps

/-- Where place i of a slice lies. -/
def adOf (a : Option Addr) (i : Nat) : Addr := match a with
  | some x => x.add i
  | none => ⟨0, 0, none⟩
theorem add_plain (g o i : Nat) : (⟨g, o, none⟩ : Addr).add i = ⟨g, o + i, none⟩ := by unfold Addr.add; split <;> simp_all

theorem sizeOf_run {P : Program} {e : TypeId} (h : (P.info? e).map (·.size) = some 1) (w : World) : (sizeOf e).run P w = .ok 1 w := by
  cases hq : P.info? e with
  | none => simp [hq] at h
  | some i => simp [hq] at h; simp [sizeOf, typeInfo, hq, h]
theorem idx_of {P : Program} {T e : TypeId} (hu : P.underlying T = some (.slice e)) (hs : (P.info? e).map (·.size) = some 1) {a : Option Addr} {cap n : Nat} (hn : a = none → n = 0) (k : Nat) (w : World) (hk : k < n) :
    (Instr.indexAt T (.slice a n cap) (.int .i64 k)).run P w = .ok (.pointer (some (adOf a k))) w := by
  cases a with
  | none => have := hn rfl; omega
  | some x => simp [Instr.indexAt, run_underlying hu, asIntOf, sizeOf_run hs, hk, adOf, Result.andThen, go_sem]

/-- A slice of integers of one kind as the walk reads it. -/
structure IntSl (P : Program) (T : TypeId) (q : IntKind) (w : World) (a : Option Addr) (len cap : Nat) (zs : List Int) : Prop where
  hlen : zs.length = len
  hcap : len ≤ cap
  bd : cap ≤ maxLen
  idx : ∀ (n k : Nat) (w : World), k < n → n ≤ len → (Instr.indexAt T (.slice a n cap) (.int .i64 k)).run P w = .ok (.pointer (some (adOf a k))) w
  cell : ∀ k, k < len → w.cell? (adOf a k) = some (.int q (zs.getD k 0))
  blk : ∀ k, k < len → (adOf a k).block < w.heap.size
  nn : a = none → cap = 0
theorem IntSl.later {P : Program} {T : TypeId} {q : IntKind} {w w' : World} {a : Option Addr} {len cap : Nat} {zs : List Int} (h : IntSl P T q w a len cap zs) {B : Nat} (hb : Below B w w') (hB : ∀ k, k < len → (adOf a k).block < B) : IntSl P T q w' a len cap zs :=
  ⟨h.hlen, h.hcap, h.bd, h.idx, fun k hk => (hb.cell (hB k hk)).trans (h.cell k hk), fun k hk => Nat.lt_of_lt_of_le (h.blk k hk) hb.size, h.nn⟩
theorem IntSl.up {P : Program} {T : TypeId} {q : IntKind} {w w' : World} {a : Option Addr} {len cap : Nat} {zs : List Int} (h : IntSl P T q w a len cap zs) (hb : Below w.heap.size w w') : IntSl P T q w' a len cap zs := h.later hb h.blk
theorem IntSl.drewN {P : Program} {T : TypeId} {q : IntKind} {w : World} {a : Option Addr} {len cap : Nat} {zs : List Int} (h : IntSl P T q w a len cap zs) (n : Nat) : IntSl P T q (w.drewN n) a len cap zs := h.up (below_drewN (Below.refl _ _) n)

theorem take_snoc_int {zs : List Int} {k : Nat} (h : k < zs.length) : zs.take (k + 1) = zs.take k ++ [zs.getD k 0] := by
  rw [List.take_add_one, List.getElem?_eq_getElem h]; simp [List.getD_eq_getElem?_getD, List.getElem?_eq_getElem h]
theorem take_eq_next {xs ys : List Int} {k : Nat} (hx : k < xs.length) (hy : k < ys.length) (h : xs.take k = ys.take k) (he : xs.getD k 0 = ys.getD k 0) : xs.take (k + 1) = ys.take (k + 1) := by
  rw [take_snoc_int hx, take_snoc_int hy, h, he]

set_option maxHeartbeats 800000 in
/-- SameLetters tells whether two lists are one. -/
theorem Try.same_any (a : Option Addr) (len cap : Nat) (xs : List Int) (a' : Option Addr) (len' cap' : Nat) (ys : List Int) (w : World)
    (hS : IntSl Try.prog 36 .u8 w a len cap xs) (hO : IntSl Try.prog 36 .u8 w a' len' cap' ys) :
    Calls Try.prog 28 #[.slice a len cap, .slice a' len' cap'] w fun e w' => e = .returned (.bool (decide (xs = ys))) ∧ ∃ n, w' = w.drewN n := by
  have hb0 := hS.bd
  have hb1 := hS.hcap
  have hb2 := hO.bd
  have hb3 := hO.hcap
  unfold maxLen at hb0 hb2
  by_cases hll : len = len'
  · subst hll
    have hidx := fun (k : Nat) (w : World) (h : k < len) => hS.idx len k w h (Nat.le_refl _)
    have hidx' := fun (k : Nat) (w : World) (h : k < len) => hO.idx len k w h (Nat.le_refl _)
    go_enter Try.func28, Try.ntmps28
    go_wp2
    go_loopw [5] (fun i wr => ∃ k : Nat, k ≤ len ∧ i = .int .i64 k ∧ Hid (xs.take k = ys.take k) ∧ Hid (∃ n, wr = w.drewN n)) (fun i _ => len - (intOf i).toNat)
    case atStart => exact ⟨0, Nat.zero_le _, rfl, by show _ = _; simp, 0, rfl⟩
    case round =>
      obtain ⟨k, hk, rfl, HU, hwr⟩ := hrel
      by_cases hlt : k < len
      · have hS' : IntSl Try.prog 36 .u8 wr a len cap xs := by obtain ⟨n, hn⟩ := hwr.out; rw [hn]; exact hS.drewN n
        have hO' : IntSl Try.prog 36 .u8 wr a' len cap' ys := by obtain ⟨n, hn⟩ := hwr.out; rw [hn]; exact hO.drewN n
        have hck := hS'.cell k hlt
        have hck' := hO'.cell k hlt
        have HN : Hid (xs.getD k 0 = ys.getD k 0 → xs.take (k + 1) = ys.take (k + 1)) := fun h => take_eq_next (by rw [hS.hlen]; exact hlt) (by rw [hO.hlen]; exact hlt) HU.out h
        have HM : Hid (xs.getD k 0 ≠ ys.getD k 0 → decide (xs = ys) = false) := fun h => decide_eq_false (fun e => h (by rw [e]))
        clear hS' hO'
        generalize xs.getD k 0 = x at *
        generalize ys.getD k 0 = y at *
        go_wp2
        go_quiet (fail)
        rcases Bool.eq_false_or_eq_true (x != y) with ht | ht
        · go_wp2
          go_ret
          obtain ⟨n, hn⟩ := hwr.out
          exact ⟨by rw [HM.out (by simpa using ht)]; rfl, n + nq, by rw [hn, World.drewN_drewN]⟩
        · have HN2 : Hid _ := HN.out (by simpa using ht)
          go_wp2
          go_roundw
          case rel =>
            obtain ⟨n, hn⟩ := hwr.out
            exact ⟨k + 1, by omega, by go_num, HN2, n + nq, by rw [hn, World.drewN_drewN]⟩
          case measure => simp [intOf]; omega
      · have hx : Hid (decide (xs = ys) = true) := by
          have := HU.out
          rw [List.take_of_length_le (by rw [hS.hlen]; omega), List.take_of_length_le (by rw [hO.hlen]; omega)] at this
          exact decide_eq_true this
        go_wp2
        go_ret
        exact ⟨by rw [hx.out]; rfl, hwr.out⟩
  · have hx : Hid (decide (xs = ys) = false) := decide_eq_false (fun e => hll (by rw [← hS.hlen, ← hO.hlen, e]))
    have hll' : ((len : Int) != (len' : Int)) = true := by simp; omega
    clear hll
    go_enter Try.func28, Try.ntmps28
    go_wp2
    go_ret
    exact ⟨by rw [hx.out]; rfl, 0, rfl⟩
end Go.Proofs.Ytnaalbcbmhpfjaa
