/- Lists of bools in memory; SameBools. -/
import Derived.Test.YtmnkkknkmbldhaaMnR
import Derived.Test.YtmnkkknkmbldhaaKGen
import Derived.KernelRfl
import Derived.BigQuiet
namespace Go.Proofs.Ytmnkkknkmbldhaa
open Go.RowKit Go.Maps

/-- A list of bools, wherever it lies. -/
structure BoSl (w : World) (a : Option Addr) (len cap : Nat) (bs : List Bool) : Prop where
  hlen : bs.length = len
  hcap : len ≤ cap
  bd : cap ≤ maxLen
  nn : a = none → cap = 0
  c : ∀ x, a = some x → ∀ k (h : k < bs.length), w.cell? (x.add k) = some (.bool bs[k])
theorem BoSl.some_of {w : World} {a : Option Addr} {len cap : Nat} {bs : List Bool} (h : BoSl w a len cap bs) (hl : 0 < len) : ∃ x, a = some x := by
  cases a with
  | none => have := h.nn rfl; have := h.hcap; omega
  | some x => exact ⟨x, rfl⟩
theorem BoSl.up {w w' : World} {a : Option Addr} {len cap : Nat} {bs : List Bool} (h : BoSl w a len cap bs) (hb : Below w.heap.size w w') : BoSl w' a len cap bs :=
  ⟨h.hlen, h.hcap, h.bd, h.nn, fun x hx k hk => kept_cell (h.c x hx k hk) hb⟩
theorem BoSl.nil {w : World} : BoSl w none 0 0 [] := ⟨rfl, Nat.le_refl _, Nat.zero_le _, fun _ => rfl, fun x hx => (by cases hx)⟩
theorem Try.sizeBo : (Try.prog.info? 4).map (·.size) = some 1 := by kernel_rfl
theorem BoSl.at {w : World} {a : Option Addr} {len cap : Nat} {bs : List Bool} (h : BoSl w a len cap bs) (k : Nat) (hk : k < len) :
    (∀ (n : Nat) (w' : World), k < n → (Instr.indexAt 46 (.slice a n cap) (.int .i64 k)).run Try.prog w' = .ok (.pointer (some (adOf a k))) w') ∧ w.cell? (adOf a k) = some (.bool (bs[k]'(by rw [h.hlen]; exact hk))) := by
  obtain ⟨x, rfl⟩ := h.some_of (by omega)
  refine ⟨fun n w' hn => idx_of Try.underlying46 Try.sizeBo (by simp) k w' hn, h.c x rfl k (by rw [h.hlen]; exact hk)⟩
theorem own_bo {w : World} {base e n : Nat} {v : Value} {bs : List Bool} (h : w.ownsRow base e 1 v n (bs.map Value.bool)) : ∃ a cap, v = .slice a n cap ∧ BoSl w a n cap bs := by
  obtain ⟨hl, h⟩ := h
  simp at hl
  rcases h with ⟨rfl, rfl⟩ | ⟨g, cap, cur, rfl, hg, hcell, hnc, hcm, hsz, htk⟩
  · obtain rfl := List.eq_nil_of_length_eq_zero hl
    exact ⟨none, 0, rfl, BoSl.nil⟩
  · refine ⟨some ⟨g, 0, none⟩, cap, rfl, hl, hnc, hcm, fun h => (by cases h), fun x hx k hk => ?_⟩
    injection hx with hx; subst hx
    have e1 : (cur.toList.take (n * 1))[k]? = some (.bool bs[k]) := by rw [htk]; simp [hk]
    rw [List.getElem?_take, if_pos (by omega)] at e1
    rw [add_plain, Nat.zero_add]
    simp [World.cell?, hcell]
    simpa using e1
set_option maxHeartbeats 800000 in
theorem Try.sameB_any (a : Option Addr) (len cap : Nat) (xs : List Bool) (a' : Option Addr) (len' cap' : Nat) (ys : List Bool) (w : World) (hS : BoSl w a len cap xs) (hO : BoSl w a' len' cap' ys) :
    Calls Try.prog 50 #[.slice a len cap, .slice a' len' cap'] w fun e w' => e = .returned (.bool (decide (xs = ys))) ∧ Below w.heap.size w w' := by
  have hb0 := hS.bd
  have hb1 := hS.hcap
  have hb2 := hO.bd
  have hb3 := hO.hcap
  unfold maxLen at hb0 hb2
  by_cases hll : len = len'
  · subst hll
    go_enter Try.func50, Try.ntmps50
    go_wp2
    go_loopw [5] (fun i wr => ∃ k : Nat, k ≤ len ∧ i = .int .i64 k ∧ Hid (xs.take k = ys.take k) ∧ Hid (Below w.heap.size w wr)) (fun i _ => len - (intOf i).toNat)
    case atStart => exact ⟨0, Nat.zero_le _, rfl, by show _ = _; simp, Below.refl _ _⟩
    case round =>
      obtain ⟨k, hk, rfl, HU, hwr⟩ := hrel
      by_cases hlt : k < len
      · obtain ⟨hi1, hx0⟩ := (hS.up hwr.out).at k hlt
        obtain ⟨hi2, hy0⟩ := (hO.up hwr.out).at k hlt
        have hidx := fun w' => hi1 len w' hlt
        have hidx' := fun w' => hi2 len w' hlt
        clear hi1 hi2
        have hxl : k < xs.length := by rw [hS.hlen]; exact hlt
        have hyl : k < ys.length := by rw [hO.hlen]; exact hlt
        have HN : Hid (xs[k] = ys[k] → xs.take (k + 1) = ys.take (k + 1)) := fun h => by
          rw [List.take_add_one, List.take_add_one, List.getElem?_eq_getElem hxl, List.getElem?_eq_getElem hyl, HU.out, h]
        have HM : Hid (xs[k] ≠ ys[k] → decide (xs = ys) = false) := fun h => decide_eq_false (fun e => h (by subst e; rfl))
        generalize xs[k] = x at *
        generalize ys[k] = y at *
        cases x <;> cases y
        all_goals
          go_wp2_with fail
          go_quiet (fail)
        · have HN2 : Hid _ := HN.out (by simp)
          go_wp2
          go_roundw
          case rel => exact ⟨k + 1, by omega, by go_num, HN2, below_drewN hwr.out nq⟩
          case measure => simp [intOf]; omega
        · have HM2 : Hid _ := HM.out (by decide)
          go_wp2
          go_ret
          exact ⟨by rw [HM2.out]; rfl, below_drewN hwr.out nq⟩
        · have HM2 : Hid _ := HM.out (by decide)
          go_wp2
          go_ret
          exact ⟨by rw [HM2.out]; rfl, below_drewN hwr.out nq⟩
        · have HN2 : Hid _ := HN.out (by simp)
          go_wp2
          go_roundw
          case rel => exact ⟨k + 1, by omega, by go_num, HN2, below_drewN hwr.out nq⟩
          case measure => simp [intOf]; omega
      · have hx : Hid (decide (xs = ys) = true) := by
          have := HU.out
          rw [List.take_of_length_le (by rw [hS.hlen]; omega), List.take_of_length_le (by rw [hO.hlen]; omega)] at this
          exact decide_eq_true this
        go_wp2
        go_ret
        exact ⟨by rw [hx.out]; rfl, hwr.out⟩
  · have hx : Hid (decide (xs = ys) = false) := decide_eq_false (fun e => hll (by rw [← hS.hlen, ← hO.hlen, e]))
    have hll' : ((len : Int) != (len' : Int)) = true := by simp; omega
    clear hll
    go_enter Try.func50, Try.ntmps50
    go_wp2
    go_ret
    exact ⟨by rw [hx.out]; rfl, Below.refl _ _⟩
end Go.Proofs.Ytmnkkknkmbldhaa
