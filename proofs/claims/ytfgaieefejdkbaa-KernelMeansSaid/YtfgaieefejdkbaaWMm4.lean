/- Package mean: star. -/
import Derived.Test.YtfgaieefejdkbaaMmM
namespace Go.Proofs.Ytfgaieefejdkbaa
open Go.RowKit Go.Maps

def Rl (rs : Nat → List Nat) (i k : Nat) : Prop := hasW (rs i) k = true
/-- What is reached so far. -/
structure StarI (rs xs : Nat → List Nat) (P : Nat) : Prop where
  refl : ∀ i, i < P → hasW (xs i) i = true
  sound : ∀ i, i < P → ∀ k, hasW (xs i) k = true → ∃ m, stepsP (Rl rs) m i k
def InR (rs : Nat → List Nat) (P : Nat) : Prop := ∀ i, i < P → ∀ k, hasW (rs i) k = true → i ≤ k ∧ k < P
theorem InR.steps {rs : Nat → List Nat} {P : Nat} (h : InR rs P) {m i k : Nat} (hi : i < P) (hs : stepsP (Rl rs) m i k) : i ≤ k ∧ k < P := by
  have := steps_in (w := Rl rs) (n := P - 1) (fun i k hi hk => by have := h i (by omega) k hk; omega) m i k (by omega) hs
  omega
theorem StarI.fwd {rs xs : Nat → List Nat} {P : Nat} (h : StarI rs xs P) (hr : InR rs P) {j : Nat} (hj : j < P) (k : Nat) (hk : hasW (xs j) k = true) : j ≤ k := by
  obtain ⟨m, hm⟩ := h.sound j hj k hk
  exact (hr.steps hj hm).1
theorem StarI.join {rs xs : Nat → List Nat} {P W : Nat} (h : StarI rs xs P) (hr : InR rs P) {i j : Nat} (hi : i < P) (hj : j < P) (hW : ∀ i, i < P → OkW W (xs i)) (hR : hasW (rs i) j = true) : StarI rs (upd xs i (joinW (xs i) (xs j) (j / 64))) P := by
  have hb := fun k => hasW_join (hW i hi) (hW j hj) j k (h.fwd hr hj)
  refine ⟨fun i' hi' => ?_, fun i' hi' k hk => ?_⟩
  · by_cases e : i' = i
    · subst e; rw [upd_same, hb, h.refl _ hi]; rfl
    · rw [upd_ne _ _ e]; exact h.refl i' hi'
  · by_cases e : i' = i
    · subst e
      rw [upd_same, hb, Bool.or_eq_true] at hk
      rcases hk with hk | hk
      · exact h.sound _ hi k hk
      · obtain ⟨m, hm⟩ := h.sound j hj k hk
        exact ⟨m + 1, j, hR, hm⟩
    · rw [upd_ne _ _ e] at hk; exact h.sound i' hi' k hk
/-- Nothing is new from i by the places below j. -/
def ClI (rs xs : Nat → List Nat) (i j : Nat) : Prop := ∀ m, m < j → hasW (rs i) m = true → ∀ k, hasW (xs m) k = true → hasW (xs i) k = true
theorem ClI.skip {rs xs : Nat → List Nat} {i j : Nat} (h : ClI rs xs i j) (hn : hasW (rs i) j = false) : ClI rs xs i (j + 1) := fun m hm hr => by
  by_cases e : m = j
  · subst e; rw [hn] at hr; cases hr
  · exact h m (by omega) hr
theorem ClI.join {rs xs : Nat → List Nat} {i j P W : Nat} (h : ClI rs xs i j) (hs : StarI rs xs P) (hr : InR rs P) (hi : i < P) (hj : j < P) (hW : ∀ i, i < P → OkW W (xs i)) (he : joinW (xs i) (xs j) (j / 64) = xs i) : ClI rs xs i (j + 1) := fun m hm hrm k hk => by
  by_cases e : m = j
  · subst e
    have := hasW_join (hW i hi) (hW m hj) m k (hs.fwd hr hj)
    rw [he, hk, Bool.or_true] at this
    exact this
  · exact h m (by omega) hrm k hk
theorem star_done {rs xs : Nat → List Nat} {P : Nat} (h : StarI rs xs P) (hr : InR rs P) (hc : ∀ i, i < P → ClI rs xs i P) {i : Nat} (hi : i < P) (k : Nat) : hasW (xs i) k = true ↔ ∃ m, stepsP (Rl rs) m i k := by
  refine ⟨h.sound i hi k, ?_⟩
  rintro ⟨m, hm⟩
  induction m generalizing i with
  | zero => have e : i = k := hm; subst e; exact h.refl _ hi
  | succ m ih =>
    obtain ⟨j, h1, h2⟩ := hm
    have hj := hr i hi j h1
    exact hc i hi j hj.2 h1 k (ih hj.2 h2)
theorem tot_join {xs : Nat → List Nat} {P i : Nat} {us : List Nat} (p : Nat) (hi : i < P) (hne : joinW (xs i) us p ≠ xs i) : tot P xs < tot P (upd xs i (joinW (xs i) us p)) := by
  have h1 := tot_upd P xs i (joinW (xs i) us p) hi
  have h2 := (sum_le (xs := xs i) (ys := joinW (xs i) us p) (joinT_len ..).symm (joinT_mono _ _ _ _)).2 (fun e => hne e.symm)
  omega
/-- A round's state: as it was, or more. -/
structure StR (rs x0 xs : Nat → List Nat) (P : Nat) (bb : Bool) : Prop where
  st : StarI rs xs P
  ch : bb = true → tot P x0 < tot P xs
  same : bb = false → xs = x0
theorem StR.le {rs x0 xs : Nat → List Nat} {P : Nat} {bb : Bool} (h : StR rs x0 xs P bb) : tot P x0 ≤ tot P xs := by
  cases bb with
  | true => exact Nat.le_of_lt (h.ch rfl)
  | false => rw [h.same rfl]; exact Nat.le_refl _
/-- What a block's words are. -/
def rowOf (w : World) (b : Nat) : List Nat := match w.heap[b]? with
  | some (.cells cur _ _) => cur.toList.map fun v => (intOf v).toNat
  | _ => []
theorem RowU.rowOf {w : World} {b : Nat} {ws : List Nat} (h : RowU w b ws) : rowOf w b = ws := by
  unfold RowU encU at h
  unfold Proofs.Ytfgaieefejdkbaa.rowOf
  rw [h]
  simp [intOf, Function.comp_def]
def memTot (w : World) (g P : Nat) : Nat := tot P fun i => rowOf w (g + 1 + i)
theorem tot_congr : ∀ (P : Nat) (xs ys : Nat → List Nat), (∀ i, i < P → xs i = ys i) → tot P xs = tot P ys
  | 0, _, _, _ => rfl
  | P + 1, xs, ys, h => by unfold tot; rw [tot_congr P xs ys fun i hi => h i (by omega), h P (by omega)]
theorem EndAt.mem {w : World} {g P : Nat} {xs : Nat → List Nat} (h : EndAt w g P xs) : memTot w g P = tot P xs := tot_congr _ _ _ fun i hi => (h.rows i hi).rowOf
def boolOf : Value → Nat | .bool true => 1 | _ => 0
def starM (v : Value) (w : World) (g P : Nat) : Nat := boolOf v + 2 * (P * (wordsN P * 18446744073709551616) - memTot w g P)
theorem starM_true {w w' : World} {g P : Nat} {xs ys : Nat → List Nat} (h : EndAt w g P xs) (k : EndAt w' g P ys) (hl : tot P xs < tot P ys) : starM (.bool true) w' g P < starM (.bool true) w g P := by
  unfold starM
  rw [h.mem, k.mem]
  have := tot_bd (W := wordsN P) P ys k.ok
  generalize P * (wordsN P * 18446744073709551616) = B at *
  omega
theorem starM_false {w w' : World} {g P : Nat} {xs ys : Nat → List Nat} (h : EndAt w g P xs) (k : EndAt w' g P ys) (hl : tot P xs ≤ tot P ys) : starM (.bool false) w' g P < starM (.bool true) w g P := by
  unfold starM
  rw [h.mem, k.mem]
  show 0 + _ < 1 + _
  generalize P * (wordsN P * 18446744073709551616) = B at *
  omega
end Go.Proofs.Ytfgaieefejdkbaa
