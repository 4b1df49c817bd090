/- Lists of bools in memory; SameBools. -/
import Derived.Test.YtbfhbpibpmgblaaMnM
import Derived.Test.YtbfhbpibpmgblaaKGen
import Derived.KernelRfl
import Derived.BigQuiet
namespace Go.Proofs.Ytbfhbpibpmgblaa
open Go.RowKit Go.Maps

/-- A list of bools, wherever it lies. -/
structure BoSl (w : World) (a : Option Addr) (len cap : Nat) (bs : List Bool) : Prop where
  hlen : bs.length = len
  hcap : len ≤ cap
  bd : cap ≤ maxLen
  nn : a = none → cap = 0
  c : ∀ x, a = some x → ∀ k (h : k < bs.length), w.cell? (x.add k) = some (.bool bs[k])
theorem BoSl.some_of {w : World} {a : Option Addr} {len cap : Nat} {bs : List Bool} (h : BoSl w a len cap bs) (hl : 0 < len) : ∃ x, a = some x := by
  cases a with
  | none => have := h.nn rfl; have := h.hcap; omega
  | some x => exact ⟨x, rfl⟩
theorem BoSl.up {w w' : World} {a : Option Addr} {len cap : Nat} {bs : List Bool} (h : BoSl w a len cap bs) (hb : Below w.heap.size w w') : BoSl w' a len cap bs :=
  ⟨h.hlen, h.hcap, h.bd, h.nn, fun x hx k hk => kept_cell (h.c x hx k hk) hb⟩
theorem BoSl.nil {w : World} : BoSl w none 0 0 [] := ⟨rfl, Nat.le_refl _, Nat.zero_le _, fun _ => rfl, fun x hx => (by cases hx)⟩
theorem Try.sizeBo : (Try.prog.info? 4).map (·.size) = some 1 := by kernel_rfl
theorem BoSl.at {w : World} {a : Option Addr} {len cap : Nat} {bs : List Bool} (h : BoSl w a len cap bs) (k : Nat) (hk : k < len) :
    (∀ (n : Nat) (w' : World), k < n → (Instr.indexAt 78 (.slice a n cap) (.int .i64 k)).run Try.prog w' = .ok (.pointer (some (adOf a k))) w') ∧ w.cell? (adOf a k) = some (.bool (bs[k]'(by rw [h.hlen]; exact hk))) := by
  obtain ⟨x, rfl⟩ := h.some_of (by omega)
  refine ⟨fun n w' hn => idx_of Try.underlying78 Try.sizeBo (by simp) k w' hn, h.c x rfl k (by rw [h.hlen]; exact hk)⟩
theorem own_bo {w : World} {base e n : Nat} {v : Value} {bs : List Bool} (h : w.ownsRow base e 1 v n (bs.map Value.bool)) : ∃ a cap, v = .slice a n cap ∧ BoSl w a n cap bs := by
  obtain ⟨hl, h⟩ := h
  simp at hl
  rcases h with ⟨rfl, rfl⟩ | ⟨g, cap, cur, rfl, hg, hcell, hnc, hcm, hsz, htk⟩
  · obtain rfl := List.eq_nil_of_length_eq_zero hl
    exact ⟨none, 0, rfl, BoSl.nil⟩
  · refine ⟨some ⟨g, 0, none⟩, cap, rfl, hl, hnc, hcm, fun h => (by cases h), fun x hx k hk => ?_⟩
    injection hx with hx; subst hx
    have e1 : (cur.toList.take (n * 1))[k]? = some (.bool bs[k]) := by rw [htk]; simp [hk]
    rw [List.getElem?_take, if_pos (by omega)] at e1
    rw [add_plain, Nat.zero_add]
    simp [World.cell?, hcell]
    simpa using e1
end Go.Proofs.Ytbfhbpibpmgblaa
