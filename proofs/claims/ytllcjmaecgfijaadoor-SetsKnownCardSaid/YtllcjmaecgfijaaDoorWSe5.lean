/- Stage 10's laws over the contracts of package sets: SetsRing (written by mkring.py). -/
import Derived.Test.YtllcjmaecgfijaaDoorWSe4
namespace Go.Proofs.YtllcjmaecgfijaaDoor
open Go.RowKit Go.Maps

/-- A list of sets, at most B of them. -/
structure VL (w : World) (a : Option Addr) (n c : Nat) (L : List Nat) (B : Nat) : Prop where
  us : USl w a n c L
  sm : Sm L
  le : n ≤ B
theorem VL.up {w w' : World} {a : Option Addr} {n c B : Nat} {L : List Nat} (h : VL w a n c L B) (hb : Below w.heap.size w w') : VL w' a n c L B := ⟨h.us.up hb, h.sm, h.le⟩
def VE (L : List Nat) (B : Nat) (w : World) (e : Ending) (w' : World) : Prop := ∃ (a : Option Addr) (n c : Nat), e = .returned (.tuple #[.slice a n c, .int .i64 0]) ∧ VL w' a n c L B ∧ Below w.heap.size w w'
def VO (L : List Nat) (B : Nat) (w : World) (e : Ending) (w' : World) : Prop := ∃ (a : Option Addr) (n c : Nat), e = .returned (.slice a n c) ∧ VL w' a n c L B ∧ Below w.heap.size w w'
theorem VL.or (hC : SetC) {w : World} {a b : Option Addr} {n c m d B1 B2 : Nat} {L K : List Nat} (h : VL w a n c L B1) (k : VL w b m d K B2) (hb : B1 + B2 ≤ 1024) : Calls Tryd.prog 17 #[.slice a n c, .slice b m d] w (VE (leastL (L ++ K)) (B1 + B2) w) :=
  (hC.or a n c L b m d K w h.us k.us h.sm k.sm (by have := h.le; have := k.le; omega)).mono fun e w' ⟨x, z, h1, h2, h3⟩ => ⟨x, _, z, h1, ⟨h2, sm_least (sm_append h.sm k.sm), by
    have := len_or L K
    have e1 := h.us.len
    have e2 := k.us.len
    have := h.le
    have := k.le
    omega⟩, h3⟩
theorem VL.and (hC : SetC) {w : World} {a b : Option Addr} {n c m d B1 B2 : Nat} {L K : List Nat} (h : VL w a n c L B1) (k : VL w b m d K B2) (hb : B1 * B2 ≤ 1024) (h1 : B1 ≤ 1024) (h2 : B2 ≤ 1024) : Calls Tryd.prog 15 #[.slice a n c, .slice b m d] w (VE (leastL (uniL L K)) (B1 * B2) w) :=
  (hC.and a n c L b m d K w h.us k.us h.sm k.sm (Nat.le_trans (Nat.mul_le_mul h.le k.le) hb) (by have := h.le; omega) (by have := k.le; omega)).mono fun e w' ⟨x, z, h1, h2, h3⟩ => ⟨x, _, z, h1, ⟨h2, sm_least (sm_uni h.sm k.sm), by
    have := len_and L K
    rw [← h.us.len, ← k.us.len] at this
    exact Nat.le_trans this (Nat.mul_le_mul h.le k.le)⟩, h3⟩
theorem VL.least (hC : SetC) {w : World} {a : Option Addr} {n c B : Nat} {L : List Nat} (h : VL w a n c L B) (hb : B ≤ 1024) : Calls Tryd.prog 13 #[.slice a n c] w (VO (leastL L) B w) :=
  (hC.least a n c L w h.us h.sm (by have := h.le; omega)).mono fun e w' ⟨x, z, h1, h2, h3⟩ => ⟨x, _, z, h1, ⟨h2, sm_least h.sm, by
    have := leastL_len L
    have e1 := h.us.len
    have := h.le
    omega⟩, h3⟩
theorem VL.same (hC : SetC) {w : World} {a b : Option Addr} {n c m d B1 B2 : Nat} {L K : List Nat} (h : VL w a n c L B1) (k : VL w b m d K B2) (he : L = K) : Calls Tryd.prog 24 #[.slice a n c, .slice b m d] w (BR true w) := by
  have := hC.same a n c L b m d K w h.us k.us
  rwa [decide_eq_true he] at this
theorem v_true (hC : SetC) (w : World) : Calls Tryd.prog 6 #[] w (VO [0] 1 w) :=
  (hC.tru w).mono fun e w' ⟨x, z, h1, h2, h3⟩ => ⟨x, _, z, h1, ⟨h2, by unfold Sm; decide, by decide⟩, h3⟩
theorem v_nil (w : World) : VL w none 0 0 [] 0 := ⟨usl_nil, by unfold Sm; simp, Nat.le_refl _⟩
end Go.Proofs.YtllcjmaecgfijaaDoor
