/- Plain: what is built means what its parts do. -/
import Derived.Test.YtmnkkknkmbldhaaMnQ
import Derived.Test.YtmnkkknkmbldhaaTermU
namespace Go.Proofs.Ytmnkkknkmbldhaa

/-- What is built; nothing, where that may not be. -/
def unB (op : Nat) (ts : List Tk) : List Tk := if unE op ts = 0 then ts ++ [(op, 0)] else []
def binB (op : Nat) (us bs : List Tk) : List Tk := if binE op us bs = 0 then us ++ bs ++ [(op, 0)] else []
theorem look_nil (w : Nat) : lookE [] w ≠ 0 := fun h => by
  obtain ⟨_, t, _, h1, _⟩ := lookE_zero.1 h
  have := congrArg List.length h1
  rw [flat_len] at this
  have := size_pos t
  simp at *; omega
theorem look_ref {ts : List Tk} {k : Nat} (h : refE ts k = 0) : lookE ts 4 = 0 := by
  unfold refE at h
  split at h
  · exact look4 (Or.inr h)
  · exact look4 (Or.inl h)
/-- Where tokens may be, they mean v. -/
def Mn (t : List Nat) (ts : List Tk) (v : Sv) : Prop := lookE ts 4 = 0 → Cl t ts v
theorem Mn.un {t : List Nat} {ts : List Tk} {v : Sv} (h : Mn t ts v) {op : Nat} (ho : takesN (op, 0) = some 1) : Mn t (unB op ts) (semT t op 0 [v]) := by
  intro hk
  unfold unB at hk ⊢
  by_cases hu : unE op ts = 0
  · rw [if_pos hu] at hk ⊢
    refine (h ?_).un ho
    unfold unE at hu
    split at hu
    · split at hu
      · next hr => exact look_ref hr
      · next hr => exact absurd hu hr
    · cases hu
  · rw [if_neg hu] at hk
    exact absurd hk (look_nil 4)
theorem Mn.bin {t : List Nat} {us bs : List Tk} {v u : Sv} (h : Mn t us v) (k : Mn t bs u) {op : Nat} (ho : takesN (op, 0) = some 2) : Mn t (binB op us bs) (semT t op 0 [v, u]) := by
  intro hk
  unfold binB at hk ⊢
  by_cases hu : binE op us bs = 0
  · rw [if_pos hu] at hk ⊢
    unfold binE at hu
    split at hu
    · split at hu
      · next hr =>
        split at hu
        · next hs => exact (h (look_ref hr)).bin (k (look_ref hs)) ho
        · next hs => exact absurd hu hs
      · next hr => exact absurd hu hr
    · cases hu
  · rw [if_neg hu] at hk
    exact absurd hk (look_nil 4)
theorem Mn.leaf (t : List Nat) {op p : Nat} (h : takesN (op, p) = some 0) : Mn t [(op, p)] (semT t op p []) := fun _ => Cl.leaf t h
theorem Mn.of (t : List Nat) {ts : List Tk} {want : Nat} (h : lookE ts want = 0) : ∃ T : Tr, T.WF ∧ ts = T.flat ∧ isK (kindOf (T.part 0)) want = true ∧ Mn t ts (semTr t T) := by
  obtain ⟨T, h1, h2, h3, h4⟩ := cl_look t h
  exact ⟨T, h1, h2, h3, fun _ => h4⟩
/-- What All tells of tokens that may be: at each place whether they are satisfied. -/
def ValB (t : List Nat) (ts : List Tk) (bs : List Bool) : Prop := bs.length = t.length + 1 ∧ ∀ v, Cl t ts v → ∀ i (h : i < bs.length), (bs[i] = true ↔ v.1 i)
theorem ValB.same {t : List Nat} {xs ys : List Tk} {v u : Sv} {as bs : List Bool} (h : ValB t xs as) (k : ValB t ys bs) (hx : Cl t xs v) (hy : Cl t ys u) (he : ∀ i, i ≤ t.length → (v.1 i ↔ u.1 i)) : as = bs := by
  refine List.ext_getElem (by rw [h.1, k.1]) fun i h1 h2 => ?_
  have e1 := h.2 v hx i h1
  have e2 := k.2 u hy i h2
  have e3 := he i (by have := h.1; omega)
  rw [e3] at e1
  rw [← e2] at e1
  cases ha : as[i] <;> cases hb : bs[i] <;> simp_all
/-- Two formulas that are satisfied at the same places, told. -/
theorem alike_of {t : List Nat} {xs ys : List Tk} {v u : Sv} (hx : Mn t xs v) (hy : Mn t ys u) (he : ∀ i, i ≤ t.length → (v.1 i ↔ u.1 i)) {as bs : List Bool} (h : ValB t xs as) (k : ValB t ys bs) (lx : lookE xs 1 = 0) (ly : lookE ys 1 = 0) : as = bs :=
  ValB.same h k (hx (look4 (Or.inl lx))) (hy (look4 (Or.inl ly))) he
end Go.Proofs.Ytmnkkknkmbldhaa
