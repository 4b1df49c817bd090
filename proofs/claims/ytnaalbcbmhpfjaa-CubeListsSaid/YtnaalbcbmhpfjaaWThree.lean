/- ApartLetters of three lists: one that was lent, two of the same letters. -/
import Derived.Test.YtnaalbcbmhpfjaaWLent
namespace Go.Proofs.Ytnaalbcbmhpfjaa
open Go.RowKit Go.Maps

theorem blocks_ne {aA aB : Option Addr} (hab : ∀ b b', aA.map (·.block) = some b → aB.map (·.block) = some b' → b < b') : (aA = none ∨ aA.map (·.block) ≠ aB.map (·.block)) ∧ (aB = none ∨ aB.map (·.block) ≠ aA.map (·.block)) := by
  cases aA with
  | none => exact ⟨Or.inl rfl, by cases aB with | none => exact Or.inl rfl | some q => right; simp⟩
  | some p =>
    cases aB with
    | none => exact ⟨Or.inr (by simp), Or.inl rfl⟩
    | some q => have := hab p.block q.block rfl rfl; exact ⟨Or.inr (by simp; omega), Or.inr (by simp; omega)⟩

def three (aU aA aB : Option Addr) (k : Nat) : Option Addr := if k = 0 then aU else if k = 1 then aA else aB
def threeL (u c : List Int) (k : Nat) : List Int := if k = 0 then u else c
def threeN (n m k : Nat) : Nat := if k = 0 then n else m
def Try.lists (gu tlen : Nat) (aA aB : Option Addr) (m : Nat) : Obj := .cells #[.slice (some ⟨gu, 0, none⟩) tlen (tlen + 3), .slice aA m m, .slice aB m m] 36
theorem Try.apart_three (w : World) (gu tlen : Nat) (zs : List Int) (aA aB : Option Addr) (cur : List Int) (hU : RowAt w 22 gu (lentL zs)) (hl : zs.length = tlen) (h20 : tlen ≤ 140737488351232) (hv : ∀ z ∈ zs, 0 ≤ z ∧ z < 256)
    (hA : RowOf w 22 aA cur) (hB : RowOf w 22 aB cur) (hua : ∀ b, aA.map (·.block) = some b → gu < b) (hub : ∀ b, aB.map (·.block) = some b → gu < b) (hab : ∀ b b', aA.map (·.block) = some b → aB.map (·.block) = some b' → b < b') (hlen : cur.length ≤ 1024) (hval : ∀ z ∈ cur, 0 ≤ z ∧ z < 256) :
    Calls Try.prog 30 #[.slice (some ⟨w.heap.size, 0, none⟩) 3 3] (w.alloc (Try.lists gu tlen aA aB cur.length)) fun e w' =>
      e = .returned (.bool true) ∧ Below w.heap.size w w' := by
  have hal : Below w.heap.size w (w.alloc (Try.lists gu tlen aA aB cur.length)) := (Below.refl _ _).alloc (Nat.le_refl _) _
  have hnew := (MapKept.heap_alloc w (Try.lists gu tlen aA aB cur.length)).1
  have k3 : ∀ {k : Nat}, k < 3 → k = 0 ∨ k = 1 ∨ k = 2 := fun h => by omega
  have hll := lentL_len zs
  have h1 := blocks_ne (aA := some ⟨gu, 0, none⟩) (aB := aA) (fun b b' h h' => by cases h; exact hua b' h')
  have h2 := blocks_ne (aA := some ⟨gu, 0, none⟩) (aB := aB) (fun b b' h h' => by cases h; exact hub b' h')
  have h3 := blocks_ne hab
  refine (Try.apart_any w.heap.size 3 (three (some ⟨gu, 0, none⟩) aA aB) (threeN tlen cur.length) (threeL (lentL zs) cur) _ ⟨?_, ?_, ?_, ?_, by decide⟩ ⟨?_, ?_, ?_⟩).mono fun e w' ⟨he, hb⟩ => ⟨he, hal.trans (hb.mono (by simp))⟩
  · intro j k hj hk hne
    rcases k3 hj with rfl | rfl | rfl <;> rcases k3 hk with rfl | rfl | rfl
    · exact absurd rfl hne
    · exact h1.1
    · exact h2.1
    · exact h1.2
    · exact absurd rfl hne
    · exact h3.1
    · exact h2.2
    · exact h3.2
    · exact absurd rfl hne
  · intro k hk e
    rcases k3 hk with rfl | rfl | rfl
    · have h := hU.lt; have e' : some gu = some w.heap.size := e; injection e' with e'; omega
    · have := hA.lt _ e; omega
    · have := hB.lt _ e; omega
  · intro k; unfold threeL; split
    · rw [hll]; omega
    · omega
  · intro k; unfold threeL; split
    · exact lentL_val hv
    · exact hval
  · intro k hk
    unfold World.cell?; simp only; rw [hnew]
    rcases k3 hk with rfl | rfl | rfl
    · simp only [threeL, three, threeN, if_pos]; rw [hll, hl]; rfl
    · rfl
    · rfl
  · intro k hk
    rcases k3 hk with rfl | rfl | rfl
    · exact Or.inr ⟨gu, rfl, hU.up hal⟩
    · exact hA.up hal
    · exact hB.up hal
  · simp
end Go.Proofs.Ytnaalbcbmhpfjaa
