/- The law TermTells. -/
import Derived.Test.YtgnhccjcokhmhaaWTn1
import Derived.Test.YtgnhccjcokhmhaaWTx1
import Derived.Test.YtgnhccjcokhmhaaWApI
import Derived.Test.YtgnhccjcokhmhaaWTok8
namespace Go.Proofs.Ytgnhccjcokhmhaa
open Go.RowKit Go.Maps

theorem Try.large_t (a : Option Addr) (len cap : Nat) (w : World) (h : (200 < len ∧ len ≤ 512) ∨ 517 < len) :
    Calls Try.prog 8 #[.slice a len cap] w fun e w' => e = .returned (.bool true) ∧ w' = w := by
  rcases h with ⟨h1, h2⟩ | h1
  · have q1 : (200 : Int) < (len : Int) := by omega
    have q2 : (len : Int) ≤ 512 := by omega
    go_enter Try.func8, Try.ntmps8
    go_wp2
    go_ret
    exact ⟨rfl, rfl⟩
  · have q1 : (200 : Int) < (len : Int) := by omega
    have q2 : ¬ ((len : Int) ≤ 512) := by omega
    have q3 : (517 : Int) < (len : Int) := by omega
    go_enter Try.func8, Try.ntmps8
    go_wp2
    go_ret
    exact ⟨rfl, rfl⟩
theorem Try.large_f (a : Option Addr) (len cap : Nat) (w : World) (h : ¬ ((200 < len ∧ len ≤ 512) ∨ 517 < len)) :
    Calls Try.prog 8 #[.slice a len cap] w fun e w' => e = .returned (.bool false) ∧ w' = w := by
  by_cases h1 : 200 < len
  · have q1 : (200 : Int) < (len : Int) := by omega
    have q2 : ¬ ((len : Int) ≤ 512) := by omega
    have q3 : ¬ ((517 : Int) < (len : Int)) := by omega
    go_enter Try.func8, Try.ntmps8
    go_wp2
    go_ret
    exact ⟨rfl, rfl⟩
  · have q1 : ¬ ((200 : Int) < (len : Int)) := by omega
    have q3 : ¬ ((517 : Int) < (len : Int)) := by omega
    go_enter Try.func8, Try.ntmps8
    go_wp2
    go_ret
    exact ⟨rfl, rfl⟩
theorem Try.termTells_large (a : Option Addr) (len cap : Nat) (w : World) (h : (200 < len ∧ len ≤ 512) ∨ 517 < len) :
    Calls Try.prog 3 #[.slice a len cap] w fun e w' => e = .returned (.bool true) ∧ Below w.heap.size w w' := by
  have hl := Try.large_t a len cap w h
  go_enter Try.func3, Try.ntmps3
  go_wp2_with fail
  refine hl.mono ?_
  rintro e w1 ⟨rfl, rfl⟩
  go_wp2
  go_ret
  exact ⟨rfl, Below.refl _ _⟩
theorem blocks_neI {aA aB : Option Addr} (hab : ∀ b b', aA.map (·.block) = some b → aB.map (·.block) = some b' → b < b') : (aA = none ∨ aA.map (·.block) ≠ aB.map (·.block)) ∧ (aB = none ∨ aB.map (·.block) ≠ aA.map (·.block)) := by
  cases aA with
  | none => exact ⟨Or.inl rfl, by cases aB with | none => exact Or.inl rfl | some q => right; simp⟩
  | some p =>
    cases aB with
    | none => exact ⟨Or.inr (by simp), Or.inl rfl⟩
    | some q => have := hab p.block q.block rfl rfl; exact ⟨Or.inr (by simp; omega), Or.inr (by simp; omega)⟩
def pick3 {α : Type} (x y z : α) (k : Nat) : α := if k = 0 then x else if k = 1 then y else z
theorem Try.apartI_three (w : World) (a1 a2 a3 : Option Addr) (c1 c2 c3 : List Int) (h1 : RowOfI w 3 a1 c1) (h2 : RowOfI w 3 a2 c2) (h3 : RowOfI w 3 a3 c3)
    (h12 : ∀ b b', a1.map (·.block) = some b → a2.map (·.block) = some b' → b < b') (h13 : ∀ b b', a1.map (·.block) = some b → a3.map (·.block) = some b' → b < b') (h23 : ∀ b b', a2.map (·.block) = some b → a3.map (·.block) = some b' → b < b')
    (hl : c1.length ≤ 1000 ∧ c2.length ≤ 1000 ∧ c3.length ≤ 1000) (hv : (∀ z ∈ c1, 0 ≤ z ∧ z < 1048576) ∧ (∀ z ∈ c2, 0 ≤ z ∧ z < 1048576) ∧ (∀ z ∈ c3, 0 ≤ z ∧ z < 1048576)) :
    Calls Try.prog 24 #[.slice (some ⟨w.heap.size, 0, none⟩) 3 3] (w.alloc (.cells #[.slice a1 c1.length c1.length, .slice a2 c2.length c2.length, .slice a3 c3.length c3.length] 25)) fun e w' =>
      e = .returned (.bool true) ∧ Below w.heap.size w w' := by
  have hal : Below w.heap.size w (w.alloc (.cells #[.slice a1 c1.length c1.length, .slice a2 c2.length c2.length, .slice a3 c3.length c3.length] 25)) := (Below.refl _ _).alloc (Nat.le_refl _) _
  have hnew := (MapKept.heap_alloc w (.cells #[.slice a1 c1.length c1.length, .slice a2 c2.length c2.length, .slice a3 c3.length c3.length] 25)).1
  have k3 : ∀ {k : Nat}, k < 3 → k = 0 ∨ k = 1 ∨ k = 2 := fun h => by omega
  have n12 := blocks_neI h12
  have n13 := blocks_neI h13
  have n23 := blocks_neI h23
  refine (Try.apartI_any w.heap.size 3 (pick3 a1 a2 a3) (fun k => (pick3 c1 c2 c3 k).length) (pick3 c1 c2 c3) _ ⟨?_, ?_, ?_, ?_, by decide⟩ ⟨?_, ?_, ?_⟩).mono fun e w' ⟨he, hb⟩ => ⟨he, hal.trans (hb.mono (by simp))⟩
  · intro j k hj hk hne
    rcases k3 hj with rfl | rfl | rfl <;> rcases k3 hk with rfl | rfl | rfl
    · exact absurd rfl hne
    · exact n12.1
    · exact n13.1
    · exact n12.2
    · exact absurd rfl hne
    · exact n23.1
    · exact n13.2
    · exact n23.2
    · exact absurd rfl hne
  · intro k hk e
    rcases k3 hk with rfl | rfl | rfl
    · have := h1.lt _ e; omega
    · have := h2.lt _ e; omega
    · have := h3.lt _ e; omega
  · intro k
    obtain ⟨q1, q2, q3⟩ := hl
    unfold pick3; split
    · omega
    · split <;> omega
  · intro k
    unfold pick3; split
    · exact hv.1
    · split
      · exact hv.2.1
      · exact hv.2.2
  · intro k hk
    unfold World.cell?; simp only; rw [hnew]
    rcases k3 hk with rfl | rfl | rfl <;> rfl
  · intro k hk
    rcases k3 hk with rfl | rfl | rfl
    · exact h1.up hal
    · exact h2.up hal
    · exact h3.up hal
  · simp
/-- What Blocks and Depths answer, in one word. -/
theorem intsX_row {T : TypeId} {E : Nat} {zs : List Int} {w w' : World} {e : Ending} (h : IntsX T E zs w e w') :
    ∃ a, e = .returned (.tuple #[.slice a (if E = 0 then zs else []).length (if E = 0 then zs else []).length, .int .i64 (E : Int)]) ∧ RowOfI w' T a (if E = 0 then zs else []) ∧ ∀ b, a.map (·.block) = some b → w.heap.size ≤ b := by
  obtain ⟨v, rfl, h0, h1⟩ := h
  by_cases hE : E = 0
  · obtain ⟨g, rfl, h2, h3⟩ := h0 hE
    rw [if_pos hE]
    exact ⟨some ⟨g, 0, none⟩, rfl, Or.inr ⟨g, rfl, h2⟩, fun b hb => by cases hb; exact h3⟩
  · rw [if_neg hE, h1 hE]
    exact ⟨none, rfl, Or.inl ⟨rfl, rfl⟩, fun b hb => by cases hb⟩
theorem intsR_sl {P : Program} {T e : TypeId} {E : Nat} {zs : List Int} {w w' : World} {en : Ending} (h : IntsR e E zs w en w') (hu : P.underlying T = some (.slice e)) (hs : (P.info? e).map (·.size) = some 1) :
    ∃ a cap, en = .returned (.tuple #[.slice a (if E = 0 then zs else []).length cap, .int .i64 (E : Int)]) ∧ IntSl P T .i64 w' a (if E = 0 then zs else []).length cap (if E = 0 then zs else []) := by
  obtain ⟨v, rfl, h0, h1⟩ := h
  by_cases hE : E = 0
  · obtain ⟨a, cap, rfl, h2, _⟩ := ownI_sl (h0 hE) hu hs
    rw [if_pos hE]
    exact ⟨a, cap, rfl, h2⟩
  · rw [if_neg hE, h1 hE]
    exact ⟨none, 0, rfl, intSlI_nil⟩
end Go.Proofs.Ytgnhccjcokhmhaa
