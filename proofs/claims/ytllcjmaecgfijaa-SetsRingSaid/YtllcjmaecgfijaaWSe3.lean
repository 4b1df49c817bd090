/- Stage 10's laws: small. -/
import Derived.Test.YtllcjmaecgfijaaWSe2
namespace Go.Proofs.Ytllcjmaecgfijaa
open Go.RowKit Go.Maps

abbrev slV (x : Option Addr × Nat × Nat) : Value := .slice x.1 x.2.1 x.2.2
def smB (ls : List (Option Addr × Nat × Nat)) : Bool := ls.all fun x => decide (x.2.1 ≤ 9)
theorem smB_no {ls : List (Option Addr × Nat × Nat)} {k : Nat} (hk : k < ls.length) (h : ¬ (ls[k]'hk).2.1 ≤ 9) : smB ls = false := by
  unfold smB
  rw [List.all_eq_false]
  exact ⟨ls[k], List.getElem_mem hk, by simpa using h⟩
theorem smB_yes {ls : List (Option Addr × Nat × Nat)} (h : ∀ k (hk : k < ls.length), (ls[k]'hk).2.1 ≤ 9) : smB ls = true := by
  unfold smB
  rw [List.all_eq_true]
  intro x hx
  obtain ⟨k, hk, rfl⟩ := List.getElem_of_mem hx
  simpa using h k hk
theorem Try.sizeSl : (Try.prog.info? 22).map (·.size) = some 1 := by kernel_rfl
set_option maxHeartbeats 2000000 in
theorem Try.small_any (g : Nat) (ls : List (Option Addr × Nat × Nat)) (w : World) (hb : w.heap[g]? = some (.cells (ls.map slV).toArray 22 (0, 0))) (hl : ls.length ≤ 3) (hn : ∀ x ∈ ls, x.2.1 ≤ maxLen) :
    Calls Try.prog 25 #[.slice (some ⟨g, 0, none⟩) ls.length ls.length] w fun e w' => e = .returned (.bool (smB ls)) ∧ w' = w := by
  obtain ⟨N, hN⟩ : ∃ N, ls.length = N := ⟨_, rfl⟩
  have hidx : ∀ (k : Nat) (w' : World), k < N → (Instr.indexAt 33 (.slice (some ⟨g, 0, none⟩) N N) (.int .i64 k)).run Try.prog w' = .ok (.pointer (some ⟨g, k, none⟩)) w' := fun k w' hk => by
    have := idx_of (cap := N) (a := some ⟨g, 0, none⟩) Try.underlying33 Try.sizeSl (by simp) k w' hk
    rwa [show adOf (some ⟨g, 0, none⟩) k = ⟨g, k, none⟩ by simp [adOf, add_plain]] at this
  have hcell : ∀ (k : Nat) (hk : k < ls.length), w.cell? ⟨g, k, none⟩ = some (slV ls[k]) := fun k hk => by
    rw [cell_row hb k]; simp [hk]
  have HN : Hid (ls.length = N) := hN
  rw [hN] at hl ⊢
  clear hb hN
  go_enter Try.func25, Try.ntmps25
  go_wp2
  go_loopw [3] (fun i wr => ∃ k : Nat, k ≤ N ∧ i = .int .i64 k ∧ Hid (∀ j (hj : j < ls.length), j < k → (ls[j]'hj).2.1 ≤ 9) ∧ wr = w) (fun i _ => N - (intOf i).toNat)
  case atStart => exact ⟨0, Nat.zero_le _, rfl, fun j _ h => absurd h (by omega), rfl⟩
  case round =>
    obtain ⟨k, hk, rfl, HU, rfl⟩ := hrel
    by_cases hlt : k < N
    · have hk' : k < ls.length := by rw [HN.out]; exact hlt
      have hc := hcell k hk'
      have hx := hidx k
      have hm := hn _ (List.getElem_mem hk')
      have HY : Hid ((ls[k]'hk').2.1 ≤ 9 → ∀ j (hj : j < ls.length), j < k + 1 → (ls[j]'hj).2.1 ≤ 9) := fun h j hj hjk => by
        by_cases e : j = k
        · subst e; exact h
        · exact HU.out j hj (by omega)
      have HW : Hid (¬ (ls[k]'hk').2.1 ≤ 9 → smB ls = false) := smB_no hk'
      unfold maxLen at hm
      clear hcell hidx
      generalize ls[k]'hk' = x at *
      obtain ⟨a, n, c⟩ := x
      dsimp only [slV] at hc hm HY HW
      by_cases hn9 : n ≤ 9
      · have hn9' : ¬ (9 : Int) < (n : Int) := by omega
        have HY2 : Hid _ := HY.out hn9
        go_wp2_with fail
        go_roundw
        case rel => exact ⟨k + 1, by omega, by go_num, HY2, by first | trivial | rfl⟩
        case measure => simp [intOf]; omega
      · have hn9' : (9 : Int) < (n : Int) := by omega
        have HW2 : Hid (smB ls = false) := HW.out hn9
        go_wp2_with fail
        go_ret
        exact ⟨by rw [HW2.out]; rfl, rfl⟩
    · have HW2 : Hid (smB ls = true) := smB_yes fun j hj => HU.out j hj (by have := HN.out; omega)
      go_wp2
      go_ret
      exact ⟨by rw [HW2.out]; rfl, rfl⟩
end Go.Proofs.Ytllcjmaecgfijaa
