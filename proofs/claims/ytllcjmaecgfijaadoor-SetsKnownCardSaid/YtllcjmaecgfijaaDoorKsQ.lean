/- Plain: the least sets of a rising list, one set after the other. -/
import Derived.Test.YtllcjmaecgfijaaDoorKsP
namespace Go.Proofs.YtllcjmaecgfijaaDoor

/-- One more set, no less than all before it. -/
theorem least_next {p : List Nat} {x : Nat} (hx : ∀ y ∈ p, y ≤ x) : leastL (p ++ [x]) = if hoB (leastL p) x then leastL p else leastL p ++ [x] := by
  have hh : hoB (leastL p) x = true ↔ HoP p x := by
    unfold hoB
    rw [decide_eq_true_iff]
    exact leastL_holds p x
  split
  · rename_i h
    obtain ⟨s, hs, hw⟩ := hh.1 h
    refine leastL_ext fun held => ?_
    rw [hoP_append]
    constructor
    · rintro (h1 | ⟨y, hy, h1⟩)
      · exact h1
      · rcases List.mem_singleton.1 hy with rfl
        exact ⟨s, hs, wi_trans hw h1⟩
    · exact Or.inl
  · rename_i h
    have hn : ¬ HoP p x := fun k => h (hh.2 k)
    have hxp : x ∉ p := fun k => hn ⟨x, k, wi_refl x⟩
    symm
    refine leastL_of ⟨?_, fun y => ?_⟩
    · refine List.pairwise_append.2 ⟨(leastL_is p).up, List.pairwise_singleton _ _, fun y hy z hz => ?_⟩
      rcases List.mem_singleton.1 hz with rfl
      have h1 := leastL_sub hy
      have h2 := hx y h1
      have h3 : y ≠ z := fun e => hxp (e ▸ h1)
      omega
    · rw [List.mem_append, (leastL_is p).mem, List.mem_singleton]
      constructor
      · rintro (⟨h1, h2⟩ | rfl)
        · refine ⟨by simp [h1], fun z hz hw => ?_⟩
          rcases List.mem_append.1 hz with hz | hz
          · exact h2 z hz hw
          · rcases List.mem_singleton.1 hz with rfl
            have := wi_le hw
            have := hx y h1
            omega
        · refine ⟨by simp, fun z hz hw => ?_⟩
          rcases List.mem_append.1 hz with hz | hz
          · exact absurd ⟨z, hz, hw⟩ hn
          · exact List.mem_singleton.1 hz
      · rintro ⟨h1, h2⟩
        rcases List.mem_append.1 h1 with h1 | h1
        · exact Or.inl ⟨h1, fun z hz hw => h2 z (by simp [hz]) hw⟩
        · exact Or.inr (List.mem_singleton.1 h1)
theorem least_take {s : List Nat} (hs : s.Pairwise (· ≤ ·)) {k : Nat} (hk : k < s.length) : leastL (s.take (k + 1)) = if hoB (leastL (s.take k)) (s.getD k 0) then leastL (s.take k) else leastL (s.take k) ++ [s.getD k 0] := by
  have e : s.take (k + 1) = s.take k ++ [s.getD k 0] := by
    rw [List.take_add_one, List.getElem?_eq_getElem hk, List.getD_eq_getElem?_getD, List.getElem?_eq_getElem hk]; rfl
  rw [e]
  refine least_next fun y hy => ?_
  obtain ⟨j, hj, rfl⟩ := List.getElem_of_mem hy
  rw [List.length_take] at hj
  rw [List.getElem_take, List.getD_eq_getElem?_getD, List.getElem?_eq_getElem hk]
  exact List.pairwise_iff_getElem.1 hs j k (by omega) hk (by omega)
theorem least_perm {s l : List Nat} (h : s.Perm l) : leastL s = leastL l := leastL_ext fun held => by
  unfold HoP
  constructor
  · rintro ⟨x, hx, hw⟩; exact ⟨x, h.mem_iff.1 hx, hw⟩
  · rintro ⟨x, hx, hw⟩; exact ⟨x, h.mem_iff.2 hx, hw⟩
theorem uni_next {a b : List Nat} {k : Nat} (hk : k < a.length) : uniL (a.take (k + 1)) b = uniL (a.take k) b ++ b.map fun y => a.getD k 0 ||| y := by
  have e : a.take (k + 1) = a.take k ++ [a.getD k 0] := by
    rw [List.take_add_one, List.getElem?_eq_getElem hk, List.getD_eq_getElem?_getD, List.getElem?_eq_getElem hk]; rfl
  rw [e]
  unfold uniL
  rw [List.flatMap_append]
  simp
theorem map_next {b : List Nat} {x j : Nat} (hj : j < b.length) : ((b.take (j + 1)).map fun y => x ||| y) = ((b.take j).map fun y => x ||| y) ++ [x ||| b.getD j 0] := by
  have e : b.take (j + 1) = b.take j ++ [b.getD j 0] := by
    rw [List.take_add_one, List.getElem?_eq_getElem hj, List.getD_eq_getElem?_getD, List.getElem?_eq_getElem hj]; rfl
  rw [e, List.map_append]; rfl
/-- A row of numbers that has just the numbers of l, as numbers of ours. -/
theorem row_back {l : List Nat} {d : List Int} (hp : d.Perm (l.map fun (x : Nat) => (x : Int))) (hu : d.Pairwise (· ≤ ·)) : ∃ s : List Nat, d = (s.map fun (x : Nat) => (x : Int)) ∧ s.Perm l ∧ s.Pairwise (· ≤ ·) := by
  have h0 : ∀ x ∈ d, ((x.toNat : Nat) : Int) = x := fun x hx => by
    obtain ⟨y, _, rfl⟩ := List.mem_map.1 (hp.mem_iff.1 hx)
    simp
  have e : d = ((d.map Int.toNat).map fun (x : Nat) => (x : Int)) := by
    rw [List.map_map]
    conv => lhs; rw [← List.map_id d]
    refine List.map_congr_left fun x hx => ?_
    exact (h0 x hx).symm
  refine ⟨d.map Int.toNat, e, ?_, ?_⟩
  · have := hp.map Int.toNat
    rw [List.map_map] at this
    simpa [Function.comp_def] using this
  · rw [List.pairwise_map]
    exact hu.imp fun h => by omega
end Go.Proofs.YtllcjmaecgfijaaDoor
