/- Stage 10's laws over the contracts of package sets: SetsMean. -/
import Derived.Test.YtllcjmaecgfijaaDoorWSe3
import Derived.Deep.DeepCutAuto
import Derived.BigQuiet
namespace Go.Proofs.YtllcjmaecgfijaaDoor
open Go.RowKit Go.Maps

theorem hoB_or (a b : List Nat) (h : Nat) : hoB (leastL (a ++ b)) h = (hoB a h || hoB b h) := by
  unfold hoB
  rw [Bool.eq_iff_iff]
  simp only [Bool.or_eq_true, decide_eq_true_eq]
  rw [leastL_holds, hoP_append]
theorem hoB_and (a b : List Nat) (h : Nat) : hoB (leastL (uniL a b)) h = (hoB a h && hoB b h) := by
  unfold hoB
  rw [Bool.eq_iff_iff]
  simp only [Bool.and_eq_true, decide_eq_true_eq]
  rw [leastL_holds, hoP_uni]
theorem hoB_least (a : List Nat) (h : Nat) : hoB (leastL a) h = hoB a h := by
  unfold hoB
  rw [Bool.eq_iff_iff]
  simp only [decide_eq_true_eq]
  rw [leastL_holds]
theorem sm_least {l : List Nat} (h : Sm l) : Sm (leastL l) := fun x hx => h x (leastL_sub hx)
theorem sm_append {a b : List Nat} (h : Sm a) (k : Sm b) : Sm (a ++ b) := fun x hx => (List.mem_append.1 hx).elim (h x) (k x)
theorem sm_uni {a b : List Nat} (h : Sm a) (k : Sm b) : Sm (uniL a b) := fun x hx => by
  unfold uniL at hx
  obtain ⟨y, hy, hx⟩ := List.mem_flatMap.1 hx
  obtain ⟨z, hz, rfl⟩ := List.mem_map.1 hx
  exact or_lt (h y hy) (k z hz)
theorem len_or (a b : List Nat) : (leastL (a ++ b)).length ≤ a.length + b.length := by
  have := leastL_len (a ++ b); rw [List.length_append] at this; exact this
theorem len_and (a b : List Nat) : (leastL (uniL a b)).length ≤ a.length * b.length := by
  have := leastL_len (uniL a b); rw [uniL_length] at this; exact this
end Go.Proofs.YtllcjmaecgfijaaDoor
