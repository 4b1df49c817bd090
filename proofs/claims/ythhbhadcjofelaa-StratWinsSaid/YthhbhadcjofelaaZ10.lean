/- Texts of the proof, put together: what it uses. -/
import Derived.Lib.BitFns
import Derived.Test.YthhbhadcjofelaaZ00
set_option maxRecDepth 100000
set_option maxHeartbeats 16000000
namespace Go.Proofs.Ythhbhadcjofelaa
def belN (m v : Nat) : Nat := if v = 0 then m else (v - 1) &&& m
theorem qS {m : Nat} (hm : m < 256) : (mvL m).getD 0 0 = 0 ∧ (mvL m).getD ((mvL m).length - 1) 0 = m ∧ ∀ k,k + 1 < (mvL m).length → (mvL m).getD (k + 1) 0 ≠ 0 ∧ belN m ((mvL m).getD (k + 1) 0) = (mvL m).getD k 0 := by
 have h : (List.range 256).all (fun m => (fun L : List Nat => L.getD 0 0 == 0 && L.getLast? == some m && (L.zip L.tail).all fun t => t.2 != 0 && ((t.2 - 1) &&& m == t.1)) (mvL m)) = true := by decide +kernel
 have h1 := qB h m hm
 simp only [Bool.and_eq_true,beq_iff_eq] at h1
 obtain ⟨⟨h2,h3⟩,h4⟩ := h1
 have hp := qF m
 refine ⟨h2,?_,fun k hk => ?_⟩
 ·rw [List.getLast?_eq_getElem?] at h3
  rw [List.getD_eq_getElem?_getD,h3]; rfl
 ·have h5 := List.all_eq_true.1 h4 ((mvL m)[k],(mvL m)[k + 1]) (by
   rw [List.mem_iff_getElem?]
   refine ⟨k,?_⟩
   rw [List.getElem?_zip_eq_some]
   refine ⟨List.getElem?_eq_getElem (by omega),?_⟩
   rw [List.getElem?_tail]
   exact List.getElem?_eq_getElem hk)
  simp only [Bool.and_eq_true,beq_iff_eq,bne_iff_ne] at h5
  have e1 : (mvL m).getD (k + 1) 0 = (mvL m)[k + 1] := by simp [List.getD_eq_getElem?_getD,List.getElem?_eq_getElem hk]
  have e2 : (mvL m).getD k 0 = (mvL m)[k] := by simp [List.getD_eq_getElem?_getD,List.getElem?_eq_getElem (show k < (mvL m).length by omega)]
  rw [e1,e2]
  refine ⟨h5.1,?_⟩
  rw [belN,if_neg h5.1]
  exact h5.2
theorem q4P {m v : Nat} (hm : m < 256) : belN m v < 256 := by
 unfold belN
 split
 ·exact hm
 ·exact Nat.lt_of_le_of_lt Nat.and_le_right hm
theorem q57 {m : Nat} (hm : m < 256) : Go.Lib.onesCount m = cbN m 8 := by
 have h : (List.range 256).all (fun m => Go.Lib.onesCount m == cbN m 8) = true := by decide +kernel
 exact beq_iff_eq.1 (qB h m hm)
def mvTo (m k : Nat) : List Int := (List.range (mvL m).length).map fun i => if i < k then 0 else (((mvL m).getD i 0 : Nat) : Int)
theorem q1a (m k : Nat) : (mvTo m k).length = (mvL m).length := by simp [mvTo]
theorem q1L {m k i : Nat} (h : i < (mvL m).length) : (mvTo m k)[i]? = some (if i < k then 0 else (((mvL m).getD i 0 : Nat) : Int)) := by simp [mvTo,h]
theorem q4w (m : Nat) : mvTo m (mvL m).length = List.replicate (mvL m).length 0 := by
 apply List.ext_getElem (by simp [mvTo])
 intro i h1 h2
 simp [mvTo] at h1 ⊢
 intro h
 omega
theorem q4b (m : Nat) : mvTo m 0 = (mvL m).map Int.ofNat := by
 apply List.ext_getElem (by simp [mvTo])
 intro i h1 h2
 have h3 : i < (mvL m).length := by simpa [mvTo] using h1
 simp [mvTo,List.getElem?_eq_getElem h3]
theorem q4v {m k : Nat} (h : k < (mvL m).length) : (mvTo m (k + 1)).set k (((mvL m).getD k 0 : Nat) : Int) = mvTo m k := by
 apply List.ext_getElem?
 intro i
 rw [List.getElem?_set]
 by_cases hi : i < (mvL m).length
 ·rw [q1L hi,q1L hi]
  by_cases e : k = i
  ·subst e; simp [q1a,h]
  ·rw [if_neg e]
   by_cases hk : i < k
   ·rw [if_pos hk,if_pos (by omega)]
   ·rw [if_neg hk,if_neg (by omega)]
 ·have h1 : (mvTo m (k + 1))[i]? = none := List.getElem?_eq_none (by rw [q1a]; omega)
  have h2 : (mvTo m k)[i]? = none := List.getElem?_eq_none (by rw [q1a]; omega)
  rw [h1,h2,q1a]
  split <;> simp; omega
end Go.Proofs.Ythhbhadcjofelaa
