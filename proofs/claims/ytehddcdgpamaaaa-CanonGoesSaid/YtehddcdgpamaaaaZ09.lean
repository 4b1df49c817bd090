/- Texts of the proof, put together: what it uses. -/
import Derived.Test.YtehddcdgpamaaaaZ03
import Derived.Test.YtehddcdgpamaaaaZ08
set_option maxRecDepth 100000
set_option maxHeartbeats 16000000
namespace Go.Proofs.Ytehddcdgpamaaaa
open Go.ChangeShapes Go.WideShapes Go.ChangeAt Go.RowKit Go.Joins
open Go.ChangeMaps (open_string shut_string)
theorem q2h : Try.prog.cellsOf 39 = 1 := by kernel_rfl
theorem q2n {H : Type} {enc : TypeId × Value → H} {W : World} {a : Option Addr} {len cap : Nat} {d : DataW H} {p : List MemPlace}
  (h : DataW.Trod enc Try.prog W 0 (fun _ => true) true 40 (.slice a len cap) d p) : ∃ zs,IntSl Try.prog 40 .u8 W a len cap zs ∧ ∀ z ∈ zs,0 ≤ z ∧ z < 256 := by
 obtain ⟨fuel,hf⟩ := h
 rcases open_ints Try.underlying40 Try.underlying39 q2h hf with ⟨hcs,_⟩ | ⟨x,l,c,zs,hcs,_,hl,hm,hz,_,hcell,hwz⟩
 ·simp [Value.cells] at hcs
  obtain ⟨rfl,rfl,rfl⟩ := hcs
  exact ⟨[],q4g,fun z hz => by simp at hz⟩
 ·simp [Value.cells] at hcs
  obtain ⟨rfl,rfl,rfl⟩ := hcs
  simp only [if_true] at hz
  have hc : ∀ k,k < len → W.cell? (adOf (some x) k) = some (.int .u8 ((zs.take len).getD k 0)) := fun k hk => by
   have := hcell k (by omega)
   simp only [adOf]
   rw [this]; simp [List.getD_eq_getElem?_getD,hk]
  refine ⟨zs.take len,⟨by simp; omega,hl,hm,fun n k w hk hn => qp Try.underlying40 q2o (by simp) k w hk,hc,fun k hk => World.block_lt_of_cell? W _ (hc k hk),by simp⟩,fun z hz => ?_⟩
  have := bounds_u8 (hwz z (List.mem_of_mem_take hz)); omega
theorem q4Q : Try.prog.bytesOf 39 = 1 := by kernel_rfl
theorem q1C {H : Type} {enc : TypeId × Value → H} {W : World} {a : Option Addr} {len cap : Nat} {d : DataW H} {p : List MemPlace}
  (h : DataW.Trod enc Try.prog W 0 (fun _ => true) true 40 (.slice a len cap) d p) {ts : List TypeId} {ds : List (DataW H)} (hsz : (DataW.weightsEach Try.prog ts ds).all (· ≤ reachBytes) = true) {j : Nat} (ht : ts[j]? = some 40) (hd : ds[j]? = some d) : cap ≤ 140737488351232 := by
 obtain ⟨fuel,hf⟩ := h
 rcases open_ints Try.underlying40 Try.underlying39 q2h hf with ⟨hcs,_⟩ | ⟨x,l,c,zs,hcs,_,hl,hm,hz,hx,hcell,hwz⟩
 ·simp [Value.cells] at hcs
  obtain ⟨rfl,rfl,rfl⟩ := hcs
  exact Nat.zero_le _
 ·simp [Value.cells] at hcs
  obtain ⟨rfl,rfl,rfl⟩ := hcs
  simp only [if_true] at hz
  injection hx with hx _
  subst hx
  have := sized_slice hsz ht hd Try.underlying40
  rw [q4Q] at this
  simp only [lits,List.length_map,List.length_take,List.length_drop,reachBytes] at this
  omega
end Go.Proofs.Ytehddcdgpamaaaa
