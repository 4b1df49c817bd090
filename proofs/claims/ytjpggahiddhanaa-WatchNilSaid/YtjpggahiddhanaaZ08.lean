/- Texts of the proof, put together: what it uses. -/
import Derived.Test.YtjpggahiddhanaaZ03
import Derived.Test.YtjpggahiddhanaaZ07
set_option maxRecDepth 100000
set_option maxHeartbeats 16000000
namespace Go.Proofs.Ytjpggahiddhanaa
open Go.ChangeShapes Go.WideShapes Go.ChangeAt Go.RowKit Go.Joins
open Go.ChangeMaps (open_string shut_string)
theorem q1G : Try.prog.cellsOf 46 = 1 := by kernel_rfl
theorem q12 {H : Type} {enc : TypeId × Value → H} {W : World} {a : Option Addr} {len cap : Nat} {d : DataW H} {p : List MemPlace}
  (h : DataW.Trod enc Try.prog W 0 (fun _ => true) true 41 (.slice a len cap) d p) : ∃ zs,IntSl Try.prog 41 .u8 W a len cap zs ∧ ∀ z ∈ zs,0 ≤ z ∧ z < 256 := by
 obtain ⟨fuel,hf⟩ := h
 rcases open_ints Try.underlying41 Try.underlying46 q1G hf with ⟨hcs,_⟩ | ⟨x,l,c,zs,hcs,_,hl,hm,hz,_,hcell,hwz⟩
 ·simp [Value.cells] at hcs
  obtain ⟨rfl,rfl,rfl⟩ := hcs
  exact ⟨[],q2Z,fun z hz => by simp at hz⟩
 ·simp [Value.cells] at hcs
  obtain ⟨rfl,rfl,rfl⟩ := hcs
  simp only [if_true] at hz
  have hc : ∀ k,k < len → W.cell? (adOf (some x) k) = some (.int .u8 ((zs.take len).getD k 0)) := fun k hk => by
   have := hcell k (by omega)
   simp only [adOf]
   rw [this]; simp [List.getD_eq_getElem?_getD,hk]
  refine ⟨zs.take len,⟨by simp; omega,hl,hm,fun n k w hk hn => qi Try.underlying41 q1N (by simp) k w hk,hc,fun k hk => World.block_lt_of_cell? W _ (hc k hk),by simp⟩,fun z hz => ?_⟩
  have := bounds_u8 (hwz z (List.mem_of_mem_take hz)); omega
theorem q3u : Try.prog.bytesOf 46 = 1 := by kernel_rfl
theorem qN {H : Type} {enc : TypeId × Value → H} {W : World} {a : Option Addr} {len cap : Nat} {d : DataW H} {p : List MemPlace}
  (h : DataW.Trod enc Try.prog W 0 (fun _ => true) true 41 (.slice a len cap) d p) {ts : List TypeId} {ds : List (DataW H)} (hsz : (DataW.weightsEach Try.prog ts ds).all (· ≤ reachBytes) = true) {j : Nat} (ht : ts[j]? = some 41) (hd : ds[j]? = some d) : cap ≤ 140737488351232 := by
 obtain ⟨fuel,hf⟩ := h
 rcases open_ints Try.underlying41 Try.underlying46 q1G hf with ⟨hcs,_⟩ | ⟨x,l,c,zs,hcs,_,hl,hm,hz,hx,hcell,hwz⟩
 ·simp [Value.cells] at hcs
  obtain ⟨rfl,rfl,rfl⟩ := hcs
  exact Nat.zero_le _
 ·simp [Value.cells] at hcs
  obtain ⟨rfl,rfl,rfl⟩ := hcs
  simp only [if_true] at hz
  injection hx with hx _
  subst hx
  have := sized_slice hsz ht hd Try.underlying41
  rw [q3u] at this
  simp only [lits,List.length_map,List.length_take,List.length_drop,reachBytes] at this
  omega
end Go.Proofs.Ytjpggahiddhanaa
