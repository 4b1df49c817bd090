/- Texts of the proof, put together: what it uses. -/
import Derived.ShutString
import Derived.ChangeOld
import Derived.Lib.SmallJoins
import Derived.Test.YtohbphocfkgdcaaY04
import Derived.Test.YtohbphocfkgdcaaY08
import Derived.Test.YtohbphocfkgdcaaY09
set_option maxRecDepth 100000
set_option maxHeartbeats 16000000
namespace Go.Proofs.Ytohbphocfkgdcaa
open Go.ChangeShapes Go.WideShapes Go.ChangeAt Go.RowKit Go.Joins
open Go.ChangeMaps (open_string shut_string)
theorem qY : Try.prog.cellsOf 29 = 2 := by kernel_rfl
theorem q30 : Try.prog.cellsOf 9 = 1 := by kernel_rfl
theorem q2h {H : Type} {enc : TypeId × Value → H} {W : World} {base : Nat} {v : Value} {d : DataW H} {p : List MemPlace}
  (hv : Value.okWide Try.prog W .any base 29 v) (h : DataW.Trod enc Try.prog W 0 (fun _ => true) true 29 v d p) :
  ∃ a b : Nat,a < 256 ∧ b < 256 ∧ v = .agg #[.int .u8 (a : Int),.int .u8 (b : Int)] ∧ p = [] ∧ ∀ (W' : World) (sp : Nat → Bool),DataW.Trod enc Try.prog W' 0 sp true 29 v d [] := by
 obtain ⟨c0,c1,y0,y1,m,rfl,rfl,rfl,hy0,hy1⟩ := open_agg2 Try.underlying29 (by kernel_rfl) qY hv h
 obtain ⟨a,e0,rfl,wa⟩ := DataW.trod_int Try.underlying27 hy0
 obtain ⟨b,e1,rfl,wb⟩ := DataW.trod_int Try.underlying27 hy1
 simp at e0 e1
 subst e0 e1
 have ha := bounds_u8 wa
 have hb := bounds_u8 wb
 obtain ⟨a,rfl⟩ := Int.eq_ofNat_of_zero_le (show 0 ≤ a by omega)
 obtain ⟨b,rfl⟩ := Int.eq_ofNat_of_zero_le (show 0 ≤ b by omega)
 exact ⟨a,b,by omega,by omega,rfl,rfl,fun W' sp => shut_agg2 (y0 := (.lit (.int .u8 (a : Int)),[])) (y1 := (.lit (.int .u8 (b : Int)),[])) Try.underlying29 (by kernel_rfl) qY ⟨1,by simp [DataW.trod,Try.underlying27,wa]⟩ ⟨1,by simp [DataW.trod,Try.underlying27,wb]⟩⟩
theorem q1q {H : Type} {enc : TypeId × Value → H} {W : World} {a : Option Addr} {len cap : Nat} {d : DataW H} {p : List MemPlace}
  (h : DataW.Trod enc Try.prog W 0 (fun _ => true) true 30 (.slice a len cap) d p) : ∃ ss,StrSl Try.prog 30 W a len cap (adOf a) ss := by
 obtain ⟨fuel,hf⟩ := h
 rcases open_strings Try.underlying30 Try.underlying9 q30 hf with ⟨hcs,_⟩ | ⟨x,l,c,ss,hcs,_,hl,hm,hz,_,hcell,hws⟩
 ·simp [Value.cells] at hcs
  obtain ⟨rfl,rfl,rfl⟩ := hcs
  exact ⟨[],rfl,Nat.le_refl _,Nat.zero_le _,fun n k w hk hn => absurd hk (by omega),fun k hk => absurd hk (by omega),fun k hk => absurd hk (by omega),fun k => by simp [maxLen,ByteArray.size_empty],fun _ => rfl⟩
 ·simp [Value.cells] at hcs
  obtain ⟨rfl,rfl,rfl⟩ := hcs
  simp only [if_true] at hz
  have hc : ∀ k,k < len → W.cell? (adOf (some x) k) = some (.string ((ss.take len).getD k ByteArray.empty)) := fun k hk => by
   have := hcell k (by omega)
   simp only [adOf]
   rw [this]; simp [List.getD_eq_getElem?_getD,hk]
  refine ⟨ss.take len,by simp; omega,hl,hm,fun n k w hk hn => qh Try.underlying30 qt (by simp) k w hk,hc,fun k hk => World.block_lt_of_cell? W _ (hc k hk),fun k => ?_,by simp⟩
  by_cases hk : k < (ss.take len).length
  ·have e : (ss.take len).getD k ByteArray.empty = (ss.take len)[k] := by simp [List.getD_eq_getElem?_getD,List.getElem?_eq_getElem hk]
   rw [e]; exact hws _ (List.mem_of_mem_take (List.getElem_mem hk))
  ·rw [List.getD_eq_getElem?_getD,List.getElem?_eq_none (by omega)]; simp [maxLen,ByteArray.size_empty]
end Go.Proofs.Ytohbphocfkgdcaa
