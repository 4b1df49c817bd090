/- Texts of the proof, put together: what it uses. -/
import Derived.OwnWalk
import Derived.Deep.RegionLaw
import Derived.BigRegion
import Derived.ShutString
import Derived.ChangeOld
import Derived.Lib.SmallJoins
import Derived.Test.YtbgogbafkoekjaaZ00
import Derived.Test.YtbgogbafkoekjaaZ01
import Derived.Test.YtbgogbafkoekjaaZ02
import Derived.Test.YtbgogbafkoekjaaZ03
import Derived.Test.YtbgogbafkoekjaaZ04
import Derived.Test.YtbgogbafkoekjaaZ06
set_option maxRecDepth 100000
set_option maxHeartbeats 16000000
namespace Go.Proofs.Ytbgogbafkoekjaa
open Go.ChangeShapes Go.WideShapes Go.ChangeAt Go.RowKit Go.Joins
open Go.ChangeMaps (open_string shut_string)
theorem qE : Try.prog.cellsOf 29 = 2 := by kernel_rfl
theorem qG {H : Type} {enc : TypeId × Value → H} {W : World} {base : Nat} {v : Value} {d : DataW H} {p : List MemPlace}
  (hv : Value.okWide Try.prog W .any base 29 v) (h : DataW.Trod enc Try.prog W 0 (fun _ => true) true 29 v d p) :
  ∃ a b : Nat,a < 256 ∧ b < 256 ∧ v = .agg #[.int .u8 (a : Int),.int .u8 (b : Int)] ∧ p = [] ∧ ∀ (W' : World) (sp : Nat → Bool),DataW.Trod enc Try.prog W' 0 sp true 29 v d [] := by
 obtain ⟨c0,c1,y0,y1,m,rfl,rfl,rfl,hy0,hy1⟩ := open_agg2 Try.underlying29 (by kernel_rfl) qE hv h
 obtain ⟨a,e0,rfl,wa⟩ := DataW.trod_int Try.underlying27 hy0
 obtain ⟨b,e1,rfl,wb⟩ := DataW.trod_int Try.underlying27 hy1
 simp at e0 e1
 subst e0 e1
 have ha := bounds_u8 wa
 have hb := bounds_u8 wb
 obtain ⟨a,rfl⟩ := Int.eq_ofNat_of_zero_le (show 0 ≤ a by omega)
 obtain ⟨b,rfl⟩ := Int.eq_ofNat_of_zero_le (show 0 ≤ b by omega)
 exact ⟨a,b,by omega,by omega,rfl,rfl,fun W' sp => shut_agg2 (y0 := (.lit (.int .u8 (a : Int)),[])) (y1 := (.lit (.int .u8 (b : Int)),[])) Try.underlying29 (by kernel_rfl) qE ⟨1,by simp [DataW.trod,Try.underlying27,wa]⟩ ⟨1,by simp [DataW.trod,Try.underlying27,wb]⟩⟩
end Go.Proofs.Ytbgogbafkoekjaa
