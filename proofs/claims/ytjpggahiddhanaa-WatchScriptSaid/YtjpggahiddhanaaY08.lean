/- Texts of the proof, put together: what it uses. -/
import Derived.Test.YtjpggahiddhanaaY03
import Derived.Test.YtjpggahiddhanaaY04
import Derived.Test.YtjpggahiddhanaaY07
set_option maxRecDepth 100000
set_option maxHeartbeats 16000000
namespace Go.Proofs.Ytjpggahiddhanaa
open Go.ChangeShapes Go.WideShapes Go.ChangeAt Go.RowKit Go.Joins
theorem q2z : Try.prog.cellsOf 48 = 3 := by kernel_rfl
theorem q2W : Try.prog.cellsOf 5 = 1 := by kernel_rfl
theorem q2C : Try.prog.cellsOf 46 = 1 := by kernel_rfl
theorem q3v {H : Type} {enc : TypeId × Value → H} {W : World} {a : Option Addr} {len cap : Nat} {d : DataW H} {p : List MemPlace}
  (h : DataW.Trod enc Try.prog W 0 (fun _ => true) true 27 (.slice a len cap) d p) : ∃ N : List AcT,AcSl W a len cap N := by
 obtain ⟨fuel,hf⟩ := h
 rcases Go.Deep.open_slice Try.underlying27 hf with ⟨hcs,_⟩ | ⟨x,l,c,m,n,D,Pl,hcs,_,hl,hm,hmm,hx,hall⟩
 ·simp [Value.cells] at hcs
  obtain ⟨rfl,rfl,rfl⟩ := hcs
  exact ⟨[],AcSl.nil⟩
 ·simp [Value.cells] at hcs
  obtain ⟨rfl,rfl,rfl⟩ := hcs
  simp only [if_true] at hmm
  subst hmm
  have each : ∀ i,i < len → ∃ t : AcT,W.cell? (x.add (3 * i)) = some (.int .u8 (t.1 : Int)) ∧ W.cell? (x.add (3 * i + 1)) = some (.int .u8 (t.2.1 : Int)) ∧ W.cell? (x.add (3 * i + 2)) = some (.int .u8 (t.2.2 : Int)) ∧ t.1 < 256 ∧ t.2.1 < 256 ∧ t.2.2 < 256 := by
   intro i hi
   obtain ⟨cs',h1,h2⟩ := hall i (by omega)
   rw [q2z] at h1
   obtain ⟨_,hlen,hcell⟩ := World.cells?_some h1
   obtain ⟨xs,k,hk,hxy,_,hxl,hfd⟩ := DataW.trod_struct Try.underlying48 h2
   match xs,hxl,cs',hlen with
   | [y0,y1,y2],_,[v0,v1,v2],_ =>
    have g0 := hfd 0 _ rfl
    have g1 := hfd 1 _ rfl
    have g2 := hfd 2 _ rfl
    simp [q2W,q2C] at g0 g1 g2
    have e0 := hcell 0 (by omega)
    have e1 := hcell 1 (by omega)
    have e2 := hcell 2 (by omega)
    rw [Go.Deep.add_add] at e0 e1 e2
    obtain ⟨z0,q0,r0,w0⟩ := DataW.trod_int Try.underlying5 g0
    obtain ⟨z1,q1,r1,w1⟩ := DataW.trod_int Try.underlying5 g1
    obtain ⟨z2,q2,r2,w2⟩ := DataW.trod_int Try.underlying46 g2
    simp at q0 q1 q2
    subst q0 q1 q2
    have b0 := bounds_u8 w0
    have b1 := bounds_u8 w1
    have b2 := bounds_u8 w2
    obtain ⟨z0,rfl⟩ := Int.eq_ofNat_of_zero_le (show 0 ≤ z0 by omega)
    obtain ⟨z1,rfl⟩ := Int.eq_ofNat_of_zero_le (show 0 ≤ z1 by omega)
    obtain ⟨z2,rfl⟩ := Int.eq_ofNat_of_zero_le (show 0 ≤ z2 by omega)
    refine ⟨(z0,z1,z2),?_,?_,?_,?_,?_,?_⟩
    ·rw [Nat.mul_comm]; simpa using e0
    ·rw [Nat.mul_comm]; simpa using e1
    ·rw [Nat.mul_comm]; simpa using e2
    all_goals (dsimp only; omega)
  obtain ⟨f,hff⟩ := Go.Deep.choose_lt each
  have hget : ∀ k (hk : k < ((List.range len).map f).length),((List.range len).map f)[k] = f k := fun k hk => by simp
  refine ⟨(List.range len).map f,⟨by simp,hl,hm,fun hn => (by cases hn),fun y hy k hk => ?_,fun y hy k hk => ?_,fun y hy k hk => ?_,fun t ht => ?_⟩⟩
  ·injection hy with hy; subst hy
   rw [hget k hk]; exact (hff k (by simpa using hk)).1
  ·injection hy with hy; subst hy
   rw [hget k hk]; exact (hff k (by simpa using hk)).2.1
  ·injection hy with hy; subst hy
   rw [hget k hk]; exact (hff k (by simpa using hk)).2.2.1
  ·obtain ⟨i,hi,rfl⟩ := List.mem_map.1 ht
   exact (hff i (List.mem_range.1 hi)).2.2.2
end Go.Proofs.Ytjpggahiddhanaa
