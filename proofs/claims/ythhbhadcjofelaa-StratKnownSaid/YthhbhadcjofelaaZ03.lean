/- Texts of the proof, put together: what it uses. -/
import Derived.Test.YthhbhadcjofelaaRows
import Derived.ProofKit
import Derived.OpenShut
import Derived.ShutString
import Derived.ChangeOld
import Derived.SizedLaws
import Derived.Lib.SmallJoins
import Derived.Deep.SlicePairs
import Derived.Deep.Grids
import Derived.Test.YthhbhadcjofelaaZ02
set_option maxRecDepth 100000
set_option maxHeartbeats 16000000
namespace Go.Proofs.Ythhbhadcjofelaa
open Go.ChangeShapes Go.WideShapes Go.ChangeAt Go.RowKit Go.Joins
open Go.ChangeMaps (open_string shut_string)
theorem q2j : ownKnob Try.prog.godebug = none := by kernel_rfl
theorem qw : laidOutB Try.prog = true := by kernel_rfl
theorem qr : Try.prog.cellsOf 3 = 1 := by kernel_rfl
theorem q10 : Try.prog.cellsOf 23 = 1 := by kernel_rfl
theorem qM {H : Type} {enc : TypeId × Value → H} {W : World} {a : Option Addr} {len cap : Nat} {d : DataW H} {p : List MemPlace}
  (h : DataW.Trod enc Try.prog W 0 (fun _ => true) true 23 (.slice a len cap) d p) : ∃ zs : List Int,ZSl W a len cap zs ∧ ∀ z ∈ zs,I64 z := by
 obtain ⟨fuel,hf⟩ := h
 rcases open_ints Try.underlying23 Try.underlying3 qr hf with ⟨hcs,_⟩ | ⟨x,l,c,zs,hcs,_,hl,hm,hz,_,hcell,hwz⟩
 ·simp [Value.cells] at hcs
  obtain ⟨rfl,rfl,rfl⟩ := hcs
  exact ⟨[],⟨rfl,Nat.le_refl _,Nat.zero_le _,fun m k w hk hm => absurd hk (by omega),fun k hk => absurd hk (by omega),fun k hk => absurd hk (by omega),fun _ => rfl⟩,fun z hz => by simp at hz⟩
 ·simp [Value.cells] at hcs
  obtain ⟨rfl,rfl,rfl⟩ := hcs
  simp only [if_true] at hz
  have hc : ∀ k,k < len → W.cell? (adOf (some x) k) = some (.int .i64 ((zs.take len).getD k 0)) := fun k hk => by
   have := hcell k (by omega)
   simp only [adOf]
   rw [this]; simp [List.getD_eq_getElem?_getD,hk]
  refine ⟨zs.take len,⟨by simp; omega,hl,hm,fun n k w hk hn => qk Try.underlying23 qn (by simp) k w hk,hc,fun k hk => World.block_lt_of_cell? W _ (hc k hk),by simp⟩,fun z hz => ?_⟩
  have := bounds_i64 (hwz z (List.mem_of_mem_take hz))
  exact ⟨by omega,by omega⟩
end Go.Proofs.Ythhbhadcjofelaa
namespace Go.Proofs.Ythhbhadcjofelaa
open Go.ChangeShapes Go.WideShapes Go.ChangeAt Go.RowKit Go.Joins
theorem q2F : Try.prog.cellsOf 26 = 4 := by kernel_rfl
theorem q1l : Try.prog.cellsOf 4 = 1 := by kernel_rfl
theorem q29 : Try.prog.cellsOf 77 = 3 := by kernel_rfl
theorem q3p {H : Type} {enc : TypeId × Value → H} {W : World} {a : Option Addr} {len cap : Nat} {d : DataW H} {p : List MemPlace}
  (h : DataW.Trod enc Try.prog W 0 (fun _ => true) true 22 (.slice a len cap) d p) : ∃ bs : List Bool,BoSl W a len cap bs := by
 obtain ⟨fuel,hf⟩ := h
 rcases Go.Deep.open_bools Try.underlying22 Try.underlying4 q1l hf with ⟨hcs,_⟩ | ⟨x,l,c,B,hcs,_,hl,hm,_,hcell⟩
 ·simp [Value.cells] at hcs
  obtain ⟨rfl,rfl,rfl⟩ := hcs
  exact ⟨[],BoSl.nil⟩
 ·simp [Value.cells] at hcs
  obtain ⟨rfl,rfl,rfl⟩ := hcs
  refine ⟨(List.range len).map B,⟨by simp,hl,hm,fun e => (by cases e),fun y hy k hk => ?_⟩⟩
  injection hy with hy; subst hy
  simp at hk
  rw [hcell k (by omega)]; simp
theorem q3x {H : Type} {enc : TypeId × Value → H} {W : World} {a : Option Addr} {len cap : Nat} {d : DataW H} {p : List MemPlace}
  (h : DataW.Trod enc Try.prog W 0 (fun _ => true) true 24 (.slice a len cap) d p) : ∃ N : List Gd,NdSl W a len cap N := by
 obtain ⟨fuel,hf⟩ := h
 rcases Go.Deep.open_slice Try.underlying24 hf with ⟨hcs,_⟩ | ⟨x,l,c,m,n,D,Pl,hcs,_,hl,hm,hmm,hx,hall⟩
 ·simp [Value.cells] at hcs
  obtain ⟨rfl,rfl,rfl⟩ := hcs
  exact ⟨[],NdSl.nil⟩
 ·simp [Value.cells] at hcs
  obtain ⟨rfl,rfl,rfl⟩ := hcs
  simp only [if_true] at hmm
  subst hmm
  have each : ∀ i,i < len → ∃ t : Gd,W.cell? (x.add (3 * i)) = some (.int .i64 t.1) ∧ W.cell? (x.add (3 * i + 1)) = some (.int .i64 t.2.1) ∧ W.cell? (x.add (3 * i + 2)) = some (.int .i64 t.2.2) ∧ GdOk t := by
   intro i hi
   obtain ⟨cs',h1,h2⟩ := hall i (by omega)
   rw [q29] at h1
   obtain ⟨_,hlen,hcell⟩ := World.cells?_some h1
   obtain ⟨xs,k,hk,hxy,_,hxl,hfd⟩ := DataW.trod_struct Try.underlying77 h2
   match xs,hxl,cs',hlen with
   | [y0,y1,y2],_,[v0,v1,v2],_ =>
    have g0 := hfd 0 _ rfl
    have g1 := hfd 1 _ rfl
    have g2 := hfd 2 _ rfl
    simp [qr] at g0 g1 g2
    have e0 := hcell 0 (by omega)
    have e1 := hcell 1 (by omega)
    have e2 := hcell 2 (by omega)
    rw [Go.Deep.add_add] at e0 e1 e2
    obtain ⟨z0,q0,r0,w0⟩ := DataW.trod_int Try.underlying3 g0
    obtain ⟨z1,q1,r1,w1⟩ := DataW.trod_int Try.underlying3 g1
    obtain ⟨z2,q2,r2,w2⟩ := DataW.trod_int Try.underlying3 g2
    simp at q0 q1 q2
    subst q0 q1 q2
    have b0 := bounds_i64 w0
    have b1 := bounds_i64 w1
    have b2 := bounds_i64 w2
    refine ⟨(z0,z1,z2),?_,?_,?_,⟨⟨?_,?_⟩,⟨?_,?_⟩,⟨?_,?_⟩⟩⟩
    ·rw [Nat.mul_comm]; simpa using e0
    ·rw [Nat.mul_comm]; simpa using e1
    ·rw [Nat.mul_comm]; simpa using e2
    all_goals (dsimp only; omega)
  obtain ⟨f,hff⟩ := Go.Deep.choose_lt each
  have hget : ∀ k (hk : k < ((List.range len).map f).length),((List.range len).map f)[k] = f k := fun k hk => by simp
  refine ⟨(List.range len).map f,⟨by simp,hl,hm,fun hn => (by cases hn),fun y hy k hk => ?_,fun y hy k hk => ?_,fun y hy k hk => ?_,fun t ht => ?_⟩⟩
  ·injection hy with hy; subst hy
   rw [hget k hk]; exact (hff k (by simpa using hk)).1
  ·injection hy with hy; subst hy
   rw [hget k hk]; exact (hff k (by simpa using hk)).2.1
  ·injection hy with hy; subst hy
   rw [hget k hk]; exact (hff k (by simpa using hk)).2.2.1
  ·obtain ⟨i,hi,rfl⟩ := List.mem_map.1 ht
   exact (hff i (List.mem_range.1 hi)).2.2.2
theorem q42 {α : Type} {cs : Array α} (h : cs.size = 4) : ∃ a b c d,cs = #[a,b,c,d] := by
 obtain ⟨l⟩ := cs
 match l,h with
 | [a,b,c,d],_ => exact ⟨a,b,c,d,rfl⟩
theorem q1h {H : Type} {enc : TypeId × Value → H} {W : World} {base : Nat} {v : Value} {d : DataW H} {p : List MemPlace}
  (hv : Value.okWide Try.prog W .any base 26 v) (h : DataW.Trod enc Try.prog W 0 (fun _ => true) true 26 v d p) :
  ∃ (n : Int) (aA : Option Addr) (nA cA : Nat) (aG : Option Addr) (nG cG : Nat) (aN : Option Addr) (nN cN : Nat) (bs : List Bool) (gs : List Int) (N : List Gd),v = .agg #[.int .i64 n,.slice aA nA cA,.slice aG nG cG,.slice aN nN cN] ∧ BoSl W aA nA cA bs ∧ ZSl W aG nG cG gs ∧ NdSl W aN nN cN N ∧ ∀ z ∈ gs,I64 z := by
 obtain ⟨cs,rfl,hsz⟩ := okWide_struct Try.underlying26 hv
 obtain ⟨v0,v1,v2,v3,rfl⟩ := q42 (hsz.trans q2F)
 obtain ⟨fuel,hf⟩ := h
 obtain ⟨xs,k,hk,hxy,_,hxl,hfd⟩ := DataW.trod_struct Try.underlying26 hf
 match xs,hxl with
 | [y0,y1,y2,y3],_ =>
  have g0 := hfd 0 _ rfl
  have g1 := hfd 1 _ rfl
  have g2 := hfd 2 _ rfl
  have g3 := hfd 3 _ rfl
  have k1 : Try.prog.cellsOf 22 = 1 := by kernel_rfl
  have k3 : Try.prog.cellsOf 24 = 1 := by kernel_rfl
  simp [Value.cells,qr,q10,k1,k3] at g0 g1 g2 g3
  obtain ⟨z0,q0,_,_⟩ := DataW.trod_int Try.underlying3 g0
  simp at q0
  subst q0
  have s1 : ∃ a l c,v1 = .slice a l c := by
   rcases Go.Deep.open_bools Try.underlying22 Try.underlying4 q1l g1 with ⟨hcs,_⟩ | ⟨x,l,c,_,hcs,_⟩
   ·simp at hcs; exact ⟨_,_,_,hcs⟩
   ·simp at hcs; exact ⟨_,_,_,hcs⟩
  have s2 : ∃ a l c,v2 = .slice a l c := by
   rcases open_ints Try.underlying23 Try.underlying3 qr g2 with ⟨hcs,_⟩ | ⟨x,l,c,_,hcs,_⟩
   ·simp at hcs; exact ⟨_,_,_,hcs⟩
   ·simp at hcs; exact ⟨_,_,_,hcs⟩
  have s3 : ∃ a l c,v3 = .slice a l c := by
   rcases Go.Deep.open_slice Try.underlying24 g3 with ⟨hcs,_⟩ | ⟨x,l,c,_,_,_,_,hcs,_⟩
   ·simp at hcs; exact ⟨_,_,_,hcs⟩
   ·simp at hcs; exact ⟨_,_,_,hcs⟩
  obtain ⟨a1,l1,c1,rfl⟩ := s1
  obtain ⟨a2,l2,c2,rfl⟩ := s2
  obtain ⟨a3,l3,c3,rfl⟩ := s3
  obtain ⟨bs,hb⟩ := q3p (enc := enc) (W := W) (a := a1) (len := l1) (cap := c1) ⟨k,g1⟩
  obtain ⟨gs,hg,hok⟩ := qM (enc := enc) (W := W) (a := a2) (len := l2) (cap := c2) ⟨k,g2⟩
  obtain ⟨N,hn⟩ := q3x (enc := enc) (W := W) (a := a3) (len := l3) (cap := c3) ⟨k,g3⟩
  exact ⟨z0,a1,l1,c1,a2,l2,c2,a3,l3,c3,bs,gs,N,rfl,hb,hg,hn,hok⟩
end Go.Proofs.Ythhbhadcjofelaa
