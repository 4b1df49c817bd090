import Derived.Test.YtoioiellaomonaaGreatDoorRows
import Derived.ProofKit
import Derived.OpenShut
import Derived.ShutString
import Derived.ChangeOld
import Derived.SizedLaws
import Derived.Lib.SmallJoins
import Derived.Deep.SlicePairs
import Derived.Test.YtoioiellaomonaaGreatDoorZ03
set_option maxRecDepth 100000
set_option maxHeartbeats 16000000
namespace Go.Proofs.YtoioiellaomonaaGreatDoor
open Go.ChangeShapes Go.WideShapes Go.ChangeAt Go.RowKit Go.Joins Proofs.Tryz
open Go.ChangeMaps (open_string shut_string)
variable {H:Type}{W:World}{a:Option Addr}{len cap:Nat}{d:DataW H}{p:List MemPlace}
theorem qg8:ownKnob prog.godebug=none:=by kernel_rfl
theorem q63:laidOutB prog=true:=by kernel_rfl
theorem qat:prog.cellsOf 42=2:=by kernel_rfl
theorem qbm:prog.cellsOf 40=1:=by kernel_rfl
theorem qbn:prog.cellsOf 5=1:=by kernel_rfl
def x9:Value->Nat
 | .int _ z=>z.toNat
 |_=>0
theorem qck{enc:TypeId×Value->H}{W:World}{a:Option Addr}{len cap:Nat}{d:DataW H}{p:List MemPlace}
  (h:DataW.Trod enc prog W 0 (fun _=>true) true 22 (.slice a len cap) d p):∃ts,bG W a len cap ts:=by
 obtain⟨fuel,hf⟩:=h;rcases Go.Deep.open_slice_pairs underlying22 underlying42 qat rfl rfl qbm qbn hf with⟨hcs,_⟩|⟨x,l,c,m,n,V0,V1,D0,D1,P0,P1,hcs,_,hl,hm,hmm,_,hall⟩
 ·simp[Value.cells]at hcs
  obtain⟨rfl,rfl,rfl⟩:=hcs;exact⟨[],bG.nil⟩
 ·simp[Value.cells]at hcs
  obtain⟨rfl,rfl,rfl⟩:=hcs;simp only[if_true]at hmm
  subst hmm
  have key:∀i,i<len->W.cell? (x.add (2*i))=some (.int .u8 ((x9 (V0 i):Nat):Int))/\W.cell? (x.add (2*i+1))=some (.int .u8 ((x9 (V1 i):Nat):Int))/\x9 (V0 i)<256/\x9 (V1 i)<256:=fun i hi=>by
   obtain⟨h0,h1,h2,h3⟩:=hall i (by omega)
   obtain⟨z0,e0,_,w0⟩:=DataW.trod_int underlying40 h2;obtain⟨z1,e1,_,w1⟩:=DataW.trod_int underlying5 h3;simp at e0 e1
   have b0:=bounds_u8 w0;have b1:=bounds_u8 w1;rw[Nat.mul_comm]at h0 h1;rw[e0]at h0;rw[e1]at h1;have q0:((x9 (V0 i):Nat):Int)=z0:=by rw[e0];show ((z0.toNat:Nat):Int)=z0;omega
   have q1:((x9 (V1 i):Nat):Int)=z1:=by rw[e1];show ((z1.toNat:Nat):Int)=z1;omega
   rw[q0,q1];exact⟨h0,h1,by omega,by omega⟩
  refine⟨(List.range len).map fun i=>(x9 (V0 i),x9 (V1 i)),⟨by simp,hl,hm,fun hn=>(nomatch hn),fun y hy k hk=>?_,fun y hy k hk=>?_,fun t ht=>?_⟩⟩
  ·injection hy with hy;subst hy
   simp at hk
   simpa using (key k hk).1
  ·injection hy with hy;subst hy
   simp at hk
   simpa using (key k hk).2.1
  ·obtain⟨i,hi,rfl⟩:=List.mem_map.1 ht
   exact(key i (List.mem_range.1 hi)).2.2
theorem qch:(prog.info? 43).map (·.size)=some 1:=by kernel_rfl
theorem qar:prog.cellsOf 43=1:=by kernel_rfl
theorem qaG{enc:TypeId×Value->H}{W:World}{a:Option Addr}{len cap:Nat}{d:DataW H}{p:List MemPlace}
  (h:DataW.Trod enc prog W 0 (fun _=>true) true 23 (.slice a len cap) d p):∃zs,dh prog 23 .u8 W a len cap zs/\∀z∈zs,0<=z/\z<256:=by
 obtain⟨fuel,hf⟩:=h;rcases open_ints underlying23 underlying43 qar hf with⟨hcs,_⟩|⟨x,l,c,zs,hcs,_,hl,hm,hz,_,hcell,hwz⟩
 ·simp[Value.cells]at hcs
  obtain⟨rfl,rfl,rfl⟩:=hcs;exact⟨[],fR,fun z hz=>by simp at hz⟩
 ·simp[Value.cells]at hcs
  obtain⟨rfl,rfl,rfl⟩:=hcs;simp only[if_true]at hz
  have hc:∀k,k<len->W.cell? (aG (some x) k)=some (.int .u8 ((zs.take len).getD k 0)):=fun k hk=>by
   have:=hcell k (by omega)
   simp only[aG]
   rw[this];simp[List.getD_eq_getElem?_getD,hk]
  refine⟨zs.take len,⟨by simp;omega,hl,hm,fun n k w hk hn=>yK underlying23 qch (by simp) k w hk,hc,fun k hk=>World.block_lt_of_cell? W _ (hc k hk),by simp⟩,fun z hz=>?_⟩
  have:=bounds_u8 (hwz z (List.mem_of_mem_take hz));omega
end Go.Proofs.YtoioiellaomonaaGreatDoor
