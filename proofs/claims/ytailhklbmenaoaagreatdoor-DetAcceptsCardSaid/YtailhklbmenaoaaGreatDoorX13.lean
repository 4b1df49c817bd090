/- Texts of the proof, put together: what it uses. -/
import Derived.Deep.DeepCutAuto
import Derived.Deep.RegionHeld3
import Derived.BigQuiet
import Derived.Lib.QuietBelow
import Derived.Test.YtailhklbmenaoaaGreatDoorX02
import Derived.Test.YtailhklbmenaoaaGreatDoorX04
import Derived.Test.YtailhklbmenaoaaGreatDoorX07
import Derived.Test.YtailhklbmenaoaaGreatDoorX08
set_option maxRecDepth 100000
set_option maxHeartbeats 16000000
namespace Go.Proofs.YtailhklbmenaoaaGreatDoor
open Go.RowKit Go.Maps
theorem zlit(w:World)(zs:List Int)(hl:zs.length<=1000):ZSl (w.alloc (.cells (zs.map (Value.int .i64)).toArray 3)) (some ⟨w.heap.size,0,none⟩) zs.length zs.length zs:=by
 have h:RowI (w.alloc (.cells (zs.map (Value.int .i64)).toArray 3)) 3 w.heap.size zs:=(mha w _).1;have:=RowI.zsl (n:=zs.length) h Tryz.underlying29 q2S nlr (by unfold maxLen;omega)
 rwa [List.take_of_length_le nlr]at this
theorem ndlit(w:World)(N:List Gd)(hl:N.length<=1000)(hok:∀t∈N,GdOk t):NdSl (w.alloc (.cells (encGd N).toArray 57)) (some ⟨w.heap.size,0,none⟩) N.length N.length N:=by
 have hc:=(mha w (.cells (encGd N).toArray 57)).1
 have hcell:∀j u,(encGd N)[j]? =some u->(w.alloc (.cells (encGd N).toArray 57)).cell? ((⟨w.heap.size,0,none⟩:Addr).add j)=some u:=fun j u hj=>by
  rw[qg,Nat.zero_add,qb hc];simpa using hj
 refine⟨rfl,nlr,by unfold maxLen;omega,fun e=>(by cases e),fun x hx k hk=>?_,fun x hx k hk=>?_,fun x hx k hk=>?_,hok⟩
 ·injection hx with hx;subst hx;exact hcell _ _ (q1p N k hk).1
 ·injection hx with hx;subst hx;exact hcell _ _ (q1p N k hk).2.1
 ·injection hx with hx;subst hx;exact hcell _ _ (q1p N k hk).2.2
end Go.Proofs.YtailhklbmenaoaaGreatDoor
