import Derived.Test.YtoioiellaomonaaGreatDoorTie
import Derived.Test.YtoioiellaomonaaGreatDoorCards
import Derived.ProofKit
import Derived.OpenShut
import Derived.LaidMore
import Derived.Lay
import Derived.SevenTiedAt
import Derived.Stop.Joined
import Derived.HandedShaped
import Derived.ShutString
import Derived.ChangeOld
import Derived.Lib.LaidU8
import Derived.Test.YtoioiellaomonaaGreatDoorZ08
import Derived.Test.YtoioiellaomonaaGreatDoorZ09
set_option maxRecDepth 100000
set_option maxHeartbeats 16000000
namespace Go.Proofs.YtoioiellaomonaaGreatDoor
open Go.ChangeShapes Go.WideShapes Go.ChangeAt Go.RowKit Proofs.Tryz
theorem q8A{H:Type}{enc:TypeId×Value->H}{C:Checked}{os:Os}{f:FuncId}{fn:Func}{s:ChangeSpec}{conds:List PathCond}{apart fresh handsOn again:Bool}{X:World->Array Value->Prop}
  (own:ownKnob C.prog.godebug=none) (started:os.Started) (noInit:C.prog.inits.idxOf? f=none) (hfn:C.prog.funcs[f]? =some fn)
  (witness:∃(w:World) (tape:Tape) (i:Input),w.os=os/\(w.forCall tape i).Shaped C.prog/\i.vars=[]/\Input.okWide C.prog (w.forCall tape i) .any w.heap.size f i /\
   ((s.pre enc C.prog fn conds apart (w.forCall tape i).memory i.args/\X (w.forCall tape i).memory i.args)/\sizedMet enc C.prog fn (OpenSpec.ofChange s) apart (w.forCall tape i).memory i.args)/\({}:Assume).holds C.prog (lone (Frame.enter C.prog f i.args .normal) [] (w.forCall tape i)))
  (contract:∀(W:World)(base:Nat)(args:Array Value)(ds gs:List (DataW H))(before:List MemPlace),
   (∀(j:Nat) t v,fn.params[j]? =some t->args[j]? =some v->Value.okWide C.prog W .any base t v) ->
   DataW.Whole enc C.prog fn.params.toList s.vars apart W args.toList ds gs before->(∃W0:World,W0.heap=W.heap/\X W0 args) ->
   Calls C.prog f args W fun e W'=>∃v,e=.returned v/\s.post enc C.prog fn apart fresh handsOn again W args v W'):
  ReturnsInHanded {} C os f .any (fun w args=>(s.pre enc C.prog fn conds apart w args/\X w args)/\sizedMet enc C.prog fn (OpenSpec.ofChange s) apart w args) (s.post enc C.prog fn apart fresh handsOn again):=by
 refine returnsInHanded_of_calls own started noInit witness ?_
 intro w tape i _ _ _ hok hpre _;obtain⟨_,_,_,fn',hfn',_,_,_,_,hval⟩:=hok;obtain rfl:fn'=fn:=Option.some.inj (hfn'.symm.trans hfn)
 obtain⟨⟨⟨ds,gs,before,hw,_⟩,hx⟩,_⟩:=hpre;refine (contract (w.forCall tape i) w.heap.size i.args ds gs before hval (DataW.Whole.of_heap (w':=w.forCall tape i) (by rfl) hw) ⟨(w.forCall tape i).memory,rfl,hx⟩).mono ?_
 rintro e W' ⟨v,rfl,hp⟩
 exact ChangeSpec.post_blind hp
def laidList : List (String × DataW Unit) := [("math/bits.deBruijn64tab",Rows.laid_math_bits_deBruijn64tab)]
theorem qgx:(Rows.laid_math_bits_deBruijn64tab:DataW Unit)=Lib.tabData .u8 (Lib.deBruijn64tab.map fun (x:Nat)=>(x:Int)):=by kernel_rfl
theorem qe6{W0 W:World}(h:laidMetH prog laidList W0)(hh:W0.heap=W.heap):fK W:=by
 rw[MakeChecks.laidMetH_plain _ _ _ (by kernel_rfl)]at h
 obtain ⟨g,t,cs,fuel,p,h1,h2,h3,h4⟩ := Lib.laidMet.reads h (n := "math/bits.deBruijn64tab") (d := Rows.laid_math_bits_deBruijn64tab) (by simp [laidList])
 rw[qgx]at h4;have hg : prog.globalNamed "math/bits.deBruijn64tab" = some 0 := by kernel_rfl
 have ht:(prog.globals[0]?).map (·.type)=some 166:=by kernel_rfl
 rw[hg]at h1;injection h1 with h1;subst h1;rw[ht]at h2;injection h2 with h2;subst h2;have hc:=Lib.cells_of_tab underlying166 underlying5 (by kernel_rfl) (by kernel_rfl) h4
 have e : W.var? prog "math/bits.deBruijn64tab" = some cs := by
  rw[<-h3];simp only[World.var?,hh]
 have e2:∃t o,W.heap[0]? =some (.cells cs t o):=by
  simp only[World.var?,hg,Option.bind_some]at e
  split at e
  ·rename_i c t o hx
   injection e with e;subst e;exact⟨_,_,hx⟩
  ·cases e
 obtain⟨t,o,hx⟩:=e2;intro j hj;have hlen:Lib.deBruijn64tab.length=64:=rfl
 have hcj:cs[j]? =some (.int .u8 (Lib.deBruijn64tab.getD j 0:Nat)):=by
  rw[<-Array.getElem?_toList,hc,List.map_map,List.getElem?_map,List.getD_eq_getElem?_getD,kU (by omega)]
  rfl
 simp[World.cell?,hx,hcj]
end Go.Proofs.YtoioiellaomonaaGreatDoor
