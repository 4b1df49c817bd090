/- Texts of the proof, put together: what it uses. -/
import Derived.Maps.OwnSet
import Derived.StringKeys
import Derived.Test.YtekeaodpdcnfjaaGreatDoorX02
import Derived.Test.YtekeaodpdcnfjaaGreatDoorX03
set_option maxRecDepth 100000
set_option maxHeartbeats 16000000
namespace Go.Proofs.YtekeaodpdcnfjaaGreatDoor
open Go.RowKit Go.Maps
def SOk (x:ByteArray):Prop:=x.size≤100000000
def klS (x:ByteArray):Lit:=.string x.data.toList
theorem q3s:Keyed Tryz.prog 9:=string_keyed Tryz.underlying9
theorem q3V(x:ByteArray)(h:SOk x):keyOf Tryz.prog 9 (.string x)=some (klS x):=WideMaps.keyOf_string_mk Tryz.underlying9 (by unfold SOk at h;unfold maxLen;omega)
theorem qau{x y:ByteArray}(h:klS x=klS y):x=y:=by
 injection h with h
 obtain ⟨⟨x⟩⟩:=x
 obtain ⟨⟨y⟩⟩:=y
 simp at h
 rw[h]
theorem q7m(x:ByteArray):WideAt.IsKeyLit (klS x):=trivial
def NumS (w:World) (b n:Nat) (f:ByteArray→Option Nat):Prop :=
 ∃ D:DataW Unit,w.ownsMap Tryz.prog 9 (plainElem Tryz.prog 3) b n D∧Tidy D∧Maps.size D=n∧∀ x,SOk x→has D (klS x)=(f x).isSome∧∀ j,f x=some j→D.atKey (klS x) (.lit (.int .i64 0))=.lit (.int .i64 (j:Int))
theorem NumS.lt{w:World}{b n:Nat}{f:ByteArray→Option Nat}(h:NumS w b n f):b<w.heap.size:=by
 obtain ⟨D,h,_⟩:=h;exact h.lt
theorem NumS.far{w w':World}{b n:Nat}{f:ByteArray→Option Nat}(h:NumS w b n f)(hb:w'.heap[b]? = w.heap[b]?):NumS w' b n f:=by
 obtain ⟨D,⟨es,clock,h1,h2⟩,r⟩:=h
 exact ⟨D,⟨es,clock,hb.trans h1,h2⟩,r⟩
theorem NumS.isMap{w:World}{b n:Nat}{f:ByteArray→Option Nat}(h:NumS w b n f):∃ es c,w.heap[b]? = some (.map es c):=by
 obtain ⟨D,⟨es,clock,h1,h2⟩,r⟩:=h
 exact ⟨es,clock,h1⟩
theorem NumS.alike{w:World}{b n:Nat}{f g:ByteArray→Option Nat}(h:NumS w b n f)(hg:∀ x,SOk x→f x=g x):NumS w b n g:=by
 obtain ⟨D,h1,h2,h3,h4⟩:=h
 exact ⟨D,h1,h2,h3,fun x hx=>by rw[← hg x hx];exact h4 x hx⟩
theorem qbC(w:World):NumS (w.alloc (.map #[] 0)) w.heap.size 0 (fun _=>none) :=
 ⟨.map [],World.ownsMap_made _ _ _ _,tidy_empty,rfl,fun x _=>⟨rfl,fun j hj=>by cases hj⟩⟩
theorem q8D(w:World):(zeroValue 3).run Tryz.prog w=.ok (.int .i64 0) w:=by kernel_rfl
theorem NumS.look{w:World}{b n:Nat}{f:ByteArray→Option Nat}(h:NumS w b n f){x:ByteArray}(hx:SOk x) :
  (Instr.lookup 107 (.map (some b)) (.string x) true).run Tryz.prog w=.ok (.tuple #[.int .i64 (((f x).getD 0:Nat):Int),.bool (f x).isSome]) w:=by
 obtain ⟨D,h1,h2,h3,h4⟩:=h
 obtain ⟨hh,ha⟩:=h4 x hx
 obtain ⟨v,ps,hrun,hv⟩:=h1.look_ok q3s Tryz.underlying107 (q8D w) (plainElem_int Tryz.underlying3 (by decide)) (q3V x hx)
 obtain ⟨c,rfl,hc,hwc⟩:=plainElem_int_inv Tryz.underlying3 hv
 have hc':D.atKey (klS x) (.lit (.int .i64 0))=.lit (.int .i64 c):=congrArg Prod.fst hc
 rw[hrun,hh]
 cases hf:f x with
 | none =>
  rw[hf]at hh
  rw[atKey_of_not_has hh]at hc'
  injection hc' with hc'
  injection hc' with _ hc'
  subst hc'
  rfl
 | some j =>
  rw[ha j hf]at hc'
  injection hc' with hc'
  injection hc' with _ hc'
  subst hc'
  rfl
theorem NumS.put{w:World}{b n:Nat}{f:ByteArray→Option Nat}(h:NumS w b n f)(hn:n≤4096){x:ByteArray}(hx:SOk x)(hf:f x=none)(j:Nat)(hj:j≤4096) :
  ∃ w',(Instr.mapUpdate 107 (.map (some b)) (.string x) (.int .i64 (j:Int))).run Tryz.prog w=.ok () w'∧NumS w' b (n+1) (fun y=>if y=x then some j else f y)∧w.grownBy w' (some b):=by
 obtain ⟨D,h1,h2,h3,h4⟩:=h
 obtain ⟨hh,_⟩:=h4 x hx
 rw[hf]at hh
 obtain ⟨w',hrun,hown,hg⟩:=h1.update q3s Tryz.underlying107 (by unfold maxLen;omega) (q3V x hx) (plainElem_int (a:=(j:Int)) Tryz.underlying3 (WalkArith.wf_i64 (by omega)))
 refine ⟨w',hrun,⟨_,hown,h2.put (q7m x) _,?_,fun y hy=>?_⟩,hg⟩
 ·rw[size_put h2,hh,h3];rfl
 ·dsimp only
  by_cases e:y=x
  ·subst e
   rw[if_pos rfl]
   refine ⟨has_put_same h2.isMap (q7m y) _,fun i hi=>?_⟩
   injection hi with hi
   subst hi
   exact atKey_put_same h2.isMap (q7m y) _ _
  ·have ne:klS y≠klS x:=fun he=>e (qau he)
   rw[if_neg e,has_put_other ne]
   refine ⟨(h4 y hy).1,fun i hi=>?_⟩
   rw[atKey_put_other ne]
   exact (h4 y hy).2 i hi
theorem NumS.drop{w:World}{b n:Nat}{f:ByteArray→Option Nat}(h:NumS w b n f){x:ByteArray}(hx:SOk x)(hf:(f x).isSome=true)(ty:TypeId) :
  ∃ w',(Builtin.delete_ #[107,9] ty #[.map (some b),.string x]).run Tryz.prog w=.ok (.tuple #[]) w'∧NumS w' b (n - 1) (fun y=>if y=x then none else f y)∧w.grownBy w' (some b):=by
 obtain ⟨D,h1,h2,h3,h4⟩:=h
 obtain ⟨hh,_⟩:=h4 x hx
 rw[hf]at hh
 obtain ⟨w',hrun,hown,ht⟩:=h1.drop q3s Tryz.underlying107 (q3V x hx) ty
 have hsz:Maps.size (D.del (klS x))=n - 1:=by
  have:=size_del (k:=klS x) h2
  rw[hh]at this
  simp at this
  omega
 have hown':w'.ownsMap Tryz.prog 9 (plainElem Tryz.prog 3) b (n - 1) (D.del (klS x)):=by
  obtain ⟨es,clock,g1,g2,g3,g4⟩:=hown
  refine ⟨es,clock,g1,g2,?_,g4⟩
  rw[← hsz,g4]
  simp[Maps.size,length_sorted]
 refine ⟨w',hrun,⟨_,hown',h2.del _,hsz,fun y hy=>?_⟩,ht.grown⟩
 dsimp only
 by_cases e:y=x
 ·subst e
  rw[if_pos rfl]
  exact ⟨has_del_same,fun i hi=>by cases hi⟩
 ·have ne:klS y≠klS x:=fun he=>e (qau he)
  rw[if_neg e,has_del_other ne]
  refine ⟨(h4 y hy).1,fun i hi=>?_⟩
  rw[atKey_del_other ne]
  exact (h4 y hy).2 i hi
theorem q5Z(op:Nat)(w:World)(hop:op≤23):Calls Tryz.prog 141 #[.int .u8 (op:Int)] w fun e w'=>e=.returned (.int .i64 (takO op:Int))∧w'=w:=by
 rcases q5L hop with rfl | rfl | rfl | rfl | rfl | rfl | rfl | rfl | rfl | rfl | rfl | rfl | rfl | rfl | rfl | rfl | rfl | rfl | rfl | rfl | rfl | rfl | rfl | rfl <;>
 ·go_enter Tryz.func141,Tryz.ntmps141
  go_wp2
  go_ret
  exact ⟨rfl,rfl⟩
theorem qQ(k:Nat)(w:World)(hk:k≤2):Calls Tryz.prog 143 #[.int .u8 (k:Int),.int .u8 0] w fun e w'=>e=.returned (.bool (isN k 0))∧w'=w:=by
 have:k=0∨k=1∨k=2:=by omega
 rcases this with rfl | rfl | rfl <;>
 ·go_enter Tryz.func143,Tryz.ntmps143
  go_wp2
  go_ret
  exact ⟨rfl,rfl⟩
def KdSl (w:World) (a:Option Addr) (len cap:Nat) (ks:List Nat):Prop:=IntSl Tryz.prog 206 .u8 w a len cap (ks.map fun o:Nat=>(o:Int))
theorem q1m{w:World}{a:Option Addr}{cap x:Nat}{r:List Nat}{n:Nat}(h:KdSl w a (n+1) cap (x::r)):∃ A,(∀ w',(Instr.indexAt 206 (.slice a (n+1) cap) (.int .i64 0)).run Tryz.prog w'=.ok (.pointer (some A)) w')∧w.cell? A=some (.int .u8 (x:Int)):=⟨adOf a 0,fun w'=>IntSl.idx h (n+1) 0 w' (by omega) (Nat.le_refl _),IntSl.cell h 0 (by omega)⟩
theorem q2H{w:World}{a:Option Addr}{cap x y:Nat}{r:List Nat}{n:Nat}(h:KdSl w a (n+2) cap (x::y::r)):∃ A,(∀ w',(Instr.indexAt 206 (.slice a (n+2) cap) (.int .i64 1)).run Tryz.prog w'=.ok (.pointer (some A)) w')∧w.cell? A=some (.int .u8 (y:Int)):=⟨adOf a 1,fun w'=>IntSl.idx h (n+2) 1 w' (by omega) (Nat.le_refl _),IntSl.cell h 1 (by omega)⟩
theorem q1q(w:World):Calls Tryz.prog 143 #[.int .u8 0,.int .u8 0] w fun e w'=>e=.returned (.bool true)∧w'=w:=qQ 0 w (by decide)
theorem q1r(w:World):Calls Tryz.prog 143 #[.int .u8 1,.int .u8 0] w fun e w'=>e=.returned (.bool true)∧w'=w:=qQ 1 w (by decide)
theorem q1s(w:World):Calls Tryz.prog 143 #[.int .u8 2,.int .u8 0] w fun e w'=>e=.returned (.bool false)∧w'=w:=qQ 2 w (by decide)
def PutR (op:Nat) (ks:List Nat) (w:World) (e:Ending) (w':World):Prop:=e=.returned (.tuple #[.int .u8 (kiMade op ks:Int),.bool (kiFit op ks)])∧∃ m,w'=w.drewN m
theorem qa2(a:Option Addr)(n c:Nat)(w:World):Calls Tryz.prog 142 #[.int .u8 0,.slice a n c] w (PutR 0 [] w):=by
 go_enter Tryz.func142,Tryz.ntmps142
 go_wp2
 go_ret2
 exact ⟨rfl,0,rfl⟩
theorem qa3(a:Option Addr)(n c:Nat)(w:World):Calls Tryz.prog 142 #[.int .u8 1,.slice a n c] w (PutR 1 [] w):=by
 go_enter Tryz.func142,Tryz.ntmps142
 go_wp2
 go_ret2
 exact ⟨rfl,0,rfl⟩
theorem qa4(a:Option Addr)(n c:Nat)(w:World):Calls Tryz.prog 142 #[.int .u8 2,.slice a n c] w (PutR 2 [] w):=by
 go_enter Tryz.func142,Tryz.ntmps142
 go_wp2
 go_ret2
 exact ⟨rfl,0,rfl⟩
theorem qa5(a:Option Addr)(n c:Nat)(w:World):Calls Tryz.prog 142 #[.int .u8 4,.slice a n c] w (PutR 4 [] w):=by
 go_enter Tryz.func142,Tryz.ntmps142
 go_wp2
 go_ret2
 exact ⟨rfl,0,rfl⟩
theorem qa6(a:Option Addr)(n c:Nat)(w:World):Calls Tryz.prog 142 #[.int .u8 5,.slice a n c] w (PutR 5 [] w):=by
 go_enter Tryz.func142,Tryz.ntmps142
 go_wp2
 go_ret2
 exact ⟨rfl,0,rfl⟩
theorem qa7(a:Option Addr)(c x:Nat)(w:World)(hx:x≤2)(h:KdSl w a 1 c [x]):Calls Tryz.prog 142 #[.int .u8 6,.slice a 1 c] w (PutR 6 [x] w):=by
 obtain ⟨⟨g0,o0,s0⟩,i0,c0⟩:=q1m h
 have hi:=fun w'=>qQ x w' hx
 clear h
 have:x=0∨x=1∨x=2:=by omega
 rcases this with rfl | rfl | rfl <;>
 ·clear hx
  go_enter Tryz.func142,Tryz.ntmps142
  go_wp2
  go_quiet (fail)
  go_wp2
  go_ret2
  exact ⟨rfl,by first | exact ⟨0,rfl⟩ | exact ⟨_,rfl⟩⟩
theorem qa8(a:Option Addr)(c x:Nat)(w:World)(hx:x≤2)(h:KdSl w a 1 c [x]):Calls Tryz.prog 142 #[.int .u8 7,.slice a 1 c] w (PutR 7 [x] w):=by
 obtain ⟨⟨g0,o0,s0⟩,i0,c0⟩:=q1m h
 have hi:=fun w'=>qQ x w' hx
 clear h
 have:x=0∨x=1∨x=2:=by omega
 rcases this with rfl | rfl | rfl <;>
 ·clear hx
  go_enter Tryz.func142,Tryz.ntmps142
  go_wp2_with (go_at_call 143;refine (hi _).mono ?_;rintro e w' ⟨rfl,rfl⟩)
  go_ret2
  exact ⟨rfl,by first | exact ⟨0,rfl⟩ | exact ⟨_,rfl⟩⟩
theorem qa9(a:Option Addr)(c x:Nat)(w:World)(hx:x≤2)(h:KdSl w a 1 c [x]):Calls Tryz.prog 142 #[.int .u8 8,.slice a 1 c] w (PutR 8 [x] w):=by
 obtain ⟨⟨g0,o0,s0⟩,i0,c0⟩:=q1m h
 have hi:=fun w'=>qQ x w' hx
 clear h
 have:x=0∨x=1∨x=2:=by omega
 rcases this with rfl | rfl | rfl <;>
 ·clear hx
  go_enter Tryz.func142,Tryz.ntmps142
  go_wp2_with (go_at_call 143;refine (hi _).mono ?_;rintro e w' ⟨rfl,rfl⟩)
  go_ret2
  exact ⟨rfl,by first | exact ⟨0,rfl⟩ | exact ⟨_,rfl⟩⟩
theorem q8S(a:Option Addr)(c x:Nat)(w:World)(hx:x≤2)(h:KdSl w a 1 c [x]):Calls Tryz.prog 142 #[.int .u8 19,.slice a 1 c] w (PutR 19 [x] w):=by
 obtain ⟨⟨g0,o0,s0⟩,i0,c0⟩:=q1m h
 have hi:=fun w'=>qQ x w' hx
 clear h
 have:x=0∨x=1∨x=2:=by omega
 rcases this with rfl | rfl | rfl <;>
 ·clear hx
  go_enter Tryz.func142,Tryz.ntmps142
  go_wp2
  go_quiet (fail)
  go_wp2
  go_ret2
  exact ⟨rfl,by first | exact ⟨0,rfl⟩ | exact ⟨_,rfl⟩⟩
theorem q8T(a:Option Addr)(c x:Nat)(w:World)(hx:x≤2)(h:KdSl w a 1 c [x]):Calls Tryz.prog 142 #[.int .u8 20,.slice a 1 c] w (PutR 20 [x] w):=by
 obtain ⟨⟨g0,o0,s0⟩,i0,c0⟩:=q1m h
 have hi:=fun w'=>qQ x w' hx
 clear h
 have:x=0∨x=1∨x=2:=by omega
 rcases this with rfl | rfl | rfl <;>
 ·clear hx
  go_enter Tryz.func142,Tryz.ntmps142
  go_wp2_with (go_at_call 143;refine (hi _).mono ?_;rintro e w' ⟨rfl,rfl⟩)
  go_ret2
  exact ⟨rfl,by first | exact ⟨0,rfl⟩ | exact ⟨_,rfl⟩⟩
theorem q8W(a:Option Addr)(c x:Nat)(w:World)(hx:x≤2)(h:KdSl w a 1 c [x]):Calls Tryz.prog 142 #[.int .u8 23,.slice a 1 c] w (PutR 23 [x] w):=by
 obtain ⟨⟨g0,o0,s0⟩,i0,c0⟩:=q1m h
 have hi:=fun w'=>qQ x w' hx
 clear h
 have:x=0∨x=1∨x=2:=by omega
 rcases this with rfl | rfl | rfl <;>
 ·clear hx
  go_enter Tryz.func142,Tryz.ntmps142
  go_wp2
  go_quiet (fail)
  go_wp2
  go_ret2
  exact ⟨rfl,by first | exact ⟨0,rfl⟩ | exact ⟨_,rfl⟩⟩
theorem q8M(a:Option Addr)(c x y:Nat)(w:World)(hx:x≤2)(hy:y≤2)(h:KdSl w a 2 c [x,y]):Calls Tryz.prog 142 #[.int .u8 11,.slice a 2 c] w (PutR 11 [x,y] w):=by
 obtain ⟨⟨g0,o0,s0⟩,i0,c0⟩:=q1m h
 obtain ⟨⟨g1,o1,s1⟩,i1,c1⟩:=q2H h
 have h0:=q1q
 have h1:=q1r
 have h2:=q1s
 clear h
 have hxx:x=0∨x=1∨x=2:=by omega
 have hyy:y=0∨y=1∨y=2:=by omega
 rcases hxx with rfl | rfl | rfl <;> rcases hyy with rfl | rfl | rfl <;>
 ·clear hx hy
  go_enter Tryz.func142,Tryz.ntmps142
  go_wp2_with (go_at_call 143;(with_reducible first | refine (h0 _).mono ?_ | refine (h1 _).mono ?_ | refine (h2 _).mono ?_);rintro e w' ⟨rfl,rfl⟩)
  go_ret2
  exact ⟨rfl,by first | exact ⟨0,rfl⟩ | exact ⟨_,rfl⟩⟩
theorem q8N(a:Option Addr)(c x y:Nat)(w:World)(hx:x≤2)(hy:y≤2)(h:KdSl w a 2 c [x,y]):Calls Tryz.prog 142 #[.int .u8 12,.slice a 2 c] w (PutR 12 [x,y] w):=by
 obtain ⟨⟨g0,o0,s0⟩,i0,c0⟩:=q1m h
 obtain ⟨⟨g1,o1,s1⟩,i1,c1⟩:=q2H h
 have h0:=q1q
 have h1:=q1r
 have h2:=q1s
 clear h
 have hxx:x=0∨x=1∨x=2:=by omega
 have hyy:y=0∨y=1∨y=2:=by omega
 rcases hxx with rfl | rfl | rfl <;> rcases hyy with rfl | rfl | rfl <;>
 ·clear hx hy
  go_enter Tryz.func142,Tryz.ntmps142
  go_wp2_with (go_at_call 143;(with_reducible first | refine (h0 _).mono ?_ | refine (h1 _).mono ?_ | refine (h2 _).mono ?_);rintro e w' ⟨rfl,rfl⟩)
  go_ret2
  exact ⟨rfl,by first | exact ⟨0,rfl⟩ | exact ⟨_,rfl⟩⟩
theorem q8O(a:Option Addr)(c x y:Nat)(w:World)(hx:x≤2)(hy:y≤2)(h:KdSl w a 2 c [x,y]):Calls Tryz.prog 142 #[.int .u8 15,.slice a 2 c] w (PutR 15 [x,y] w):=by
 obtain ⟨⟨g0,o0,s0⟩,i0,c0⟩:=q1m h
 obtain ⟨⟨g1,o1,s1⟩,i1,c1⟩:=q2H h
 have h0:=q1q
 have h1:=q1r
 have h2:=q1s
 clear h
 have hxx:x=0∨x=1∨x=2:=by omega
 have hyy:y=0∨y=1∨y=2:=by omega
 rcases hxx with rfl | rfl | rfl <;> rcases hyy with rfl | rfl | rfl <;>
 ·clear hx hy
  go_enter Tryz.func142,Tryz.ntmps142
  go_wp2_with (go_at_call 143;(with_reducible first | refine (h0 _).mono ?_ | refine (h1 _).mono ?_ | refine (h2 _).mono ?_);rintro e w' ⟨rfl,rfl⟩)
  go_ret2
  exact ⟨rfl,by first | exact ⟨0,rfl⟩ | exact ⟨_,rfl⟩⟩
theorem q8P(a:Option Addr)(c x y:Nat)(w:World)(hx:x≤2)(hy:y≤2)(h:KdSl w a 2 c [x,y]):Calls Tryz.prog 142 #[.int .u8 16,.slice a 2 c] w (PutR 16 [x,y] w):=by
 obtain ⟨⟨g0,o0,s0⟩,i0,c0⟩:=q1m h
 obtain ⟨⟨g1,o1,s1⟩,i1,c1⟩:=q2H h
 have h0:=q1q
 have h1:=q1r
 have h2:=q1s
 clear h
 have hxx:x=0∨x=1∨x=2:=by omega
 have hyy:y=0∨y=1∨y=2:=by omega
 rcases hxx with rfl | rfl | rfl <;> rcases hyy with rfl | rfl | rfl <;>
 ·clear hx hy
  go_enter Tryz.func142,Tryz.ntmps142
  go_wp2_with (go_at_call 143;(with_reducible first | refine (h0 _).mono ?_ | refine (h1 _).mono ?_ | refine (h2 _).mono ?_);rintro e w' ⟨rfl,rfl⟩)
  go_ret2
  exact ⟨rfl,by first | exact ⟨0,rfl⟩ | exact ⟨_,rfl⟩⟩
theorem q8Q(a:Option Addr)(c x y:Nat)(w:World)(hx:x≤2)(hy:y≤2)(h:KdSl w a 2 c [x,y]):Calls Tryz.prog 142 #[.int .u8 17,.slice a 2 c] w (PutR 17 [x,y] w):=by
 obtain ⟨⟨g0,o0,s0⟩,i0,c0⟩:=q1m h
 obtain ⟨⟨g1,o1,s1⟩,i1,c1⟩:=q2H h
 have h0:=q1q
 have h1:=q1r
 have h2:=q1s
 clear h
 have hxx:x=0∨x=1∨x=2:=by omega
 have hyy:y=0∨y=1∨y=2:=by omega
 rcases hxx with rfl | rfl | rfl <;> rcases hyy with rfl | rfl | rfl <;>
 ·clear hx hy
  go_enter Tryz.func142,Tryz.ntmps142
  go_wp2_with (go_at_call 143;(with_reducible first | refine (h0 _).mono ?_ | refine (h1 _).mono ?_ | refine (h2 _).mono ?_);rintro e w' ⟨rfl,rfl⟩)
  go_ret2
  exact ⟨rfl,by first | exact ⟨0,rfl⟩ | exact ⟨_,rfl⟩⟩
theorem q8R(a:Option Addr)(c x y:Nat)(w:World)(hx:x≤2)(hy:y≤2)(h:KdSl w a 2 c [x,y]):Calls Tryz.prog 142 #[.int .u8 18,.slice a 2 c] w (PutR 18 [x,y] w):=by
 obtain ⟨⟨g0,o0,s0⟩,i0,c0⟩:=q1m h
 obtain ⟨⟨g1,o1,s1⟩,i1,c1⟩:=q2H h
 have h0:=q1q
 have h1:=q1r
 have h2:=q1s
 clear h
 have hxx:x=0∨x=1∨x=2:=by omega
 have hyy:y=0∨y=1∨y=2:=by omega
 rcases hxx with rfl | rfl | rfl <;> rcases hyy with rfl | rfl | rfl <;>
 ·clear hx hy
  go_enter Tryz.func142,Tryz.ntmps142
  go_wp2_with (go_at_call 143;(with_reducible first | refine (h0 _).mono ?_ | refine (h1 _).mono ?_ | refine (h2 _).mono ?_);rintro e w' ⟨rfl,rfl⟩)
  go_ret2
  exact ⟨rfl,by first | exact ⟨0,rfl⟩ | exact ⟨_,rfl⟩⟩
theorem q8U(a:Option Addr)(c x y:Nat)(w:World)(hx:x≤2)(hy:y≤2)(h:KdSl w a 2 c [x,y]):Calls Tryz.prog 142 #[.int .u8 21,.slice a 2 c] w (PutR 21 [x,y] w):=by
 obtain ⟨⟨g0,o0,s0⟩,i0,c0⟩:=q1m h
 obtain ⟨⟨g1,o1,s1⟩,i1,c1⟩:=q2H h
 have h0:=q1q
 have h1:=q1r
 have h2:=q1s
 clear h
 have hxx:x=0∨x=1∨x=2:=by omega
 have hyy:y=0∨y=1∨y=2:=by omega
 rcases hxx with rfl | rfl | rfl <;> rcases hyy with rfl | rfl | rfl <;>
 ·clear hx hy
  go_enter Tryz.func142,Tryz.ntmps142
  go_wp2
  go_quiet (fail)
  go_wp2
  go_ret2
  exact ⟨rfl,by first | exact ⟨0,rfl⟩ | exact ⟨_,rfl⟩⟩
theorem q8V(a:Option Addr)(c x y:Nat)(w:World)(hx:x≤2)(hy:y≤2)(h:KdSl w a 2 c [x,y]):Calls Tryz.prog 142 #[.int .u8 22,.slice a 2 c] w (PutR 22 [x,y] w):=by
 obtain ⟨⟨g0,o0,s0⟩,i0,c0⟩:=q1m h
 obtain ⟨⟨g1,o1,s1⟩,i1,c1⟩:=q2H h
 have h0:=q1q
 have h1:=q1r
 have h2:=q1s
 clear h
 have hxx:x=0∨x=1∨x=2:=by omega
 have hyy:y=0∨y=1∨y=2:=by omega
 rcases hxx with rfl | rfl | rfl <;> rcases hyy with rfl | rfl | rfl <;>
 ·clear hx hy
  go_enter Tryz.func142,Tryz.ntmps142
  go_wp2
  go_quiet (fail)
  go_wp2
  go_ret2
  exact ⟨rfl,by first | exact ⟨0,rfl⟩ | exact ⟨_,rfl⟩⟩
theorem q9k{ts:List Tk}{k:Nat}(h:k<ts.length)(hp:fewL false (ts.take k)=true):fewL false (ts.take (k+1))=fewAt (lastP false (ts.take k)) ts[k].1 ts[k].2:=by
 rw[List.take_add_one,List.getElem?_eq_getElem h]
 show fewL false (ts.take k++[ts[k]])=_
 rw[q2u,hp,q3a,Bool.true_and]
theorem q7f{ts:List Tk}{k:Nat}(h:fewL false (ts.take k)=false):fewL false ts=false:=by
 have:fewL false (ts.take k++ts.drop k)=false:=by rw[q2u,h,Bool.false_and]
 rwa [List.take_append_drop]at this
theorem qdb{ts:List Tk}{k:Nat}(h:k+1≤ts.length):lastP false (ts.take (k+1))=decide ((ts[k]'(by omega)).1=2):=by
 rw[List.take_add_one,List.getElem?_eq_getElem (by omega)]
 show lastP false (ts.take k++[ts[k]])=_
 rw[q47]
theorem few_a{b:Bool}{op p:Nat}(h:op≠2)(h3:op≠3)(h9:op≠9)(h10:op≠10)(h13:op≠13)(h14:op≠14)(h6:op=6→b=true):fewAt b op p=(decide (op≤23)&&decide (p=0)):=by
 unfold fewAt
 rw[if_neg h,if_neg (by omega),if_neg]
 rintro ⟨e,e'⟩
 rw[h6 e]at e'
 cases e'
theorem q8i(a:Option Addr)(len cap:Nat)(ts:List Tk)(w:World)(hT:TkSl w a len cap ts)(hln:len≤1000000) :
  Calls Tryz.prog 128 #[.slice a len cap] w fun e w'=>e=.returned (.bool (fewL false ts))∧Below w.heap.size w w':=by
 have hlen:=hT.hlen
 have HT:Hid (TkSl w a len cap ts):=hT
 have HLEN:Hid (ts.length=len):=hlen
 clear hT hlen
 go_enter Tryz.func128,Tryz.ntmps128
 go_wp2
 go_loopw [7] (fun i wr=>∃ k:Nat,k≤len∧i=.int .i64 k∧Hid (fewL false (ts.take k)=true)∧Hid (Below w.heap.size w wr)) (fun i _=>len - (intOf i).toNat)
 case atStart=>exact ⟨0,Nat.zero_le _,rfl,rfl,Below.refl _ _⟩
 case round =>
  obtain ⟨k,hk,rfl,HF,HW⟩:=hrel
  by_cases hlt:k<len
  ·have hxl:k<ts.length:=by have:=HLEN.out;omega
   obtain ⟨g1,o1,s1,hi1,hx0,hx1,hg1,_⟩:=(HT.out.up HW.out).at Tryz.underlying22 q1M k hlt
   have hidx:=fun w'=>hi1 len w' hlt
   clear hi1
   have HNX:Hid (fewL false (ts.take (k+1))=fewAt (lastP false (ts.take k)) ts[k].1 ts[k].2):=q9k hxl HF.out
   have HOFF:Hid (fewL false (ts.take (k+1))=false→fewL false ts=false):=fun h=>q7f h
   have hpv:k=0∨∃ j,j+1=k∧∃ (g2 o2:Nat) (s2:_) (q:Nat),(∀ w',(Instr.indexAt 22 (.slice a len cap) (.int .i64 (j:Int))).run Tryz.prog w'=.ok (.pointer (some ⟨g2,o2,s2⟩)) w')∧wr.cell? ⟨g2,o2,s2⟩=some (.int .u8 (q:Int))∧lastP false (ts.take k)=decide (q=2):=by
    cases k with
    | zero=>exact Or.inl rfl
    | succ j =>
     obtain ⟨g2,o2,s2,hi2,hy0,_,_⟩:=(HT.out.up HW.out).at Tryz.underlying22 q1M j (by omega)
     exact Or.inr ⟨j,rfl,g2,o2,s2,_,fun w'=>hi2 len w' (by omega),hy0,qdb (by omega)⟩
   have HPV:Hid _:=hpv
   clear hpv
   have HB1:Hid (Below w.heap.size w (wr.alloc (.cells #[.int .u8 (ts[k].1:Int),.int .u8 (ts[k].2:Int)] 43))):=qd HW.out (qc _ _)
   generalize ts[k]=q at *
   obtain ⟨op,p⟩:=q
   dsimp only at hx0 hx1 HNX HB1
   by_cases e2:op=2
   ·subst e2
    clear HPV
    have HNX2:Hid (fewL false (ts.take (k+1))=decide (p<8)):=HNX.out
    clear HNX
    by_cases hp:p<8
    ·have HZ:Hid (fewL false (ts.take (k+1))=true):=HNX2.out.trans (decide_eq_true hp)
     have q8:¬ (8:Int)≤(p:Int):=by omega
     go_wp2
     go_roundw
     case rel=>exact ⟨k+1,by omega,by go_num,HZ,HB1⟩
     case measure=>simp[intOf] <;> omega
    ·have HZ:Hid (fewL false (ts.take (k+1))=false):=HNX2.out.trans (decide_eq_false hp)
     have q8:(8:Int)≤(p:Int):=by omega
     go_wp2
     go_ret
     exact ⟨by rw[HOFF.out HZ.out];rfl,HB1.out⟩
   have q2:((op:Int) == 2)=false:=by rw[beq_eq_false_iff_ne];omega
   by_cases e3:op=3
   ·subst e3
    have HZ:Hid (fewL false (ts.take (k+1))=false):=HNX.out
    clear HPV HNX q2
    go_wp2
    go_ret
    exact ⟨by rw[HOFF.out HZ.out];rfl,HB1.out⟩
   by_cases e9:op=9
   ·subst e9
    have HZ:Hid (fewL false (ts.take (k+1))=false):=HNX.out
    clear HPV HNX q2
    go_wp2
    go_ret
    exact ⟨by rw[HOFF.out HZ.out];rfl,HB1.out⟩
   by_cases e10:op=10
   ·subst e10
    have HZ:Hid (fewL false (ts.take (k+1))=false):=HNX.out
    clear HPV HNX q2
    go_wp2
    go_ret
    exact ⟨by rw[HOFF.out HZ.out];rfl,HB1.out⟩
   by_cases e13:op=13
   ·subst e13
    have HZ:Hid (fewL false (ts.take (k+1))=false):=HNX.out
    clear HPV HNX q2
    go_wp2
    go_ret
    exact ⟨by rw[HOFF.out HZ.out];rfl,HB1.out⟩
   by_cases e14:op=14
   ·subst e14
    have HZ:Hid (fewL false (ts.take (k+1))=false):=HNX.out
    clear HPV HNX q2
    go_wp2
    go_ret
    exact ⟨by rw[HOFF.out HZ.out];rfl,HB1.out⟩
   have q3:((op:Int) == 3)=false:=by rw[beq_eq_false_iff_ne];omega
   have q9:((op:Int) == 9)=false:=by rw[beq_eq_false_iff_ne];omega
   have q10:((op:Int) == 10)=false:=by rw[beq_eq_false_iff_ne];omega
   have q13:((op:Int) == 13)=false:=by rw[beq_eq_false_iff_ne];omega
   have q14:((op:Int) == 14)=false:=by rw[beq_eq_false_iff_ne];omega
   by_cases e6:op=6
   ·subst e6
    clear q2 q3 q9 q10 q13 q14
    rcases HPV.out with hk0 | ⟨j,hjk,g2,o2,s2,q,hj,hc,hl⟩
    ·have HZ:Hid (fewL false (ts.take (k+1))=false):=by show _=_;rw[HNX.out,hk0];rfl
     have hn0:((k:Int) == 0)=true:=by rw[beq_iff_eq];omega
     clear hk0
     clear HPV HNX
     go_wp2
     go_ret
     exact ⟨by rw[HOFF.out HZ.out];rfl,HB1.out⟩
    ·have hsub:IntKind.i64.wrap ((k:Int) - 1)=(j:Int):=by rw[IntKind.wrap_i64];omega
     have hn0:((k:Int) == 0)=false:=by rw[beq_eq_false_iff_ne];omega
     have HL:Hid _:=hl
     clear hl HPV
     have hcA:∀ o,(wr.alloc o).cell? ⟨g2,o2,s2⟩=some (.int .u8 (q:Int)):=fun o=>qm hc (qc _ _)
     by_cases hq:q=2
     ·subst hq
      have hfa:=few_a (b:=true) (op:=6) (p:=p) (by decide) (by decide) (by decide) (by decide) (by decide) (by decide) (fun _=>rfl)
      have HNX2:Hid (fewL false (ts.take (k+1))=decide (p=0)):=by show _=_;rw[HNX.out,HL.out];exact hfa
      clear HNX hfa HL
      by_cases hp:p=0
      ·subst hp
       have HZ:Hid (fewL false (ts.take (k+1))=true):=HNX2.out
       go_wp2
       go_roundw
       case rel=>exact ⟨k+1,by omega,by go_num,HZ,HB1⟩
       case measure=>simp[intOf] <;> omega
      ·have HZ:Hid (fewL false (ts.take (k+1))=false):=HNX2.out.trans (decide_eq_false hp)
       have q0:((p:Int) == 0)=false:=by rw[beq_eq_false_iff_ne];omega
       have q0n:((p:Int) != 0)=true:=by rw[bne_iff_ne];omega
       go_wp2
       go_ret
       exact ⟨by rw[HOFF.out HZ.out];rfl,HB1.out⟩
     ·have HZ:Hid (fewL false (ts.take (k+1))=false):=by show _=_;rw[HNX.out,HL.out,decide_eq_false hq];rfl
      have qq:((q:Int) == 2)=false:=by rw[beq_eq_false_iff_ne];omega
      have qqn:((q:Int) != 2)=true:=by rw[bne_iff_ne];omega
      clear HNX HL
      go_wp2
      go_ret
      exact ⟨by rw[HOFF.out HZ.out];rfl,HB1.out⟩
   have q6:((op:Int) == 6)=false:=by rw[beq_eq_false_iff_ne];omega
   have HNX2:Hid (fewL false (ts.take (k+1))=(decide (op≤23)&&decide (p=0))):=HNX.out.trans (few_a e2 e3 e9 e10 e13 e14 (fun h=>absurd h e6))
   clear HNX HPV
   by_cases h23:op≤23
   ·have q23:¬ (23:Int)<(op:Int):=by omega
    by_cases hp:p=0
    ·subst hp
     have HZ:Hid (fewL false (ts.take (k+1))=true):=by show _=_;rw[HNX2.out,decide_eq_true h23];rfl
     go_wp2
     go_roundw
     case rel=>exact ⟨k+1,by omega,by go_num,HZ,HB1⟩
     case measure=>simp[intOf] <;> omega
    ·have HZ:Hid (fewL false (ts.take (k+1))=false):=by show _=_;rw[HNX2.out,decide_eq_false hp,Bool.and_false]
     have q0:((p:Int) == 0)=false:=by rw[beq_eq_false_iff_ne];omega
     have q0n:((p:Int) != 0)=true:=by rw[bne_iff_ne];omega
     go_wp2
     go_ret
     exact ⟨by rw[HOFF.out HZ.out];rfl,HB1.out⟩
   ·have q23:(23:Int)<(op:Int):=by omega
    have HZ:Hid (fewL false (ts.take (k+1))=false):=by show _=_;rw[HNX2.out,decide_eq_false h23];rfl
    go_wp2
    go_ret
    exact ⟨by rw[HOFF.out HZ.out];rfl,HB1.out⟩
  ·obtain rfl:k=len:=by omega
   have HZ:Hid (fewL false ts=true):=by
    show _=_
    have:=HF.out
    rwa [List.take_of_length_le (by have:=HLEN.out;omega)]at this
   go_wp2
   go_ret
   exact ⟨by rw[HZ.out];rfl,HW.out⟩
def klU (x:Nat):Lit:=.int .u64 (x:Int)
theorem q5h:Keyed Tryz.prog 46:=int_keyed Tryz.underlying46
theorem q5i(x:Nat)(h:x<2 ^ 64):keyOf Tryz.prog 46 (.int .u64 (x:Int))=some (klU x):=keyOf_int_mk Tryz.underlying46 (WalkArith.wf_u64 (by omega))
theorem qd9{x y:Nat}(h:klU x=klU y):x=y:=by
 injection h with _ h
 omega
theorem q7n(x:Nat):WideAt.IsKeyLit (klU x):=trivial
def NumU (w:World) (b n:Nat) (f:Nat→Option Nat):Prop :=
 ∃ D:DataW Unit,w.ownsMap Tryz.prog 46 (plainElem Tryz.prog 3) b n D∧Tidy D∧Maps.size D=n∧∀ x,x<2 ^ 64→has D (klU x)=(f x).isSome∧∀ j,f x=some j→D.atKey (klU x) (.lit (.int .i64 0))=.lit (.int .i64 (j:Int))
theorem NumU.lt{w:World}{b n:Nat}{f:Nat→Option Nat}(h:NumU w b n f):b<w.heap.size:=by
 obtain ⟨D,h,_⟩:=h;exact h.lt
theorem NumU.far{w w':World}{b n:Nat}{f:Nat→Option Nat}(h:NumU w b n f)(hb:w'.heap[b]? = w.heap[b]?):NumU w' b n f:=by
 obtain ⟨D,⟨es,clock,h1,h2⟩,r⟩:=h
 exact ⟨D,⟨es,clock,hb.trans h1,h2⟩,r⟩
theorem NumU.isMap{w:World}{b n:Nat}{f:Nat→Option Nat}(h:NumU w b n f):∃ es c,w.heap[b]? = some (.map es c):=by
 obtain ⟨D,⟨es,clock,h1,h2⟩,r⟩:=h
 exact ⟨es,clock,h1⟩
theorem NumU.alike{w:World}{b n:Nat}{f g:Nat→Option Nat}(h:NumU w b n f)(hg:∀ x,x<2 ^ 64→f x=g x):NumU w b n g:=by
 obtain ⟨D,h1,h2,h3,h4⟩:=h
 exact ⟨D,h1,h2,h3,fun x hx=>by rw[← hg x hx];exact h4 x hx⟩
theorem qbB(w:World):NumU (w.alloc (.map #[] 0)) w.heap.size 0 (fun _=>none) :=
 ⟨.map [],World.ownsMap_made _ _ _ _,tidy_empty,rfl,fun x _=>⟨rfl,fun j hj=>by cases hj⟩⟩
theorem q8E(w:World):(zeroValue 3).run Tryz.prog w=.ok (.int .i64 0) w:=by kernel_rfl
theorem NumU.look{w:World}{b n:Nat}{f:Nat→Option Nat}(h:NumU w b n f){x:Nat}(hx:x<2 ^ 64) :
  (Instr.lookup 56 (.map (some b)) (.int .u64 (x:Int)) true).run Tryz.prog w=.ok (.tuple #[.int .i64 (((f x).getD 0:Nat):Int),.bool (f x).isSome]) w:=by
 obtain ⟨D,h1,h2,h3,h4⟩:=h
 obtain ⟨hh,ha⟩:=h4 x hx
 obtain ⟨v,ps,hrun,hv⟩:=h1.look_ok q5h Tryz.underlying56 (q8E w) (plainElem_int Tryz.underlying3 (by decide)) (q5i x hx)
 obtain ⟨c,rfl,hc,hwc⟩:=plainElem_int_inv Tryz.underlying3 hv
 have hc':D.atKey (klU x) (.lit (.int .i64 0))=.lit (.int .i64 c):=congrArg Prod.fst hc
 rw[hrun,hh]
 cases hf:f x with
 | none =>
  rw[hf]at hh
  rw[atKey_of_not_has hh]at hc'
  injection hc' with hc'
  injection hc' with _ hc'
  subst hc'
  rfl
 | some j =>
  rw[ha j hf]at hc'
  injection hc' with hc'
  injection hc' with _ hc'
  subst hc'
  rfl
theorem NumU.put{w:World}{b n:Nat}{f:Nat→Option Nat}(h:NumU w b n f)(hn:n≤4096){x:Nat}(hx:x<2 ^ 64)(hf:f x=none)(j:Nat)(hj:j≤4096) :
  ∃ w',(Instr.mapUpdate 56 (.map (some b)) (.int .u64 (x:Int)) (.int .i64 (j:Int))).run Tryz.prog w=.ok () w'∧NumU w' b (n+1) (fun y=>if y=x then some j else f y)∧w.grownBy w' (some b):=by
 obtain ⟨D,h1,h2,h3,h4⟩:=h
 obtain ⟨hh,_⟩:=h4 x hx
 rw[hf]at hh
 obtain ⟨w',hrun,hown,hg⟩:=h1.update q5h Tryz.underlying56 (by unfold maxLen;omega) (q5i x hx) (plainElem_int (a:=(j:Int)) Tryz.underlying3 (WalkArith.wf_i64 (by omega)))
 refine ⟨w',hrun,⟨_,hown,h2.put (q7n x) _,?_,fun y hy=>?_⟩,hg⟩
 ·rw[size_put h2,hh,h3];rfl
 ·dsimp only
  by_cases e:y=x
  ·subst e
   rw[if_pos rfl]
   refine ⟨has_put_same h2.isMap (q7n y) _,fun i hi=>?_⟩
   injection hi with hi
   subst hi
   exact atKey_put_same h2.isMap (q7n y) _ _
  ·have ne:klU y≠klU x:=fun he=>e (qd9 he)
   rw[if_neg e,has_put_other ne]
   refine ⟨(h4 y hy).1,fun i hi=>?_⟩
   rw[atKey_put_other ne]
   exact (h4 y hy).2 i hi
end Go.Proofs.YtekeaodpdcnfjaaGreatDoor
