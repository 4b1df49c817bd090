/- Texts of the proof, put together: what it uses. -/
import Derived.Deep.DeepCutAuto
import Derived.BigQuiet
import Derived.Deep.AppendLies
import Derived.Sort.AssemblyPlain
import Derived.Deep.QuietTactic
import Derived.BigRegion
import Derived.Lib.AppendZerosOnto
import Derived.OwnWalk
import Derived.Test.YtailhklbmenaoaaGreatDoorX01
import Derived.Test.YtailhklbmenaoaaGreatDoorX04
set_option maxRecDepth 100000
set_option maxHeartbeats 16000000
namespace Go.Proofs.YtailhklbmenaoaaGreatDoor
open Go.RowKit Go.Maps
theorem qfX{a b:List Nat}(h:Sm a)(k:Sm b):Sm (a++b):=fun x hx=>(List.mem_append.1 hx).elim (h x) (k x)
theorem qj9{a b:List Nat}(h:Sm a)(k:Sm b):Sm (uniL a b):=fun x hx=>by
 unfold uniL at hx;obtain⟨y,hy,hx⟩:=List.mem_flatMap.1 hx;obtain⟨z,hz,rfl⟩:=List.mem_map.1 hx;exact or_lt (h y hy) (k z hz)
theorem qe2{P:Program}{T e:TypeId}{w:World}{base n:Nat}{v:Value}{zs:List Int}(h:w.ownsRow base e 1 v n (zs.map (Value.int .u64)))(hu:P.underlying T=some (.slice e))(hs:(P.info? e).map (·.size)=some 1):
  ∃a cap,v=.slice a n cap/\IntSl P T .u64 w a n cap zs/\(∀k,k<n->base<=(adOf a k).block)/\∀x,a=some x->x.block<w.heap.size:=by
 obtain⟨hl,h⟩:=h;simp at hl
 rcases h with⟨rfl,rfl⟩|⟨g,cap,cur,rfl,hg,hcell,hnc,hcm,hsz,htk⟩
 ·have:zs=[]:=List.eq_nil_of_length_eq_zero hl
  subst this;exact⟨none,0,rfl,⟨rfl,nlr,Nat.zero_le _,fun m k w hk hm=>absurd hk (by omega),fun k hk=>absurd hk (by omega),fun k hk=>absurd hk (by omega),fun _=>rfl⟩,fun k hk=>absurd hk (by omega),fun x hx=>by cases hx⟩
 ·have had:∀k,adOf (some ⟨g,0,none⟩) k=⟨g,k,none⟩:=fun k=>by simp[adOf,qg]
  have hlt:g<w.heap.size:=(aes hcell).1
  refine⟨some ⟨g,0,none⟩,cap,rfl,⟨hl,hnc,hcm,fun m k w hk hm=>q1a hu hs (by simp) k w hk,fun k hk=>?_,fun k hk=>by rw[had];exact hlt,by simp⟩,fun k hk=>by rw[had];exact hg,fun x hx=>by injection hx with hx;rw[<-hx];exact hlt⟩
  rw[had]
  have hk2:(cur.toList.take (n*1))[k]? =some (.int .u64 (zs.getD k 0)):=by
   rw[htk];simp[List.getD_eq_getElem?_getD,List.getElem?_eq_getElem (show k<zs.length by omega)]
  rw[List.getElem?_take,if_pos (by omega)]at hk2
  simp[World.cell?,hcell]
  simpa using hk2
theorem q2p:(Tryz.prog.info? 55).map (fun i=>(i.zero,i.size,i.bytes))=some (some (.int .u64 0),1,8):=by kernel_rfl
theorem q9Y(w:World)(e:TypeId):(w.alloc (.cells #[] e)).ownsRow w.heap.size e 1 (.slice (some ⟨w.heap.size,0,none⟩) 0 0) 0 [] :=
 ⟨rfl,Or.inr ⟨w.heap.size,0,#[],rfl,nlr,(mha w _).1,nlr,Nat.zero_le _,rfl,rfl⟩⟩
abbrev lt64:Int->Int->Bool:=Go.Sort.ltInt
theorem swo64:Go.Sort.SWO lt64:=⟨fun x=>by simp[lt64,Go.Sort.ltInt],fun x y z=>by simp[lt64,Go.Sort.ltInt];omega,fun x y z=>by simp[lt64,Go.Sort.ltInt];omega⟩
def SoAt (w:World) (g:Nat) (d:Array Int) (t:List Int):Prop:=w.heap[g]? =some (.cells ((d.toList++t).map (Value.int .u64)).toArray 55 (0,0))
theorem SoAt.lt{w:World}{g:Nat}{d:Array Int}{t:List Int}(h:SoAt w g d t):g<w.heap.size:=(aes h).1
theorem SoAt.cell{w:World}{g:Nat}{d:Array Int}{t:List Int}(h:SoAt w g d t){i:Nat}(hi:i<d.size):w.cell? ⟨g,i,none⟩=some (.int .u64 d[i]!):=by
 rw[qb h];simp[List.getElem?_append_left,hi]
theorem SoAt.fz{w:World}{g:Nat}{d:Array Int}{t:List Int}(h:SoAt w g d t)(i:Nat):w.frozen? ⟨g,i,none⟩=false:=frozen_of_row w g i _ _ h
theorem SoAt.set{w:World}{g:Nat}{d:Array Int}{t:List Int}(h:SoAt w g d t){i:Nat}(hi:i<d.size)(x:Int):SoAt (w.setCell ⟨g,i,none⟩ (.int .u64 x)) g (d.setIfInBounds i x) t:=by
 unfold SoAt;rw[heap_setCell_same w g i _ _ (.int .u64 x) h];refine congrArg some (congrArg (fun c=>Obj.cells c 55 (0,0)) (Array.toList_inj.1 ?_))
 simp only[Array.toList_setIfInBounds,List.map_append,List.map_set]
 rw[List.set_append_left _ _ (by simpa using hi)]
theorem SoAt.swap{w:World}{g:Nat}{d:Array Int}{t:List Int}(h:SoAt w g d t){i j:Nat}(hi:i<d.size)(hj:j<d.size):SoAt ((w.setCell ⟨g,i,none⟩ (.int .u64 d[j]!)).setCell ⟨g,j,none⟩ (.int .u64 d[i]!)) g (Go.Sort.swp d i j) t :=
 (h.set hi d[j]!).set (by simpa using hj) d[i]!
theorem qds:(Tryz.prog.info? 55).map (·.size)=some 1:=by kernel_rfl
theorem qf(g n c k:Nat)(w:World)(hk:k<n):(Instr.indexAt 46 (.slice (some ⟨g,0,none⟩) n c) (.int .i64 (k:Int))).run Tryz.prog w=.ok (.pointer (some ⟨g,k,none⟩)) w:=by
 have:=q1a (P:=Tryz.prog) (T:=46) (e:=55) Tryz.underlying46 qds (a:=some ⟨g,0,none⟩) (cap:=c) (n:=n) (by simp) k w hk
 simpa [adOf,qg] using this
theorem ql{w w':World}{g i:Nat}(h:w.grownBy w' (some g))(v:Value):w.grownBy (w'.setCell ⟨g,i,none⟩ v) (some g) :=
 ⟨h.os,h.tape,h.output,by have:=h.size;simpa using this,fun k hk hne=>(Below.heap_setCell _ _ _ _ (fun e=>hne (by rw[e]))).trans (h.block k hk hne)⟩
theorem qi{w w':World}{row:Option Nat}(h:w.grownBy w' row)(n:Nat):w.grownBy (w'.drewN n) row:=by
 have hb:=below_drewN (Below.refl w'.heap.size w') n;exact⟨hb.os.trans h.os,hb.tape.trans h.tape,hb.output.trans h.output,Nat.le_trans h.size hb.size,fun k hk hne=>(hb.block k (Nat.lt_of_lt_of_le hk h.size)).trans (h.block k hk hne)⟩
theorem SoAt.drewN{w:World}{g:Nat}{d:Array Int}{t:List Int}(h:SoAt w g d t)(n:Nat):SoAt (w.drewN n) g d t:=(below_drewN (Below.refl w.heap.size w) n).block g h.lt |>.trans h
theorem SoAt.drew{w:World}{g:Nat}{d:Array Int}{t:List Int}(h:SoAt w g d t):SoAt w.drew g d t:=h
theorem qt{w w':World}{row:Option Nat}(h:w.grownBy w' row):w.grownBy w'.drew row:=⟨h.os,h.tape,h.output,h.size,h.block⟩
theorem qc2(x:Int)(w:World):Calls Tryz.prog 142 #[.int .u64 x] w fun e w'=>e=.returned (.bool false)/\w'=w:=by
 go_enter Tryz.func142,Tryz.ntmps142
 go_wp2;go_ret
 exact⟨by simp,rfl⟩
theorem qo(x y:Int)(w:World):Calls Tryz.prog 113 #[.int .u64 x,.int .u64 y] w fun e w'=>e=.returned (.bool (lt64 x y))/\w'=w:=by
 have h1:=qc2 x w;go_enter Tryz.func113,Tryz.ntmps113
 go_wp2_with fail
 refine h1.mono ?_
 rintro e w1 ⟨rfl,hw1⟩
 obtain rfl:=hw1.symm
 go_wp2;go_ret
 exact⟨rfl,rfl⟩
theorem qgA{a j:Nat}{d:Array Int}(h:¬a<j):Go.Sort.insInner lt64 a j d=d:=by
 cases j with
 |zero=>rfl
 |succ j=>
  unfold Go.Sort.insInner;rw[if_neg];simp;intro h2;omega
theorem qiO{a j:Nat}{d:Array Int}(hl:lt64 d[j+1]! d[j]! = false):Go.Sort.insInner lt64 a (j+1) d=d:=by
 unfold Go.Sort.insInner;rw[if_neg];rw[hl];simp
theorem qhS{a j:Nat}{d:Array Int}(h:a<j+1)(hl:lt64 d[j+1]! d[j]! = true):Go.Sort.insInner lt64 a (j+1) d=Go.Sort.insInner lt64 a j (Go.Sort.swp d (j+1) j):=by
 conv=>lhs;unfold Go.Sort.insInner
 rw[if_pos];rw[hl];simp;omega
theorem qhR{a b k:Nat}{d:Array Int}(h:k<b):Go.Sort.insOuter lt64 a b k d=Go.Sort.insOuter lt64 a b (k+1) (Go.Sort.insInner lt64 a k d):=by
 conv=>lhs;unfold Go.Sort.insOuter
 rw[if_pos h]
theorem qhQ{a b k:Nat}{d:Array Int}(h:¬k<b):Go.Sort.insOuter lt64 a b k d=d:=by
 unfold Go.Sort.insOuter;rw[if_neg h]
def SoP (w:World) (g:Nat) (t:List Int) (d':Array Int) (e:Ending) (w':World):Prop:=e=.returned (.tuple #[])/\SoAt w' g d' t/\w.grownBy w' (some g)
theorem q6S(g c a b:Nat)(d:Array Int)(t:List Int)(w:World)(h:SoAt w g d t)(hab:a<=b)(hb:b<=d.size)(hn:d.size<=1000000):
  Calls Tryz.prog 107 #[.slice (some ⟨g,0,none⟩) d.size c,.int .i64 (a:Int),.int .i64 (b:Int)] w (SoP w g t (Go.Sort.insertionSort lt64 d a b)):=by
 obtain⟨N,hN⟩:∃N,d.size=N:=⟨_,rfl⟩
 obtain⟨R,hR⟩:∃R,Go.Sort.insertionSort lt64 d a b=R:=⟨_,rfl⟩
 have HI0:=hiq hR;have HS0:=hiq h;have HD0:=hiq hN;rw[hN]at hb hn ⊢;rw[hR];clear h hN hR;go_enter Tryz.func107,Tryz.ntmps107
 go_wp2
 go_loopw [6] (fun iv wr=>∃k:Nat,a+1<=k/\k<=N+1/\iv=.int .i64 (k:Int)/\∃dk:Array Int,Hid (dk.size=N)/\Hid (SoAt wr g dk t)/\Hid (Go.Sort.insOuter lt64 a b k dk=R)/\Hid (w.grownBy wr (some g))) (fun iv _=>N+1-(intOf iv).toNat)
 case atStart=>exact⟨a+1,nlr,by omega,by go_num,d,HD0,HS0,HI0,World.grownBy.refl _ _⟩
 case round=>
  obtain⟨k,hak,hkN,rfl,dk,HD,HS,HI,HG⟩:=hrel;clear HD0 HS0 HI0;by_cases hkb:k<b
  ·have HJ0:Hid (Go.Sort.insOuter lt64 a b (k+1) (Go.Sort.insInner lt64 a k dk)=R):=(qhR hkb).symm.trans HI.out
   clear HI;go_wp2
   go_loopw [7] (fun jv wr=>∃j:Nat,j<=k/\jv=.int .i64 (j:Int)/\∃dj:Array Int,Hid (dj.size=N)/\Hid (SoAt wr g dj t)/\Hid (Go.Sort.insOuter lt64 a b (k+1) (Go.Sort.insInner lt64 a j dj)=R)/\Hid (w.grownBy wr (some g))) (fun jv _=>(intOf jv).toNat)
   case atStart=>exact⟨k,nlr,rfl,dk,HD,HS,HJ0,HG⟩
   case round=>
    obtain⟨j,hjk,rfl,dj,HD2,HS2,HJ,HG2⟩:=hrel;clear HD HS HJ0 HG;by_cases haj:a<j
    ·obtain⟨m,hm⟩:∃m,j=m+1:=⟨j-1,by omega⟩
     have hd1:decide ((a:Int)<(j:Int))=true:=decide_eq_true (by omega)
     have hi1:=fun w'=>qf g N c j w' (by omega)
     have hi2:=fun w'=>qf g N c m w' (by omega)
     have c1:=HS2.out.cell (i:=j) (by rw[HD2.out];omega)
     have c2:=HS2.out.cell (i:=m) (by rw[HD2.out];omega)
     have hsub:IntKind.i64.wrap ((j:Int)-1)=(m:Int):=by rw[IntKind.wrap_i64];omega
     have hless:=fun w'=>qo dj[j]! dj[m]! w'
     cases hl:lt64 dj[j]! dj[m]! with
     |false=>
      rw[hl]at hless
      have HK:Hid (Go.Sort.insOuter lt64 a b (k+1) dj=R):=by
       have:=HJ.out
       rw[hm]at this hl;rw[qiO hl]at this;exact this
      clear hl HJ hm
      go_upto_region 15 with fail
      go_quiet ((go_at_call 113;exact Calls.quiet_of_same (hless _)))
      have HS3:Hid _:=HS2.out.drewN nq;have HG3:Hid _:=qi HG2.out nq;clear HS2 HG2 hless c1 c2;generalize wr.drewN nq=w3 at *;go_wp2
      go_roundw
      case rel=>exact⟨k+1,by omega,by omega,by go_num,dj,HD2,HS3,HK,HG3⟩
      case measure=>simp[intOf]<;>omega
     |true=>
      rw[hl]at hless
      have HK:Hid (Go.Sort.insOuter lt64 a b (k+1) (Go.Sort.insInner lt64 a m (Go.Sort.swp dj j m))=R):=by
       have:=HJ.out
       rw[hm]at this hl ⊢;rw[qhS (by omega) hl]at this
       exact this
      have HM:=hiq hm;have hmj:m<j:=by omega
      clear hl HJ hm
      go_upto_region 15 with fail
      go_quiet ((go_at_call 113;exact Calls.quiet_of_same (hless _)))
      have hs3:=HS2.out.drewN nq;have c3:=hs3.cell (i:=j) (by rw[HD2.out];omega)
      have c4:=hs3.cell (i:=m) (by rw[HD2.out];omega)
      have f3:=hs3.fz j;have f4:=hs3.fz m;have HS3:Hid (SoAt (((wr.drewN nq).setCell ⟨g,j,none⟩ (.int .u64 dj[m]!)).setCell ⟨g,m,none⟩ (.int .u64 dj[j]!)) g (Go.Sort.swp dj j m) t):=hs3.swap (by rw[HD2.out];omega) (by rw[HD2.out];omega)
      have HG3:Hid (w.grownBy (((wr.drewN nq).setCell ⟨g,j,none⟩ (.int .u64 dj[m]!)).setCell ⟨g,m,none⟩ (.int .u64 dj[j]!)) (some g)):=ql (ql (qi HG2.out nq) _) _;have HD3:Hid ((Go.Sort.swp dj j m).size=N):=by show _=_;rw[Go.Sort.size_swp];exact HD2.out
      clear HS2 HG2 hless c1 c2 hs3 HD2;generalize dj[j]! = xj at *;generalize dj[m]! = xm at *;generalize Go.Sort.swp dj j m=dn at *;generalize wr.drewN nq=w3 at *
      go_upto_region 15 with fail
      go_region
      all_goals
       have HS4:Hid _:=HS3.out.drew;have HG4:Hid _:=qt HG3.out;clear HS3 HG3 c3 c4 f3 f4;generalize ((w3.setCell ⟨g,j,none⟩ (.int .u64 xm)).setCell ⟨g,m,none⟩ (.int .u64 xj)).drew=w4 at *;go_wp2
       go_roundw
       case rel=>exact⟨m,by omega,rfl,dn,HD3,HS4,HK,HG4⟩
       case measure=>simp[intOf];omega
    ·have HK:Hid (Go.Sort.insOuter lt64 a b (k+1) dj=R):=by
      have:=HJ.out
      rw[qgA haj]at this;exact this
     have hd1:decide ((a:Int)<(j:Int))=false:=decide_eq_false (by omega)
     clear HJ
     go_upto_region 15 with fail
     go_quiet (fail)
     have HS3:Hid _:=HS2.out.drewN nq;have HG3:Hid _:=qi HG2.out nq;clear HS2 HG2;generalize wr.drewN nq=w3 at *;go_wp2
     go_roundw
     case rel=>exact⟨k+1,by omega,by omega,by go_num,dj,HD2,HS3,HK,HG3⟩
     case measure=>simp[intOf]<;>omega
  ·have HR:Hid (dk=R):=(qhQ hkb).symm.trans HI.out
   clear HI;go_wp2
   go_end0
   obtain rfl:=HR.out
   exact⟨rfl,HS.out,HG.out⟩
theorem qha{hi first r:Nat}{d:Array Int}(h:hi<=2*r+1):Go.Sort.siftDown lt64 hi first r d=d:=by
 unfold Go.Sort.siftDown;rw[dif_pos h]
def sChild (hi first r:Nat) (d:Array Int):Nat:=if 2*r+1+1<hi&&lt64 d[first+(2*r+1)]! d[first+(2*r+1)+1]! then 2*r+2 else 2*r+1
theorem qa6{hi first r:Nat}{d:Array Int}(h:2*r+1<hi)(hl:lt64 d[first+r]! d[first+sChild hi first r d]! = false):Go.Sort.siftDown lt64 hi first r d=d:=by
 unfold Go.Sort.siftDown;rw[dif_neg (by omega)]
 unfold sChild at hl
 split at hl
 ·rename_i hc
  rw[if_pos hc,hl];rfl
 ·rename_i hc
  rw[if_neg hc,hl];rfl
theorem q7y{hi first r:Nat}{d:Array Int}(h:2*r+1<hi)(hl:lt64 d[first+r]! d[first+sChild hi first r d]! = true):Go.Sort.siftDown lt64 hi first r d=Go.Sort.siftDown lt64 hi first (sChild hi first r d) (Go.Sort.swp d (first+r) (first+sChild hi first r d)):=by
 conv=>lhs;unfold Go.Sort.siftDown
 rw[dif_neg (by omega)]
 unfold sChild at hl ⊢
 split at hl
 ·rename_i hc
  have h2:2*r+2<hi:=by simp at hc;omega
  rw[if_pos hc,hl,if_pos hc];simp only[Bool.not_true,Bool.false_eq_true,if_false]
  rw[dif_pos h2]
 ·rename_i hc
  rw[if_neg hc,hl,if_neg hc];simp only[Bool.not_true,Bool.false_eq_true,if_false]
theorem q6b{hi first r:Nat}{d:Array Int}(h:2*r+1<hi):r<sChild hi first r d/\sChild hi first r d<hi:=by
 unfold sChild
 split
 ·rename_i hc;simp at hc;omega
 ·omega
theorem q6E(g c a b:Nat)(d:Array Int)(t:List Int)(w:World)(h:SoAt w g d t)(hab:a<=b)(hb:b<=d.size)(hn:d.size<=1000000):
  Calls Tryz.prog 111 #[.slice (some ⟨g,0,none⟩) d.size c,.int .i64 (a:Int),.int .i64 (b:Int)] w (SoP w g t (Go.Sort.reverseRange d a b)):=by
 obtain⟨N,hN⟩:∃N,d.size=N:=⟨_,rfl⟩
 obtain⟨R,hR⟩:∃R,Go.Sort.reverseRange d a b=R:=⟨_,rfl⟩
 have HI0:=hiq hR;have HS0:=hiq h;have HD0:=hiq hN;rw[hN]at hb hn ⊢;rw[hR];clear h hN hR;go_enter Tryz.func111,Tryz.ntmps111
 go_wp2
 go_loopw [6,7] (fun iv jv wr=>∃(i:Nat) (j:Int),i<=N/\-1<=j/\j<N/\iv=.int .i64 (i:Int)/\jv=.int .i64 j/\∃dk:Array Int,Hid (dk.size=N)/\Hid (SoAt wr g dk t)/\Hid (Go.Sort.reverseLoop i j.toNat dk=R)/\Hid (w.grownBy wr (some g))) (fun iv jv _=>(intOf jv+1-intOf iv).toNat)
 case atStart=>exact⟨a,(b:Int)-1,by omega,by omega,by omega,rfl,by go_num,d,HD0,HS0,by show _=_;rw[show ((b:Int)-1).toNat=b-1 by omega];exact HI0.out,World.grownBy.refl _ _⟩
 case round=>
  obtain⟨i,j,hiN,hj1,hj2,rfl,rfl,dk,HD,HS,HI,HG⟩:=hrel;clear HD0 HS0 HI0;by_cases hij:(i:Int)<j
  ·obtain⟨m,rfl⟩:=Int.eq_ofNat_of_zero_le (show 0<=j by omega)
   have HK:Hid (Go.Sort.reverseLoop (i+1) ((m:Int)-1).toNat (Go.Sort.swp dk i m)=R):=by
    have:=HI.out
    unfold Go.Sort.reverseLoop at this;rw[Int.toNat_natCast,if_pos (by omega)]at this
    show _=_
    rw[show ((m:Int)-1).toNat=m-1 by omega]
    exact this
   have hi1:=fun w'=>qf g N c i w' (by omega)
   have hi2:=fun w'=>qf g N c m w' (by omega)
   have hs3:=HS.out;have c3:=hs3.cell (i:=i) (by rw[HD.out];omega)
   have c4:=hs3.cell (i:=m) (by rw[HD.out];omega)
   have f3:=hs3.fz i;have f4:=hs3.fz m;have HS3:Hid (SoAt ((wr.setCell ⟨g,i,none⟩ (.int .u64 dk[m]!)).setCell ⟨g,m,none⟩ (.int .u64 dk[i]!)) g (Go.Sort.swp dk i m) t):=hs3.swap (by rw[HD.out];omega) (by rw[HD.out];omega)
   have HG3:Hid (w.grownBy ((wr.setCell ⟨g,i,none⟩ (.int .u64 dk[m]!)).setCell ⟨g,m,none⟩ (.int .u64 dk[i]!)) (some g)):=ql (ql HG.out _) _;have HD3:Hid ((Go.Sort.swp dk i m).size=N):=by show _=_;rw[Go.Sort.size_swp];exact HD.out
   have hdec:IntKind.i64.wrap ((m:Int)-1)=(m:Int)-1:=by rw[IntKind.wrap_i64];omega
   clear HS HG hs3 HD HI;generalize dk[i]! = xi at *;generalize dk[m]! = xm at *;generalize Go.Sort.swp dk i m=dn at *;go_wp2
   go_upto_region 15 with fail
   go_region
   all_goals
    have HS4:Hid _:=HS3.out.drew;have HG4:Hid _:=qt HG3.out;clear HS3 HG3 c3 c4 f3 f4;generalize ((wr.setCell ⟨g,i,none⟩ (.int .u64 xm)).setCell ⟨g,m,none⟩ (.int .u64 xi)).drew=w4 at *;go_wp2
    go_roundw
    case rel=>exact⟨i+1,(m:Int)-1,by omega,by omega,by omega,by go_num,rfl,dn,HD3,HS4,HK,HG4⟩
    case measure=>simp[intOf];omega
  ·have HR:Hid (dk=R):=by
    have:=HI.out
    unfold Go.Sort.reverseLoop at this;rw[if_neg (by omega)]at this
    exact this
   clear HI;go_wp2
   go_end0
   obtain rfl:=HR.out
   exact⟨rfl,HS.out,HG.out⟩
theorem q5x(g c lo hi first:Nat)(d:Array Int)(t:List Int)(w:World)(h:SoAt w g d t)(hlo:lo<=d.size)(hb:first+hi<=d.size)(hn:d.size<=1000000):
  Calls Tryz.prog 137 #[.slice (some ⟨g,0,none⟩) d.size c,.int .i64 (lo:Int),.int .i64 (hi:Int),.int .i64 (first:Int)] w (SoP w g t (Go.Sort.siftDown lt64 hi first lo d)):=by
 obtain⟨N,hN⟩:∃N,d.size=N:=⟨_,rfl⟩
 obtain⟨R,hR⟩:∃R,Go.Sort.siftDown lt64 hi first lo d=R:=⟨_,rfl⟩
 have HI0:=hiq hR;have HS0:=hiq h;have HD0:=hiq hN;rw[hN]at hb hn hlo ⊢;rw[hR];clear h hN hR;go_enter Tryz.func137,Tryz.ntmps137
 go_wp2
 go_loopw [8] (fun iv wr=>∃r:Nat,r<=N/\iv=.int .i64 (r:Int)/\∃dk:Array Int,Hid (dk.size=N)/\Hid (SoAt wr g dk t)/\Hid (Go.Sort.siftDown lt64 hi first r dk=R)/\Hid (w.grownBy wr (some g))) (fun iv _=>N-(intOf iv).toNat)
 case atStart=>exact⟨lo,hlo,rfl,d,HD0,HS0,HI0,World.grownBy.refl _ _⟩
 case round=>
  obtain⟨r,hrN,rfl,dk,HD,HS,HI,HG⟩:=hrel;clear HD0 HS0 HI0;obtain⟨E,hE⟩:∃E,E=2*r:=⟨_,rfl⟩
  obtain⟨C,hC⟩:∃C,C=2*r+1:=⟨_,rfl⟩
  have wE:IntKind.i64.wrap (2*(r:Int))=(E:Int):=by rw[IntKind.wrap_i64];omega
  have wC:IntKind.i64.wrap ((E:Int)+1)=(C:Int):=by rw[IntKind.wrap_i64];omega
  have HC:=hiq hC;have hC2:C<=2000001:=by omega
  clear hE;by_cases hge:hi<=C
  ·have HR:Hid (dk=R):=(qha (by omega)).symm.trans HI.out
   have hge':(hi:Int)<=(C:Int):=by omega
   clear HI hC;go_wp2;refine bodyPost_ret (results_none rfl _ _ _) rfl ?_
   obtain rfl:=HR.out
   exact⟨rfl,HS.out,HG.out⟩
  ·have hge':¬(hi:Int)<=(C:Int):=by omega
   obtain⟨C1,hC1⟩:∃C1,C1=C+1:=⟨_,rfl⟩
   have wC1:IntKind.i64.wrap ((C:Int)+1)=(C1:Int):=by rw[IntKind.wrap_i64];omega
   have HC1:=hiq hC1;by_cases hc1:C1<hi
   ·have hd1:decide ((C1:Int)<(hi:Int))=true:=decide_eq_true (by omega)
    obtain⟨P,hP⟩:∃P,P=first+C:=⟨_,rfl⟩
    obtain⟨P1,hP1⟩:∃P1,P1=first+C+1:=⟨_,rfl⟩
    have wP:IntKind.i64.wrap ((first:Int)+(C:Int))=(P:Int):=by rw[IntKind.wrap_i64];omega
    have wP1:IntKind.i64.wrap ((P:Int)+1)=(P1:Int):=by rw[IntKind.wrap_i64];omega
    have hi1:=fun w'=>qf g N c P w' (by omega)
    have hi2:=fun w'=>qf g N c P1 w' (by omega)
    have q1:=HS.out.cell (i:=P) (by rw[HD.out];omega)
    have q2:=HS.out.cell (i:=P1) (by rw[HD.out];omega)
    have hless:=fun w'=>qo dk[P]! dk[P1]! w'
    have HP:Hid (P=first+C/\P1=first+C+1):=⟨hP,hP1⟩
    cases hl:lt64 dk[P]! dk[P1]! with
    |false=>
     rw[hl]at hless
     have HCH:Hid (sChild hi first r dk=C):=by
      show _=_
      unfold sChild;rw[<-hC,<-hP,show P+1=P1 by omega,hl]
      simp
     clear hl hC hC1 hP hP1;go_wp2
     go_upto_region 15 with fail
     go_quiet ((go_at_call 113;exact Calls.quiet_of_same (hless _)))
     have HSX:Hid (SoAt (wr.drewN nq) g dk t):=SoAt.drewN HS.out nq;have HGX:Hid _:=qi HG.out nq;clear HS HG hless q1 q2;generalize wr.drewN nq=wX at *;have hch:sChild hi first r dk=C:=HCH.out;have HLT:Hid (r<C/\C<hi):=by have:=q6b (first:=first) (d:=dk) (show 2*r+1<hi by have:=HC.out;omega);rw[hch]at this;exact this
     have hrc:=HLT.out;obtain⟨S,hS⟩:∃S,S=first+r:=⟨_,rfl⟩
     obtain⟨Q,hQ⟩:∃Q,Q=first+C:=⟨_,rfl⟩
     have wS:IntKind.i64.wrap ((first:Int)+(r:Int))=(S:Int):=by rw[IntKind.wrap_i64];omega
     have wQ:IntKind.i64.wrap ((first:Int)+(C:Int))=(Q:Int):=by rw[IntKind.wrap_i64];omega
     have hSN:S<N:=by omega
     have hQN:Q<N:=by omega
     have eS:(first:Int)+(r:Int)=(S:Int):=by omega
     have eQ:(first:Int)+(C:Int)=(Q:Int):=by omega
     have jS:=fun w'=>qf g N c S w' (by omega)
     have jQ:=fun w'=>qf g N c Q w' (by omega)
     have hs3:SoAt wX g dk t:=HSX.out;have k3:=hs3.cell (i:=S) (by rw[HD.out];omega)
     have k4:=hs3.cell (i:=Q) (by rw[HD.out];omega)
     have hless2:=fun w'=>qo dk[S]! dk[Q]! w'
     cases hl2:lt64 dk[S]! dk[Q]! with
     |false=>
      rw[hl2]at hless2
      have HR:Hid (dk=R):=by
       have h0:=qa6 (hi:=hi) (first:=first) (r:=r) (d:=dk) (by have:=HC.out;omega) (by rw[hch,<-hS,<-hQ];exact hl2)
       exact h0.symm.trans HI.out
      clear hl2 hch hS hQ HI hs3
      go_upto_region 15 with fail
      go_quiet ((go_at_call 113;exact Calls.quiet_of_same (hless2 _)))
      have HS5:Hid (SoAt (wX.drewN nq) g dk t):=SoAt.drewN HSX.out nq;have HG5:Hid _:=qi HGX.out nq;clear HSX HGX hless2 k3 k4;generalize wX.drewN nq=w5 at *;go_wp2;refine bodyPost_ret (results_none rfl _ _ _) rfl ?_
      obtain rfl:=HR.out
      exact⟨rfl,HS5.out,HG5.out⟩
     |true=>
      rw[hl2]at hless2
      have HK:Hid (Go.Sort.siftDown lt64 hi first C (Go.Sort.swp dk S Q)=R):=by
       have h0:=q7y (hi:=hi) (first:=first) (r:=r) (d:=dk) (by have:=HC.out;omega) (by rw[hch,<-hS,<-hQ];exact hl2)
       rw[hch,<-hS,<-hQ]at h0;exact h0.symm.trans HI.out
      clear hl2 hch hS hQ HI hs3
      go_upto_region 15 with fail
      go_quiet ((go_at_call 113;exact Calls.quiet_of_same (hless2 _)))
      have hs5:SoAt (wX.drewN nq) g dk t:=SoAt.drewN HSX.out nq;have c3:=hs5.cell (i:=S) (by rw[HD.out];omega)
      have c4:=hs5.cell (i:=Q) (by rw[HD.out];omega)
      have f3:=hs5.fz S;have f4:=hs5.fz Q;have HS5:Hid (SoAt (((wX.drewN nq).setCell ⟨g,S,none⟩ (.int .u64 dk[Q]!)).setCell ⟨g,Q,none⟩ (.int .u64 dk[S]!)) g (Go.Sort.swp dk S Q) t):=hs5.swap (by rw[HD.out];omega) (by rw[HD.out];omega)
      have HG5:Hid (w.grownBy (((wX.drewN nq).setCell ⟨g,S,none⟩ (.int .u64 dk[Q]!)).setCell ⟨g,Q,none⟩ (.int .u64 dk[S]!)) (some g)):=ql (ql (qi HGX.out nq) _) _;have HD5:Hid ((Go.Sort.swp dk S Q).size=N):=by show _=_;rw[Go.Sort.size_swp];exact HD.out
      clear HSX HGX hless2 k3 k4 hs5 HD;generalize dk[S]! = xS at *;generalize dk[Q]! = xQ at *;generalize Go.Sort.swp dk S Q=dn at *;generalize wX.drewN nq=w5 at *;go_wp2
      go_upto_region 15 with fail
      go_region
      all_goals
       have HS6:Hid _:=HS5.out.drew;have HG6:Hid _:=qt HG5.out;clear HS5 HG5 c3 c4 f3 f4;generalize ((w5.setCell ⟨g,S,none⟩ (.int .u64 xQ)).setCell ⟨g,Q,none⟩ (.int .u64 xS)).drew=w6 at *;go_wp2
       go_roundw
       case rel=>exact⟨C,by omega,rfl,dn,HD5,HS6,HK,HG6⟩
       case measure=>simp[intOf];omega
    |true=>
     rw[hl]at hless
     have HCH:Hid (sChild hi first r dk=C1):=by
      show _=_
      unfold sChild;rw[<-hC,<-hP,show P+1=P1 by omega,hl,if_pos (by simp;omega)]
      omega
     clear hl hC hC1 hP hP1;go_wp2
     go_upto_region 15 with fail
     go_quiet ((go_at_call 113;exact Calls.quiet_of_same (hless _)))
     have HSX:Hid (SoAt (wr.drewN nq) g dk t):=SoAt.drewN HS.out nq;have HGX:Hid _:=qi HG.out nq;clear HS HG hless q1 q2;generalize wr.drewN nq=wX at *;go_wp2;have hch:sChild hi first r dk=C1:=HCH.out;have HLT:Hid (r<C1/\C1<hi):=by have:=q6b (first:=first) (d:=dk) (show 2*r+1<hi by have:=HC.out;omega);rw[hch]at this;exact this
     have hrc:=HLT.out;obtain⟨S,hS⟩:∃S,S=first+r:=⟨_,rfl⟩
     obtain⟨Q,hQ⟩:∃Q,Q=first+C1:=⟨_,rfl⟩
     have wS:IntKind.i64.wrap ((first:Int)+(r:Int))=(S:Int):=by rw[IntKind.wrap_i64];omega
     have wQ:IntKind.i64.wrap ((first:Int)+(C1:Int))=(Q:Int):=by rw[IntKind.wrap_i64];omega
     have hSN:S<N:=by omega
     have hQN:Q<N:=by omega
     have eS:(first:Int)+(r:Int)=(S:Int):=by omega
     have eQ:(first:Int)+(C1:Int)=(Q:Int):=by omega
     have jS:=fun w'=>qf g N c S w' (by omega)
     have jQ:=fun w'=>qf g N c Q w' (by omega)
     have hs3:SoAt wX g dk t:=HSX.out;have k3:=hs3.cell (i:=S) (by rw[HD.out];omega)
     have k4:=hs3.cell (i:=Q) (by rw[HD.out];omega)
     have hless2:=fun w'=>qo dk[S]! dk[Q]! w'
     cases hl2:lt64 dk[S]! dk[Q]! with
     |false=>
      rw[hl2]at hless2
      have HR:Hid (dk=R):=by
       have h0:=qa6 (hi:=hi) (first:=first) (r:=r) (d:=dk) (by have:=HC.out;omega) (by rw[hch,<-hS,<-hQ];exact hl2)
       exact h0.symm.trans HI.out
      clear hl2 hch hS hQ HI hs3
      go_upto_region 15 with fail
      go_quiet ((go_at_call 113;exact Calls.quiet_of_same (hless2 _)))
      have HS5:Hid (SoAt (wX.drewN nq) g dk t):=SoAt.drewN HSX.out nq;have HG5:Hid _:=qi HGX.out nq;clear HSX HGX hless2 k3 k4;generalize wX.drewN nq=w5 at *;go_wp2;refine bodyPost_ret (results_none rfl _ _ _) rfl ?_
      obtain rfl:=HR.out
      exact⟨rfl,HS5.out,HG5.out⟩
     |true=>
      rw[hl2]at hless2
      have HK:Hid (Go.Sort.siftDown lt64 hi first C1 (Go.Sort.swp dk S Q)=R):=by
       have h0:=q7y (hi:=hi) (first:=first) (r:=r) (d:=dk) (by have:=HC.out;omega) (by rw[hch,<-hS,<-hQ];exact hl2)
       rw[hch,<-hS,<-hQ]at h0;exact h0.symm.trans HI.out
      clear hl2 hch hS hQ HI hs3
      go_upto_region 15 with fail
      go_quiet ((go_at_call 113;exact Calls.quiet_of_same (hless2 _)))
      have hs5:SoAt (wX.drewN nq) g dk t:=SoAt.drewN HSX.out nq;have c3:=hs5.cell (i:=S) (by rw[HD.out];omega)
      have c4:=hs5.cell (i:=Q) (by rw[HD.out];omega)
      have f3:=hs5.fz S;have f4:=hs5.fz Q;have HS5:Hid (SoAt (((wX.drewN nq).setCell ⟨g,S,none⟩ (.int .u64 dk[Q]!)).setCell ⟨g,Q,none⟩ (.int .u64 dk[S]!)) g (Go.Sort.swp dk S Q) t):=hs5.swap (by rw[HD.out];omega) (by rw[HD.out];omega)
      have HG5:Hid (w.grownBy (((wX.drewN nq).setCell ⟨g,S,none⟩ (.int .u64 dk[Q]!)).setCell ⟨g,Q,none⟩ (.int .u64 dk[S]!)) (some g)):=ql (ql (qi HGX.out nq) _) _;have HD5:Hid ((Go.Sort.swp dk S Q).size=N):=by show _=_;rw[Go.Sort.size_swp];exact HD.out
      clear HSX HGX hless2 k3 k4 hs5 HD;generalize dk[S]! = xS at *;generalize dk[Q]! = xQ at *;generalize Go.Sort.swp dk S Q=dn at *;generalize wX.drewN nq=w5 at *;go_wp2
      go_upto_region 15 with fail
      go_region
      all_goals
       have HS6:Hid _:=HS5.out.drew;have HG6:Hid _:=qt HG5.out;clear HS5 HG5 c3 c4 f3 f4;generalize ((w5.setCell ⟨g,S,none⟩ (.int .u64 xQ)).setCell ⟨g,Q,none⟩ (.int .u64 xS)).drew=w6 at *;go_wp2
       go_roundw
       case rel=>exact⟨C1,by omega,rfl,dn,HD5,HS6,HK,HG6⟩
       case measure=>simp[intOf];omega
   ·have hd1:decide ((C1:Int)<(hi:Int))=false:=decide_eq_false (by omega)
    have HCH:Hid (sChild hi first r dk=C):=by
     show _=_
     unfold sChild;rw[<-hC,if_neg];simp
     intro h0
     omega
    clear hC hC1;go_wp2
    go_upto_region 15 with fail
    go_quiet (fail)
    have HSX:Hid (SoAt (wr.drewN nq) g dk t):=SoAt.drewN HS.out nq;have HGX:Hid _:=qi HG.out nq;clear HS HG;generalize wr.drewN nq=wX at *;have hch:sChild hi first r dk=C:=HCH.out;have HLT:Hid (r<C/\C<hi):=by have:=q6b (first:=first) (d:=dk) (show 2*r+1<hi by have:=HC.out;omega);rw[hch]at this;exact this
    have hrc:=HLT.out;obtain⟨S,hS⟩:∃S,S=first+r:=⟨_,rfl⟩
    obtain⟨Q,hQ⟩:∃Q,Q=first+C:=⟨_,rfl⟩
    have wS:IntKind.i64.wrap ((first:Int)+(r:Int))=(S:Int):=by rw[IntKind.wrap_i64];omega
    have wQ:IntKind.i64.wrap ((first:Int)+(C:Int))=(Q:Int):=by rw[IntKind.wrap_i64];omega
    have hSN:S<N:=by omega
    have hQN:Q<N:=by omega
    have eS:(first:Int)+(r:Int)=(S:Int):=by omega
    have eQ:(first:Int)+(C:Int)=(Q:Int):=by omega
    have jS:=fun w'=>qf g N c S w' (by omega)
    have jQ:=fun w'=>qf g N c Q w' (by omega)
    have hs3:SoAt wX g dk t:=HSX.out;have k3:=hs3.cell (i:=S) (by rw[HD.out];omega)
    have k4:=hs3.cell (i:=Q) (by rw[HD.out];omega)
    have hless2:=fun w'=>qo dk[S]! dk[Q]! w'
    cases hl2:lt64 dk[S]! dk[Q]! with
    |false=>
     rw[hl2]at hless2
     have HR:Hid (dk=R):=by
      have h0:=qa6 (hi:=hi) (first:=first) (r:=r) (d:=dk) (by have:=HC.out;omega) (by rw[hch,<-hS,<-hQ];exact hl2)
      exact h0.symm.trans HI.out
     clear hl2 hch hS hQ HI hs3
     go_upto_region 15 with fail
     go_quiet ((go_at_call 113;exact Calls.quiet_of_same (hless2 _)))
     have HS5:Hid (SoAt (wX.drewN nq) g dk t):=SoAt.drewN HSX.out nq;have HG5:Hid _:=qi HGX.out nq;clear HSX HGX hless2 k3 k4;generalize wX.drewN nq=w5 at *;go_wp2;refine bodyPost_ret (results_none rfl _ _ _) rfl ?_
     obtain rfl:=HR.out
     exact⟨rfl,HS5.out,HG5.out⟩
    |true=>
     rw[hl2]at hless2
     have HK:Hid (Go.Sort.siftDown lt64 hi first C (Go.Sort.swp dk S Q)=R):=by
      have h0:=q7y (hi:=hi) (first:=first) (r:=r) (d:=dk) (by have:=HC.out;omega) (by rw[hch,<-hS,<-hQ];exact hl2)
      rw[hch,<-hS,<-hQ]at h0;exact h0.symm.trans HI.out
     clear hl2 hch hS hQ HI hs3
     go_upto_region 15 with fail
     go_quiet ((go_at_call 113;exact Calls.quiet_of_same (hless2 _)))
     have hs5:SoAt (wX.drewN nq) g dk t:=SoAt.drewN HSX.out nq;have c3:=hs5.cell (i:=S) (by rw[HD.out];omega)
     have c4:=hs5.cell (i:=Q) (by rw[HD.out];omega)
     have f3:=hs5.fz S;have f4:=hs5.fz Q;have HS5:Hid (SoAt (((wX.drewN nq).setCell ⟨g,S,none⟩ (.int .u64 dk[Q]!)).setCell ⟨g,Q,none⟩ (.int .u64 dk[S]!)) g (Go.Sort.swp dk S Q) t):=hs5.swap (by rw[HD.out];omega) (by rw[HD.out];omega)
     have HG5:Hid (w.grownBy (((wX.drewN nq).setCell ⟨g,S,none⟩ (.int .u64 dk[Q]!)).setCell ⟨g,Q,none⟩ (.int .u64 dk[S]!)) (some g)):=ql (ql (qi HGX.out nq) _) _;have HD5:Hid ((Go.Sort.swp dk S Q).size=N):=by show _=_;rw[Go.Sort.size_swp];exact HD.out
     clear HSX HGX hless2 k3 k4 hs5 HD;generalize dk[S]! = xS at *;generalize dk[Q]! = xQ at *;generalize Go.Sort.swp dk S Q=dn at *;generalize wX.drewN nq=w5 at *;go_wp2
     go_upto_region 15 with fail
     go_region
     all_goals
      have HS6:Hid _:=HS5.out.drew;have HG6:Hid _:=qt HG5.out;clear HS5 HG5 c3 c4 f3 f4;generalize ((w5.setCell ⟨g,S,none⟩ (.int .u64 xQ)).setCell ⟨g,Q,none⟩ (.int .u64 xS)).drew=w6 at *;go_wp2
      go_roundw
      case rel=>exact⟨C,by omega,rfl,dn,HD5,HS6,HK,HG6⟩
      case measure=>simp[intOf];omega
theorem qA{w w1 w2:World}{row:Option Nat}(h:w.grownBy w1 row)(k:w1.grownBy w2 row):w.grownBy w2 row :=
 ⟨k.os.trans h.os,k.tape.trans h.tape,k.output.trans h.output,Nat.le_trans h.size k.size,fun j hj hne=>(k.block j (Nat.lt_of_lt_of_le hj h.size) hne).trans (h.block j hj hne)⟩
theorem qaD(hi first r:Nat)(d:Array Int):(Go.Sort.siftDown lt64 hi first r d).size=d.size:=by
 fun_induction Go.Sort.siftDown lt64 hi first r d<;>simp_all [Go.Sort.size_swp]
theorem q6y(g c a b:Nat)(d:Array Int)(t:List Int)(w:World)(h:SoAt w g d t)(hab:a<b)(hb:b<=d.size)(hn:d.size<=1000000):
  Calls Tryz.prog 108 #[.slice (some ⟨g,0,none⟩) d.size c,.int .i64 (a:Int),.int .i64 (b:Int)] w (SoP w g t (Go.Sort.heapSort lt64 d a b)):=by
 obtain⟨N,hN⟩:∃N,d.size=N:=⟨_,rfl⟩
 obtain⟨R,hR⟩:∃R,Go.Sort.heapSort lt64 d a b=R:=⟨_,rfl⟩
 obtain⟨H,hH⟩:∃H,H=b-a:=⟨_,rfl⟩
 obtain⟨K0,hK0⟩:∃K0,K0=(H-1) / 2:=⟨_,rfl⟩
 have HI0:Hid (Go.Sort.heapPop lt64 a H (Go.Sort.heapBuild lt64 H a (K0+1) d)=R):=by
  show _=_
  rw[hK0,hH];exact hR
 have HS0:=hiq h;have HD0:=hiq hN;rw[hN]at hb hn ⊢;rw[hR];have wH:IntKind.i64.wrap ((b:Int)-(a:Int))=(H:Int):=by rw[IntKind.wrap_i64];omega
 have eH:(b:Int)-(a:Int)=(H:Int):=by omega
 have wK:IntKind.i64.wrap ((H:Int)-1)=(H:Int)-1:=by rw[IntKind.wrap_i64];omega
 have tK:((H:Int)-1).tdiv 2=(K0:Int):=by rw[Int.tdiv_eq_ediv_of_nonneg (by omega)];omega
 have hHN:a+H<=N:=by omega
 have hK0N:K0<=H:=by omega
 have hH1:1<=H:=by omega
 clear h hN hR hH hK0;go_enter Tryz.func108,Tryz.ntmps108
 go_wp2
 go_loopw [9] (fun iv wr=>∃(i:Int) (k:Nat),iv=.int .i64 i/\i=(k:Int)-1/\k<=K0+1/\∃dk:Array Int,Hid (dk.size=N)/\Hid (SoAt wr g dk t)/\Hid (Go.Sort.heapPop lt64 a H (Go.Sort.heapBuild lt64 H a k dk)=R)/\Hid (w.grownBy wr (some g))) (fun iv _=>(intOf iv+1).toNat)
 case atStart=>exact⟨(K0:Int),K0+1,rfl,by omega,nlr,d,HD0,HS0,HI0,World.grownBy.refl _ _⟩
 case round=>
  obtain⟨i,k,rfl,hik,hk,dk,HD,HS,HI,HG⟩:=hrel;clear HD0 HS0 HI0 wH eH wK tK
  cases k with
  |zero=>
   obtain rfl:i=-1:=by omega
   have wK2:IntKind.i64.wrap ((H:Int)-1)=(H:Int)-1:=by rw[IntKind.wrap_i64];omega
   have HI2:Hid (Go.Sort.heapPop lt64 a H dk=R):=HI.out;clear HI hik;go_wp2
   go_loopw [10] (fun iv wr=>∃(i:Int) (k:Nat),iv=.int .i64 i/\i=(k:Int)-1/\k<=H/\∃dk:Array Int,Hid (dk.size=N)/\Hid (SoAt wr g dk t)/\Hid (Go.Sort.heapPop lt64 a k dk=R)/\Hid (w.grownBy wr (some g))) (fun iv _=>(intOf iv+1).toNat)
   case atStart=>exact⟨(H:Int)-1,H,rfl,rfl,nlr,dk,HD,HS,HI2,HG⟩
   case round=>
    obtain⟨i,k,rfl,hik,hk,dk,HD3,HS3,HI3,HG3⟩:=hrel;clear HD HS HI2 HG wK2
    cases k with
    |zero=>
     obtain rfl:i=-1:=by omega
     have HR:Hid (dk=R):=HI3.out;clear HI3 hik;go_wp2
     go_end0
     obtain rfl:=HR.out
     exact⟨rfl,HS3.out,HG3.out⟩
    |succ m=>
     obtain rfl:i=(m:Int):=by omega
     obtain⟨Q,hQ⟩:∃Q,Q=a+m:=⟨_,rfl⟩
     have HK:Hid (Go.Sort.heapPop lt64 a m (Go.Sort.siftDown lt64 m a 0 (Go.Sort.swp dk a Q))=R):=by
      show _=_
      rw[hQ];exact HI3.out
     have wQ:IntKind.i64.wrap ((a:Int)+(m:Int))=(Q:Int):=by rw[IntKind.wrap_i64];omega
     have eQ:(a:Int)+(m:Int)=(Q:Int):=by omega
     have hQN:Q<N:=by omega
     have hmQ:a+m<=N:=by omega
     have hdec:IntKind.i64.wrap ((m:Int)-1)=(m:Int)-1:=by rw[IntKind.wrap_i64];omega
     have hi1:=fun w'=>qf g N c a w' (by omega)
     have hi2:=fun w'=>qf g N c Q w' hQN
     have hs5:SoAt wr g dk t:=HS3.out;have c3:=hs5.cell (i:=a) (by rw[HD3.out];omega)
     have c4:=hs5.cell (i:=Q) (by rw[HD3.out];omega)
     have f3:=hs5.fz a;have f4:=hs5.fz Q;have hs5b:SoAt (wr.setCell ⟨g,a,none⟩ (.int .u64 dk[Q]!)) g (dk.setIfInBounds a dk[Q]!) t:=hs5.set (by rw[HD3.out];omega) _
     have f5:=hs5b.fz Q;have c5:=hs5b.cell (i:=Q) (by rw[Array.size_setIfInBounds,HD3.out];omega)
     have HS5:Hid (SoAt ((wr.setCell ⟨g,a,none⟩ (.int .u64 dk[Q]!)).setCell ⟨g,Q,none⟩ (.int .u64 dk[a]!)) g (Go.Sort.swp dk a Q) t):=hs5.swap (by rw[HD3.out];omega) (by rw[HD3.out];omega)
     have HG5:Hid (w.grownBy ((wr.setCell ⟨g,a,none⟩ (.int .u64 dk[Q]!)).setCell ⟨g,Q,none⟩ (.int .u64 dk[a]!)) (some g)):=ql (ql HG3.out _) _;have HD5:Hid ((Go.Sort.swp dk a Q).size=N):=by show _=_;rw[Go.Sort.size_swp];exact HD3.out
     clear HS3 HG3 hs5 hs5b HD3 HI3 hik hQ;generalize (dk.setIfInBounds a dk[Q]!)[Q]! = yQ at *;generalize dk[a]! = xa at *;generalize dk[Q]! = xQ at *;generalize Go.Sort.swp dk a Q=dn at *;go_wp2
     go_upto_region 15 with fail
     go_region
     all_goals
      have HS6:Hid (SoAt ((wr.setCell ⟨g,a,none⟩ (.int .u64 xQ)).setCell ⟨g,Q,none⟩ (.int .u64 xa)).drew g dn t):=SoAt.drew HS5.out;have HG6:Hid _:=qt HG5.out;clear HS5 HG5 c3 c4 f3 f4 f5 c5;generalize ((wr.setCell ⟨g,a,none⟩ (.int .u64 xQ)).setCell ⟨g,Q,none⟩ (.int .u64 xa)).drew=w6 at *;have hsf:=q5x g c 0 m a dn t w6 HS6.out (Nat.zero_le _) (by rw[HD5.out];omega) (by rw[HD5.out];omega)
      rw[HD5.out,show ((0:Nat):Int)=0 from rfl]at hsf
      go_wp2_with fail
      refine hsf.mono ?_
      rintro e w7 ⟨rfl,hs7,hg7⟩
      have HS7:=hiq hs7;have HG7:Hid (w.grownBy w7 (some g)):=qA HG6.out hg7;have HD7:Hid ((Go.Sort.siftDown lt64 m a 0 dn).size=N):=by show _=_;rw[qaD];exact HD5.out
      clear hsf hs7 hg7 HS6 HG6;go_wp2
      go_roundw
      case rel=>exact⟨(m:Int)-1,m,rfl,rfl,by omega,_,HD7,HS7,HK,HG7⟩
      case measure=>simp[intOf]
  |succ m=>
   obtain rfl:i=(m:Int):=by omega
   have HK:Hid (Go.Sort.heapPop lt64 a H (Go.Sort.heapBuild lt64 H a m (Go.Sort.siftDown lt64 H a m dk))=R):=HI.out;have hdec:IntKind.i64.wrap ((m:Int)-1)=(m:Int)-1:=by rw[IntKind.wrap_i64];omega
   have hsf:=q5x g c m H a dk t wr HS.out (by rw[HD.out];omega) (by rw[HD.out];omega) (by rw[HD.out];omega)
   rw[HD.out]at hsf;clear HI hik
   go_wp2_with fail
   refine hsf.mono ?_
   rintro e w7 ⟨rfl,hs7,hg7⟩
   have HS7:=hiq hs7;have HG7:Hid (w.grownBy w7 (some g)):=qA HG.out hg7;have HD7:Hid ((Go.Sort.siftDown lt64 H a m dk).size=N):=by show _=_;rw[qaD];exact HD.out
   clear hsf hs7 hg7 HS HG;go_wp2
   go_roundw
   case rel=>exact⟨(m:Int)-1,m,rfl,rfl,by omega,_,HD7,HS7,HK,HG7⟩
   case measure=>simp[intOf]
end Go.Proofs.YtailhklbmenaoaaGreatDoor
namespace Go.Proofs.YtailhklbmenaoaaGreatDoor
open Go.RowKit Go.Maps
open Go.Sort (swp PermIn SortedIn)
structure PI (d0:Array Int) (a b i j:Nat) (d:Array Int) (p:Int):Prop where
 sz:d.size=d0.size
 perm:PermIn a b d0 d
 piv:d[a]! = p
 ia:a+1<=i
 ij:i<=j+1
 jb:j<b
 lo:∀x,a<x->x<i->lt64 d[x]! p=true
 hi:∀x,j<x->x<b->lt64 d[x]! p=false
theorem PI.up{d0:Array Int}{a b i j:Nat}{d:Array Int}{p:Int}(h:PI d0 a b i j d p)(hij:i<=j)(hl:lt64 d[i]! p=true):PI d0 a b (i+1) j d p :=
 ⟨h.sz,h.perm,h.piv,by have:=h.ia;omega,by omega,h.jb,fun x h1 h2=>by
  by_cases e:x=i
  ·subst e;exact hl
  ·exact h.lo x h1 (by omega),h.hi⟩
theorem PI.down{d0:Array Int}{a b i j:Nat}{d:Array Int}{p:Int}(h:PI d0 a b i (j+1) d p)(hij:i<=j+1)(hl:lt64 d[j+1]! p=false):PI d0 a b i j d p :=
 ⟨h.sz,h.perm,h.piv,h.ia,hij,by have:=h.jb;omega,h.lo,fun x h1 h2=>by
  by_cases e:x=j+1
  ·subst e;exact hl
  ·exact h.hi x (by omega) h2⟩
theorem PI.swap{d0:Array Int}{a b i j:Nat}{d:Array Int}{p:Int}(h:PI d0 a b i (j+1) d p)(hb:b<=d0.size)(hij:i<=j+1)(h1:lt64 d[i]! p=false)(h2:lt64 d[j+1]! p=true):PI d0 a b (i+1) j (swp d i (j+1)) p:=by
 have hne:i≠j+1:=fun e=>by subst e;rw[h1]at h2;cases h2
 have hia:=h.ia;have hjb:=h.jb;have hsz:=h.sz;refine⟨by rw[Go.Sort.size_swp,hsz],Go.Sort.permIn_trans _ _ _ _ _ h.perm (Go.Sort.swp_permIn d a b i (j+1) (by omega) (by omega) (by omega) hjb (by omega)),?_,by omega,by omega,by omega,fun x k1 k2=>?_,fun x k1 k2=>?_⟩
 ·rw[Go.Sort.swp_other _ _ _ _ (by omega) (by omega)];exact h.piv
 ·by_cases e:x=i
  ·subst e
   rw[Go.Sort.swp_left _ _ _ (by omega) hne];exact h2
  ·rw[Go.Sort.swp_other _ _ _ _ e (by omega)];exact h.lo x k1 (by omega)
 ·by_cases e:x=j+1
  ·subst e
   rw[Go.Sort.swp_right _ _ _ (by omega)];exact h1
  ·rw[Go.Sort.swp_other _ _ _ _ (by omega) e];exact h.hi x (by omega) k2
structure Parted (d0:Array Int) (a b m:Nat) (d:Array Int):Prop where
 sz:d.size=d0.size
 ma:a<=m
 mb:m<b
 perm:PermIn a b d0 d
 lo:∀x,a<=x->x<m->lt64 d[x]! d[m]! = true
 hi:∀x,m<x->x<b->lt64 d[x]! d[m]! = false
theorem PI.fin{d0:Array Int}{a b i j:Nat}{d:Array Int}{p:Int}(h:PI d0 a b i j d p)(hb:b<=d0.size)(hij:¬i<=j):Parted d0 a b j (swp d j a):=by
 have hia:=h.ia;have h0:=h.ij;have hjb:=h.jb;have hsz:=h.sz;have e0:i=j+1:=by omega
 subst e0
 have hj:(swp d j a)[j]! = p:=by
  by_cases e:j=a
  ·subst e;rw[Go.Sort.swp_right _ _ _ (by omega)];exact h.piv
  ·rw[Go.Sort.swp_left _ _ _ (by omega) e];exact h.piv
 refine⟨by rw[Go.Sort.size_swp,hsz],by omega,hjb,Go.Sort.permIn_trans _ _ _ _ _ h.perm (Go.Sort.swp_permIn d a b j a (by omega) hjb nlr (by omega) (by omega)),fun x k1 k2=>?_,fun x k1 k2=>?_⟩
 ·rw[hj]
  by_cases e:x=a
  ·subst e
   rw[Go.Sort.swp_right _ _ _ (by omega)]
   exact h.lo j (by omega) (by omega)
  ·rw[Go.Sort.swp_other _ _ _ _ (by omega) e]
   exact h.lo x (by omega) (by omega)
 ·rw[hj,Go.Sort.swp_other _ _ _ _ (by omega) (by omega)]
  exact h.hi x k1 k2
theorem qgW{d0:Array Int}{a b q:Nat}(hab:a<b)(hb:b<=d0.size)(hq1:a<=q)(hq2:q<b):PI d0 a b (a+1) (b-1) (swp d0 a q) (swp d0 a q)[a]! :=
 ⟨Go.Sort.size_swp _ _ _,Go.Sort.swp_permIn d0 a b a q nlr hab hq1 hq2 hb,rfl,nlr,by omega,by omega,fun x h1 h2=>by omega,fun x h1 h2=>by omega⟩
theorem qbd(g c a b q0:Nat)(d0:Array Int)(t:List Int)(w:World)(h:SoAt w g d0 t)(hab:a<b)(hb:b<=d0.size)(hq1:a<=q0)(hq2:q0<b)(hn:d0.size<=1000000):
  Calls Tryz.prog 115 #[.slice (some ⟨g,0,none⟩) d0.size c,.int .i64 (a:Int),.int .i64 (b:Int),.int .i64 (q0:Int)] w fun e w'=>∃(m:Nat) (f:Bool) (d1:Array Int),e=.returned (.tuple #[.int .i64 (m:Int),.bool f])/\Parted d0 a b m d1/\SoAt w' g d1 t/\w.grownBy w' (some g):=by
 obtain⟨N,hN⟩:∃N,d0.size=N:=⟨_,rfl⟩
 have HS0:=hiq h;have HD0:=hiq hN;have HG0:Hid (w.grownBy w (some g)):=World.grownBy.refl _ _;have HP0:Hid _:=qgW hab hb hq1 hq2;obtain⟨J,hJ⟩:∃J,b-1=J:=⟨_,rfl⟩
 rw[hJ]at HP0;have HB:=hiq hb;rw[hN]at hb hn ⊢;clear h hN;go_enter Tryz.func115,Tryz.ntmps115
 have wi:IntKind.i64.wrap ((a:Int)+1)=((a+1:Nat):Int):=by rw[IntKind.wrap_i64];omega
 have wj:IntKind.i64.wrap ((b:Int)-1)=(J:Int):=by rw[IntKind.wrap_i64];omega
 have ej:(b:Int)-1=(J:Int):=by omega
 clear hJ;go_wp2;obtain⟨p,hp⟩:∃p,(swp d0 a q0)[a]! = p:=⟨_,rfl⟩
 rw[hp]at HP0;clear hp;have hi1:=fun w'=>qf g N c a w' (by omega)
 have hi2:=fun w'=>qf g N c q0 w' (by omega)
 have hsw:SoAt w g d0 t:=HS0.out;have c3:=hsw.cell (i:=a) (by rw[HD0.out];omega)
 have c4:=hsw.cell (i:=q0) (by rw[HD0.out];omega)
 have f3:=hsw.fz a;have f4:=hsw.fz q0;have hswb:SoAt (w.setCell ⟨g,a,none⟩ (.int .u64 d0[q0]!)) g (d0.setIfInBounds a d0[q0]!) t:=hsw.set (by rw[HD0.out];omega) _
 have f5:=hswb.fz q0;have c5:=hswb.cell (i:=q0) (by rw[Array.size_setIfInBounds,HD0.out];omega)
 have HSa1:Hid (SoAt ((w.setCell ⟨g,a,none⟩ (.int .u64 d0[q0]!)).setCell ⟨g,q0,none⟩ (.int .u64 d0[a]!)) g (swp d0 a q0) t):=hsw.swap (by rw[HD0.out];omega) (by rw[HD0.out];omega)
 have HGa1:Hid (w.grownBy ((w.setCell ⟨g,a,none⟩ (.int .u64 d0[q0]!)).setCell ⟨g,q0,none⟩ (.int .u64 d0[a]!)) (some g)):=ql (ql HG0.out _) _;have HD1:Hid ((swp d0 a q0).size=N):=by show _=_;rw[Go.Sort.size_swp];exact HD0.out
 clear hsw hswb;generalize (d0.setIfInBounds a d0[q0]!)[q0]! = ysw at *;generalize d0[a]! = xi at *;generalize d0[q0]! = xj at *
 go_upto_region 15 with fail
 go_region
 all_goals
  have HS1:Hid (SoAt ((w.setCell ⟨g,a,none⟩ (.int .u64 xj)).setCell ⟨g,q0,none⟩ (.int .u64 xi)).drew g (swp d0 a q0) t):=SoAt.drew HSa1.out;have HG1:Hid (w.grownBy ((w.setCell ⟨g,a,none⟩ (.int .u64 xj)).setCell ⟨g,q0,none⟩ (.int .u64 xi)).drew (some g)):=qt HGa1.out;clear HSa1 HGa1 c3 c4 f3 f4 f5 c5 hi1 hi2;generalize ((w.setCell ⟨g,a,none⟩ (.int .u64 xj)).setCell ⟨g,q0,none⟩ (.int .u64 xi)).drew=w1 at *;generalize swp d0 a q0=d1 at *;go_wp2;clear wi wj ej
  go_loopw [10] (fun sv wr=>∃i:Nat,sv=.int .i64 (i:Int)/\Hid (PI d0 a b i J d1 p)/\Hid (SoAt wr g d1 t)/\Hid (w.grownBy wr (some g))/\Hid (a+1<=i)) (fun sv _=>N+1-(intOf sv).toNat)
  case atStart=>exact⟨a+1,by first|rfl|go_num,HP0,HS1,HG1,nlr⟩
  case round=>
   obtain⟨i,rfl,HP2,HSr2,HGr2,HL2⟩:=hrel;have bL:=HL2.out;clear HP0 HS1 HG1;have b1:=HP2.out.ia;have b2:=HP2.out.ij;have b3:=HP2.out.jb;obtain⟨q,hq⟩:∃q:Bool,q=(decide (i<=J)&&lt64 d1[i]! d1[a]!):=⟨_,rfl⟩
   have HQ:=hiq hq;clear hq
   go_upto_region 15 with fail
   go_cut [43] (fun cv wx=>cv=.bool q/\Hid (SoAt wx g d1 t)/\Hid (w.grownBy wx (some g)))
   case first=>
    by_cases hij:i<=J
    ·have hd:decide ((i:Int)<=(J:Int))=true:=decide_eq_true (by omega)
     have hi1:=fun w'=>qf g N c i w' (by omega)
     have hi2:=fun w'=>qf g N c a w' (by omega)
     have hsw:SoAt wr g d1 t:=HSr2.out;have c3:=hsw.cell (i:=i) (by rw[HD1.out];omega)
     have c4:=hsw.cell (i:=a) (by rw[HD1.out];omega)
     have hless:=fun w'=>qo d1[i]! d1[a]! w'
     have HQ2:Hid (q=(lt64 d1[i]! d1[a]!)):=by
      show _=_
      rw[HQ.out,decide_eq_true hij];rfl
     clear hsw HQ;generalize lt64 d1[i]! d1[a]! = lv at *;generalize d1[i]! = xv at *;generalize d1[a]! = xa at *;obtain rfl:=HQ2.out
     go_quiet ((go_at_call 113;exact Calls.quiet_of_same (hless _)))
     go_wp2
     go_meet
     case rel=>exact⟨rfl,SoAt.drewN HSr2.out _,qi HGr2.out _⟩
    ·have hd:decide ((i:Int)<=(J:Int))=false:=decide_eq_false (by omega)
     have HQ2:Hid (q=false):=by
      show _=_
      rw[HQ.out,decide_eq_false hij];rfl
     clear HQ;obtain rfl:=HQ2.out
     go_quiet (fail)
     go_wp2
     go_meet
     case rel=>exact⟨rfl,SoAt.drewN HSr2.out _,qi HGr2.out _⟩
   case rest=>
    obtain⟨rfl,HS2,HG2⟩:=hcut;clear HSr2 HGr2
    cases q with
    |true=>
     have hq:=HQ.out.symm;rw[Bool.and_eq_true,decide_eq_true_eq]at hq;have HPX:Hid (PI d0 a b (i+1) J d1 p):=HP2.out.up hq.1 (by have h2:=hq.2;have h3:=HP2.out.piv;rw[<-h3];simpa using h2)
     clear HQ HP2;go_wp2
     go_roundw
     case rel=>exact⟨i+1,by go_num,HPX,HS2,HG2,by show _<=_;omega⟩
     case measure=>simp[intOf];omega
    |false=>
     have HX2:Hid (i<=J->lt64 d1[i]! d1[a]! = false):=fun h=>by
      have:=HQ.out
      rw[decide_eq_true h]at this;simpa using this.symm
     clear HQ;generalize wc=w2 at *;go_wp2
     go_loopw [11] (fun sv wr=>∃j:Nat,sv=.int .i64 (j:Int)/\Hid (PI d0 a b i j d1 p)/\Hid (SoAt wr g d1 t)/\Hid (w.grownBy wr (some g))/\Hid (j<=J)) (fun sv _=>(intOf sv).toNat)
     case atStart=>exact⟨J,by first|rfl|go_num,HP2,HS2,HG2,nlr⟩
     case round=>
      obtain⟨j,rfl,HP3,HSr3,HGr3,HL3⟩:=hrel;have bL:=HL3.out;clear HP2 HS2 HG2;have b1:=HP3.out.ia;have b2:=HP3.out.ij;have b3:=HP3.out.jb;obtain⟨q,hq⟩:∃q:Bool,q=(decide (i<=j) && !lt64 d1[j]! d1[a]!):=⟨_,rfl⟩
      have HQ:=hiq hq;clear hq
      go_upto_region 15 with fail
      go_cut [60] (fun cv wx=>cv=.bool q/\Hid (SoAt wx g d1 t)/\Hid (w.grownBy wx (some g)))
      case first=>
       by_cases hij:i<=j
       ·have hd:decide ((i:Int)<=(j:Int))=true:=decide_eq_true (by omega)
        have hi1:=fun w'=>qf g N c j w' (by omega)
        have hi2:=fun w'=>qf g N c a w' (by omega)
        have hsw:SoAt wr g d1 t:=HSr3.out;have c3:=hsw.cell (i:=j) (by rw[HD1.out];omega)
        have c4:=hsw.cell (i:=a) (by rw[HD1.out];omega)
        have hless:=fun w'=>qo d1[j]! d1[a]! w'
        have HQ2:Hid (q=!(lt64 d1[j]! d1[a]!)):=by
         show _=_
         rw[HQ.out,decide_eq_true hij];rfl
        clear hsw HQ;generalize lt64 d1[j]! d1[a]! = lv at *;generalize d1[j]! = xv at *;generalize d1[a]! = xa at *;obtain rfl:=HQ2.out
        go_quiet ((go_at_call 113;exact Calls.quiet_of_same (hless _)))
        go_wp2
        go_meet
        case rel=>exact⟨rfl,SoAt.drewN HSr3.out _,qi HGr3.out _⟩
       ·have hd:decide ((i:Int)<=(j:Int))=false:=decide_eq_false (by omega)
        have HQ2:Hid (q=false):=by
         show _=_
         rw[HQ.out,decide_eq_false hij];rfl
        clear HQ;obtain rfl:=HQ2.out
        go_quiet (fail)
        go_wp2
        go_meet
        case rel=>exact⟨rfl,SoAt.drewN HSr3.out _,qi HGr3.out _⟩
      case rest=>
       obtain⟨rfl,HS3,HG3⟩:=hcut;clear HSr3 HGr3
       cases q with
       |true=>
        have hq:=HQ.out.symm;rw[Bool.and_eq_true,decide_eq_true_eq]at hq;obtain⟨jm,hjm⟩:∃jm,j=jm+1:=⟨j-1,by omega⟩
        have hdec:IntKind.i64.wrap ((j:Int)-1)=(jm:Int):=by rw[IntKind.wrap_i64];omega
        have HPX:Hid (PI d0 a b i jm d1 p):=by
         subst hjm;exact HP3.out.down hq.1 (by have h2:=hq.2;have h3:=HP3.out.piv;rw[<-h3];simpa using h2)
        have hlt:jm<j:=by omega
        clear HQ HP3 hjm hq;go_wp2
        go_roundw
        case rel=>exact⟨jm,rfl,HPX,HS3,HG3,by show _<=_;omega⟩
        case measure=>simp[intOf];omega
       |false=>
        have HX3:Hid (i<=j->lt64 d1[j]! d1[a]! = true):=fun h=>by
         have:=HQ.out
         rw[decide_eq_true h]at this;simpa using this.symm
        clear HQ;generalize wc=w3 at *;by_cases hij:i<=j
        ·have hij2:¬(j:Int)<(i:Int):=by omega
         obtain⟨jm,hjm⟩:∃jm,j=jm+1:=⟨j-1,by omega⟩
         have hdec:IntKind.i64.wrap ((j:Int)-1)=(jm:Int):=by rw[IntKind.wrap_i64];omega
         have ejm:(j:Int)-1=(jm:Int):=by omega
         have HPS:Hid (PI d0 a b (i+1) jm (swp d1 i j) p):=by
          have h1:=HX2.out (by omega)
          have h2:=HX3.out hij;rw[HP3.out.piv]at h1 h2;subst hjm;exact HP3.out.swap HB.out hij h1 h2
         clear HX2 HX3 HP3 hjm;go_wp2;have hi1:=fun w'=>qf g N c i w' (by omega)
         have hi2:=fun w'=>qf g N c j w' (by omega)
         have hsw:SoAt w3 g d1 t:=HS3.out;have c3:=hsw.cell (i:=i) (by rw[HD1.out];omega)
         have c4:=hsw.cell (i:=j) (by rw[HD1.out];omega)
         have f3:=hsw.fz i;have f4:=hsw.fz j;have hswb:SoAt (w3.setCell ⟨g,i,none⟩ (.int .u64 d1[j]!)) g (d1.setIfInBounds i d1[j]!) t:=hsw.set (by rw[HD1.out];omega) _
         have f5:=hswb.fz j;have c5:=hswb.cell (i:=j) (by rw[Array.size_setIfInBounds,HD1.out];omega)
         have HSa4:Hid (SoAt ((w3.setCell ⟨g,i,none⟩ (.int .u64 d1[j]!)).setCell ⟨g,j,none⟩ (.int .u64 d1[i]!)) g (swp d1 i j) t):=hsw.swap (by rw[HD1.out];omega) (by rw[HD1.out];omega)
         have HGa4:Hid (w.grownBy ((w3.setCell ⟨g,i,none⟩ (.int .u64 d1[j]!)).setCell ⟨g,j,none⟩ (.int .u64 d1[i]!)) (some g)):=ql (ql HG3.out _) _;have HD4:Hid ((swp d1 i j).size=N):=by show _=_;rw[Go.Sort.size_swp];exact HD1.out
         clear hsw hswb;generalize (d1.setIfInBounds i d1[j]!)[j]! = ysw at *;generalize d1[i]! = xi at *;generalize d1[j]! = xj at *
         go_upto_region 15 with fail
         go_region
         all_goals
          have HS4:Hid (SoAt ((w3.setCell ⟨g,i,none⟩ (.int .u64 xj)).setCell ⟨g,j,none⟩ (.int .u64 xi)).drew g (swp d1 i j) t):=SoAt.drew HSa4.out;have HG4:Hid (w.grownBy ((w3.setCell ⟨g,i,none⟩ (.int .u64 xj)).setCell ⟨g,j,none⟩ (.int .u64 xi)).drew (some g)):=qt HGa4.out;clear HSa4 HGa4 c3 c4 f3 f4 f5 c5 hi1 hi2;generalize ((w3.setCell ⟨g,i,none⟩ (.int .u64 xj)).setCell ⟨g,j,none⟩ (.int .u64 xi)).drew=w4 at *;generalize swp d1 i j=d4 at *;go_wp2;clear hdec ejm
          go_loopw [10,11] (fun iv jv wr=>∃i j:Nat,iv=.int .i64 (i:Int)/\jv=.int .i64 (j:Int)/\∃dm:Array Int,Hid (dm.size=N)/\Hid (PI d0 a b i j dm p)/\Hid (SoAt wr g dm t)/\Hid (w.grownBy wr (some g))) (fun iv jv _=>(intOf jv+1-intOf iv).toNat)
          case atStart=>exact⟨i+1,jm,by go_num,rfl,d4,HD4,HPS,HS4,HG4⟩
          case round=>
           obtain⟨i0,j0,rfl,rfl,dm,HDm,HPm,HSm,HGm⟩:=hrel;clear HD4 HPS HS4 HG4 hij hij2 b1 b2 b3 bL;have a1:=HPm.out.ia;have a2:=HPm.out.ij;have a3:=HPm.out.jb;go_wp2
           go_loopw [10] (fun sv wr=>∃i:Nat,sv=.int .i64 (i:Int)/\Hid (PI d0 a b i j0 dm p)/\Hid (SoAt wr g dm t)/\Hid (w.grownBy wr (some g))/\Hid (i0<=i)) (fun sv _=>N+1-(intOf sv).toNat)
           case atStart=>exact⟨i0,by first|rfl|go_num,HPm,HSm,HGm,nlr⟩
           case round=>
            obtain⟨i,rfl,HP5,HSr5,HGr5,HL5⟩:=hrel;have bL:=HL5.out;clear HPm HSm HGm;have b1:=HP5.out.ia;have b2:=HP5.out.ij;have b3:=HP5.out.jb;obtain⟨q,hq⟩:∃q:Bool,q=(decide (i<=j0)&&lt64 dm[i]! dm[a]!):=⟨_,rfl⟩
            have HQ:=hiq hq;clear hq
            go_upto_region 15 with fail
            go_cut [112] (fun cv wx=>cv=.bool q/\Hid (SoAt wx g dm t)/\Hid (w.grownBy wx (some g)))
            case first=>
             by_cases hij:i<=j0
             ·have hd:decide ((i:Int)<=(j0:Int))=true:=decide_eq_true (by omega)
              have hi1:=fun w'=>qf g N c i w' (by omega)
              have hi2:=fun w'=>qf g N c a w' (by omega)
              have hsw:SoAt wr g dm t:=HSr5.out;have c3:=hsw.cell (i:=i) (by rw[HDm.out];omega)
              have c4:=hsw.cell (i:=a) (by rw[HDm.out];omega)
              have hless:=fun w'=>qo dm[i]! dm[a]! w'
              have HQ2:Hid (q=(lt64 dm[i]! dm[a]!)):=by
               show _=_
               rw[HQ.out,decide_eq_true hij];rfl
              clear hsw HQ;generalize lt64 dm[i]! dm[a]! = lv at *;generalize dm[i]! = xv at *;generalize dm[a]! = xa at *;obtain rfl:=HQ2.out
              go_quiet ((go_at_call 113;exact Calls.quiet_of_same (hless _)))
              go_wp2
              go_meet
              case rel=>exact⟨rfl,SoAt.drewN HSr5.out _,qi HGr5.out _⟩
             ·have hd:decide ((i:Int)<=(j0:Int))=false:=decide_eq_false (by omega)
              have HQ2:Hid (q=false):=by
               show _=_
               rw[HQ.out,decide_eq_false hij];rfl
              clear HQ;obtain rfl:=HQ2.out
              go_quiet (fail)
              go_wp2
              go_meet
              case rel=>exact⟨rfl,SoAt.drewN HSr5.out _,qi HGr5.out _⟩
            case rest=>
             obtain⟨rfl,HS5,HG5⟩:=hcut;clear HSr5 HGr5
             cases q with
             |true=>
              have hq:=HQ.out.symm;rw[Bool.and_eq_true,decide_eq_true_eq]at hq;have HPX:Hid (PI d0 a b (i+1) j0 dm p):=HP5.out.up hq.1 (by have h2:=hq.2;have h3:=HP5.out.piv;rw[<-h3];simpa using h2)
              clear HQ HP5;go_wp2
              go_roundw
              case rel=>exact⟨i+1,by go_num,HPX,HS5,HG5,by show _<=_;omega⟩
              case measure=>simp[intOf];omega
             |false=>
              have HX5:Hid (i<=j0->lt64 dm[i]! dm[a]! = false):=fun h=>by
               have:=HQ.out
               rw[decide_eq_true h]at this;simpa using this.symm
              clear HQ;generalize wc=w5 at *;go_wp2
              go_loopw [11] (fun sv wr=>∃j:Nat,sv=.int .i64 (j:Int)/\Hid (PI d0 a b i j dm p)/\Hid (SoAt wr g dm t)/\Hid (w.grownBy wr (some g))/\Hid (j<=j0)) (fun sv _=>(intOf sv).toNat)
              case atStart=>exact⟨j0,by first|rfl|go_num,HP5,HS5,HG5,nlr⟩
              case round=>
               obtain⟨j,rfl,HP6,HSr6,HGr6,HL6⟩:=hrel;have bL:=HL6.out;clear HP5 HS5 HG5;have b1:=HP6.out.ia;have b2:=HP6.out.ij;have b3:=HP6.out.jb;obtain⟨q,hq⟩:∃q:Bool,q=(decide (i<=j) && !lt64 dm[j]! dm[a]!):=⟨_,rfl⟩
               have HQ:=hiq hq;clear hq
               go_upto_region 15 with fail
               go_cut [129] (fun cv wx=>cv=.bool q/\Hid (SoAt wx g dm t)/\Hid (w.grownBy wx (some g)))
               case first=>
                by_cases hij:i<=j
                ·have hd:decide ((i:Int)<=(j:Int))=true:=decide_eq_true (by omega)
                 have hi1:=fun w'=>qf g N c j w' (by omega)
                 have hi2:=fun w'=>qf g N c a w' (by omega)
                 have hsw:SoAt wr g dm t:=HSr6.out;have c3:=hsw.cell (i:=j) (by rw[HDm.out];omega)
                 have c4:=hsw.cell (i:=a) (by rw[HDm.out];omega)
                 have hless:=fun w'=>qo dm[j]! dm[a]! w'
                 have HQ2:Hid (q=!(lt64 dm[j]! dm[a]!)):=by
                  show _=_
                  rw[HQ.out,decide_eq_true hij];rfl
                 clear hsw HQ;generalize lt64 dm[j]! dm[a]! = lv at *;generalize dm[j]! = xv at *;generalize dm[a]! = xa at *;obtain rfl:=HQ2.out
                 go_quiet ((go_at_call 113;exact Calls.quiet_of_same (hless _)))
                 go_wp2
                 go_meet
                 case rel=>exact⟨rfl,SoAt.drewN HSr6.out _,qi HGr6.out _⟩
                ·have hd:decide ((i:Int)<=(j:Int))=false:=decide_eq_false (by omega)
                 have HQ2:Hid (q=false):=by
                  show _=_
                  rw[HQ.out,decide_eq_false hij];rfl
                 clear HQ;obtain rfl:=HQ2.out
                 go_quiet (fail)
                 go_wp2
                 go_meet
                 case rel=>exact⟨rfl,SoAt.drewN HSr6.out _,qi HGr6.out _⟩
               case rest=>
                obtain⟨rfl,HS6,HG6⟩:=hcut;clear HSr6 HGr6
                cases q with
                |true=>
                 have hq:=HQ.out.symm;rw[Bool.and_eq_true,decide_eq_true_eq]at hq;obtain⟨jm,hjm⟩:∃jm,j=jm+1:=⟨j-1,by omega⟩
                 have hdec:IntKind.i64.wrap ((j:Int)-1)=(jm:Int):=by rw[IntKind.wrap_i64];omega
                 have HPX:Hid (PI d0 a b i jm dm p):=by
                  subst hjm;exact HP6.out.down hq.1 (by have h2:=hq.2;have h3:=HP6.out.piv;rw[<-h3];simpa using h2)
                 have hlt:jm<j:=by omega
                 clear HQ HP6 hjm hq;go_wp2
                 go_roundw
                 case rel=>exact⟨jm,rfl,HPX,HS6,HG6,by show _<=_;omega⟩
                 case measure=>simp[intOf];omega
                |false=>
                 have HX6:Hid (i<=j->lt64 dm[j]! dm[a]! = true):=fun h=>by
                  have:=HQ.out
                  rw[decide_eq_true h]at this;simpa using this.symm
                 clear HQ;generalize wc=w6 at *;by_cases hij:i<=j
                 ·have hij2:¬(j:Int)<(i:Int):=by omega
                  obtain⟨jm,hjm⟩:∃jm,j=jm+1:=⟨j-1,by omega⟩
                  have hdec:IntKind.i64.wrap ((j:Int)-1)=(jm:Int):=by rw[IntKind.wrap_i64];omega
                  have ejm:(j:Int)-1=(jm:Int):=by omega
                  have HPS:Hid (PI d0 a b (i+1) jm (swp dm i j) p):=by
                   have h1:=HX5.out (by omega)
                   have h2:=HX6.out hij;rw[HP6.out.piv]at h1 h2;subst hjm;exact HP6.out.swap HB.out hij h1 h2
                  have hi0:i0<=i:=HL5.out;have hjj:jm<j0:=by omega
                  clear HX5 HX6 HP6 hjm;go_wp2;have hi1:=fun w'=>qf g N c i w' (by omega)
                  have hi2:=fun w'=>qf g N c j w' (by omega)
                  have hsw:SoAt w6 g dm t:=HS6.out;have c3:=hsw.cell (i:=i) (by rw[HDm.out];omega)
                  have c4:=hsw.cell (i:=j) (by rw[HDm.out];omega)
                  have f3:=hsw.fz i;have f4:=hsw.fz j;have hswb:SoAt (w6.setCell ⟨g,i,none⟩ (.int .u64 dm[j]!)) g (dm.setIfInBounds i dm[j]!) t:=hsw.set (by rw[HDm.out];omega) _
                  have f5:=hswb.fz j;have c5:=hswb.cell (i:=j) (by rw[Array.size_setIfInBounds,HDm.out];omega)
                  have HSa7:Hid (SoAt ((w6.setCell ⟨g,i,none⟩ (.int .u64 dm[j]!)).setCell ⟨g,j,none⟩ (.int .u64 dm[i]!)) g (swp dm i j) t):=hsw.swap (by rw[HDm.out];omega) (by rw[HDm.out];omega)
                  have HGa7:Hid (w.grownBy ((w6.setCell ⟨g,i,none⟩ (.int .u64 dm[j]!)).setCell ⟨g,j,none⟩ (.int .u64 dm[i]!)) (some g)):=ql (ql HG6.out _) _;have HD7:Hid ((swp dm i j).size=N):=by show _=_;rw[Go.Sort.size_swp];exact HDm.out
                  clear hsw hswb;generalize (dm.setIfInBounds i dm[j]!)[j]! = ysw at *;generalize dm[i]! = xi at *;generalize dm[j]! = xj at *
                  go_upto_region 15 with fail
                  go_region
                  all_goals
                   have HS7:Hid (SoAt ((w6.setCell ⟨g,i,none⟩ (.int .u64 xj)).setCell ⟨g,j,none⟩ (.int .u64 xi)).drew g (swp dm i j) t):=SoAt.drew HSa7.out;have HG7:Hid (w.grownBy ((w6.setCell ⟨g,i,none⟩ (.int .u64 xj)).setCell ⟨g,j,none⟩ (.int .u64 xi)).drew (some g)):=qt HGa7.out;clear HSa7 HGa7 c3 c4 f3 f4 f5 c5 hi1 hi2;generalize ((w6.setCell ⟨g,i,none⟩ (.int .u64 xj)).setCell ⟨g,j,none⟩ (.int .u64 xi)).drew=w7 at *;generalize swp dm i j=d7 at *;go_wp2
                   go_roundw
                   case rel=>exact⟨i+1,jm,by go_num,rfl,d7,HD7,HPS,HS7,HG7⟩
                   case measure=>simp[intOf];omega
                 ·skip
                  have HPT:Hid (Parted d0 a b j (swp dm j a)):=HP6.out.fin HB.out hij;have hij':(j:Int)<(i:Int):=by omega
                  clear HP6;go_wp2;have hi1:=fun w'=>qf g N c j w' (by omega)
                  have hi2:=fun w'=>qf g N c a w' (by omega)
                  have hsw:SoAt w6 g dm t:=HS6.out;have c3:=hsw.cell (i:=j) (by rw[HDm.out];omega)
                  have c4:=hsw.cell (i:=a) (by rw[HDm.out];omega)
                  have f3:=hsw.fz j;have f4:=hsw.fz a;have hswb:SoAt (w6.setCell ⟨g,j,none⟩ (.int .u64 dm[a]!)) g (dm.setIfInBounds j dm[a]!) t:=hsw.set (by rw[HDm.out];omega) _
                  have f5:=hswb.fz a;have c5:=hswb.cell (i:=a) (by rw[Array.size_setIfInBounds,HDm.out];omega)
                  have HSa8:Hid (SoAt ((w6.setCell ⟨g,j,none⟩ (.int .u64 dm[a]!)).setCell ⟨g,a,none⟩ (.int .u64 dm[j]!)) g (swp dm j a) t):=hsw.swap (by rw[HDm.out];omega) (by rw[HDm.out];omega)
                  have HGa8:Hid (w.grownBy ((w6.setCell ⟨g,j,none⟩ (.int .u64 dm[a]!)).setCell ⟨g,a,none⟩ (.int .u64 dm[j]!)) (some g)):=ql (ql HG6.out _) _;have HD8:Hid ((swp dm j a).size=N):=by show _=_;rw[Go.Sort.size_swp];exact HDm.out
                  clear hsw hswb;generalize (dm.setIfInBounds j dm[a]!)[a]! = ysw at *;generalize dm[j]! = xi at *;generalize dm[a]! = xj at *
                  go_upto_region 15 with fail
                  go_region
                  all_goals
                   have HS8:Hid (SoAt ((w6.setCell ⟨g,j,none⟩ (.int .u64 xj)).setCell ⟨g,a,none⟩ (.int .u64 xi)).drew g (swp dm j a) t):=SoAt.drew HSa8.out;have HG8:Hid (w.grownBy ((w6.setCell ⟨g,j,none⟩ (.int .u64 xj)).setCell ⟨g,a,none⟩ (.int .u64 xi)).drew (some g)):=qt HGa8.out;clear HSa8 HGa8 c3 c4 f3 f4 f5 c5 hi1 hi2;generalize ((w6.setCell ⟨g,j,none⟩ (.int .u64 xj)).setCell ⟨g,a,none⟩ (.int .u64 xi)).drew=w8 at *;generalize swp dm j a=d8 at *;go_wp2;go_ret2
                   exact⟨j,false,d8,rfl,HPT.out,HS8.out,HG8.out⟩
        ·skip
         have HPT:Hid (Parted d0 a b j (swp d1 j a)):=HP3.out.fin HB.out hij;have hij':(j:Int)<(i:Int):=by omega
         clear HP3;go_wp2;have hi1:=fun w'=>qf g N c j w' (by omega)
         have hi2:=fun w'=>qf g N c a w' (by omega)
         have hsw:SoAt w3 g d1 t:=HS3.out;have c3:=hsw.cell (i:=j) (by rw[HD1.out];omega)
         have c4:=hsw.cell (i:=a) (by rw[HD1.out];omega)
         have f3:=hsw.fz j;have f4:=hsw.fz a;have hswb:SoAt (w3.setCell ⟨g,j,none⟩ (.int .u64 d1[a]!)) g (d1.setIfInBounds j d1[a]!) t:=hsw.set (by rw[HD1.out];omega) _
         have f5:=hswb.fz a;have c5:=hswb.cell (i:=a) (by rw[Array.size_setIfInBounds,HD1.out];omega)
         have HSa9:Hid (SoAt ((w3.setCell ⟨g,j,none⟩ (.int .u64 d1[a]!)).setCell ⟨g,a,none⟩ (.int .u64 d1[j]!)) g (swp d1 j a) t):=hsw.swap (by rw[HD1.out];omega) (by rw[HD1.out];omega)
         have HGa9:Hid (w.grownBy ((w3.setCell ⟨g,j,none⟩ (.int .u64 d1[a]!)).setCell ⟨g,a,none⟩ (.int .u64 d1[j]!)) (some g)):=ql (ql HG3.out _) _;have HD9:Hid ((swp d1 j a).size=N):=by show _=_;rw[Go.Sort.size_swp];exact HD1.out
         clear hsw hswb;generalize (d1.setIfInBounds j d1[a]!)[a]! = ysw at *;generalize d1[j]! = xi at *;generalize d1[a]! = xj at *
         go_upto_region 15 with fail
         go_region
         all_goals
          have HS9:Hid (SoAt ((w3.setCell ⟨g,j,none⟩ (.int .u64 xj)).setCell ⟨g,a,none⟩ (.int .u64 xi)).drew g (swp d1 j a) t):=SoAt.drew HSa9.out;have HG9:Hid (w.grownBy ((w3.setCell ⟨g,j,none⟩ (.int .u64 xj)).setCell ⟨g,a,none⟩ (.int .u64 xi)).drew (some g)):=qt HGa9.out;clear HSa9 HGa9 c3 c4 f3 f4 f5 c5 hi1 hi2;generalize ((w3.setCell ⟨g,j,none⟩ (.int .u64 xj)).setCell ⟨g,a,none⟩ (.int .u64 xi)).drew=w9 at *;generalize swp d1 j a=d9 at *;go_wp2;go_ret2
          exact⟨j,true,d9,rfl,HPT.out,HS9.out,HG9.out⟩
structure PE (d0:Array Int) (a b i j:Nat) (d:Array Int) (p:Int):Prop where
 sz:d.size=d0.size
 perm:PermIn a b d0 d
 piv:d[a]! = p
 ia:a+1<=i
 ij:i<=j+1
 jb:j<b
 lo:∀x,a<=x->x<i->lt64 p d[x]! = false
 hi:∀x,j<x->x<b->lt64 p d[x]! = true
theorem PE.up{d0:Array Int}{a b i j:Nat}{d:Array Int}{p:Int}(h:PE d0 a b i j d p)(hij:i<=j)(hl:lt64 p d[i]! = false):PE d0 a b (i+1) j d p :=
 ⟨h.sz,h.perm,h.piv,by have:=h.ia;omega,by omega,h.jb,fun x h1 h2=>by
  by_cases e:x=i
  ·subst e;exact hl
  ·exact h.lo x h1 (by omega),h.hi⟩
theorem PE.down{d0:Array Int}{a b i j:Nat}{d:Array Int}{p:Int}(h:PE d0 a b i (j+1) d p)(hij:i<=j+1)(hl:lt64 p d[j+1]! = true):PE d0 a b i j d p :=
 ⟨h.sz,h.perm,h.piv,h.ia,hij,by have:=h.jb;omega,h.lo,fun x h1 h2=>by
  by_cases e:x=j+1
  ·subst e;exact hl
  ·exact h.hi x (by omega) h2⟩
theorem PE.swap{d0:Array Int}{a b i j:Nat}{d:Array Int}{p:Int}(h:PE d0 a b i (j+1) d p)(hb:b<=d0.size)(hij:i<=j+1)(h1:lt64 p d[i]! = true)(h2:lt64 p d[j+1]! = false):PE d0 a b (i+1) j (swp d i (j+1)) p:=by
 have hne:i≠j+1:=fun e=>by subst e;rw[h1]at h2;cases h2
 have hia:=h.ia;have hjb:=h.jb;have hsz:=h.sz;refine⟨by rw[Go.Sort.size_swp,hsz],Go.Sort.permIn_trans _ _ _ _ _ h.perm (Go.Sort.swp_permIn d a b i (j+1) (by omega) (by omega) (by omega) hjb (by omega)),?_,by omega,by omega,by omega,fun x k1 k2=>?_,fun x k1 k2=>?_⟩
 ·rw[Go.Sort.swp_other _ _ _ _ (by omega) (by omega)];exact h.piv
 ·by_cases e:x=i
  ·subst e
   rw[Go.Sort.swp_left _ _ _ (by omega) hne];exact h2
  ·rw[Go.Sort.swp_other _ _ _ _ e (by omega)];exact h.lo x k1 (by omega)
 ·by_cases e:x=j+1
  ·subst e
   rw[Go.Sort.swp_right _ _ _ (by omega)];exact h1
  ·rw[Go.Sort.swp_other _ _ _ _ (by omega) e];exact h.hi x (by omega) k2
structure EqParted (d0:Array Int) (a b m:Nat) (p:Int) (d:Array Int):Prop where
 sz:d.size=d0.size
 ma:a<m
 mb:m<=b
 perm:PermIn a b d0 d
 lo:∀x,a<=x->x<m->lt64 p d[x]! = false
 hi:∀x,m<=x->x<b->lt64 p d[x]! = true
theorem PE.fin{d0:Array Int}{a b i j:Nat}{d:Array Int}{p:Int}(h:PE d0 a b i j d p)(hij:¬i<=j):EqParted d0 a b i p d:=by
 have hia:=h.ia;have h0:=h.ij;have hjb:=h.jb;exact⟨h.sz,by omega,by omega,h.perm,h.lo,fun x k1 k2=>h.hi x (by omega) k2⟩
theorem qgV{d0:Array Int}{a b q:Nat}(hab:a<b)(hb:b<=d0.size)(hq1:a<=q)(hq2:q<b):PE d0 a b (a+1) (b-1) (swp d0 a q) d0[q]! := by
 have hp:(swp d0 a q)[a]! = d0[q]! := by
  by_cases e:a=q
  ·subst e;rw[Go.Sort.swp_right _ _ _ (by omega)]
  ·rw[Go.Sort.swp_left _ _ _ (by omega) e]
 refine⟨Go.Sort.size_swp _ _ _,Go.Sort.swp_permIn d0 a b a q nlr hab hq1 hq2 hb,hp,nlr,by omega,by omega,fun x h1 h2=>?_,fun x h1 h2=>by omega⟩
 obtain rfl:x=a:=by omega
 rw[hp];exact swo64.irrefl _
theorem q82(g c a b q0:Nat)(d0:Array Int)(t:List Int)(w:World)(h:SoAt w g d0 t)(hab:a<b)(hb:b<=d0.size)(hq1:a<=q0)(hq2:q0<b)(hn:d0.size<=1000000):
  Calls Tryz.prog 114 #[.slice (some ⟨g,0,none⟩) d0.size c,.int .i64 (a:Int),.int .i64 (b:Int),.int .i64 (q0:Int)] w fun e w'=>∃(m:Nat) (d1:Array Int),e=.returned (.int .i64 (m:Int))/\EqParted d0 a b m d0[q0]! d1/\SoAt w' g d1 t/\w.grownBy w' (some g):=by
 obtain⟨N,hN⟩:∃N,d0.size=N:=⟨_,rfl⟩
 have HS0:=hiq h;have HD0:=hiq hN;have HG0:Hid (w.grownBy w (some g)):=World.grownBy.refl _ _;have HP0:Hid _:=qgV hab hb hq1 hq2;obtain⟨J,hJ⟩:∃J,b-1=J:=⟨_,rfl⟩
 rw[hJ]at HP0;have HB:=hiq hb;rw[hN]at hb hn ⊢;clear h hN;go_enter Tryz.func114,Tryz.ntmps114
 have wi:IntKind.i64.wrap ((a:Int)+1)=((a+1:Nat):Int):=by rw[IntKind.wrap_i64];omega
 have wj:IntKind.i64.wrap ((b:Int)-1)=(J:Int):=by rw[IntKind.wrap_i64];omega
 have ej:(b:Int)-1=(J:Int):=by omega
 clear hJ;obtain⟨p,hp⟩:∃p,p=d0[q0]! := ⟨_,rfl⟩
 rw[<-hp]at HP0 ⊢;have HPP:=hiq hp;clear hp;go_wp2;have hi1:=fun w'=>qf g N c a w' (by omega)
 have hi2:=fun w'=>qf g N c q0 w' (by omega)
 have hsw:SoAt w g d0 t:=HS0.out;have c3:=hsw.cell (i:=a) (by rw[HD0.out];omega)
 have c4:=hsw.cell (i:=q0) (by rw[HD0.out];omega)
 have f3:=hsw.fz a;have f4:=hsw.fz q0;have hswb:SoAt (w.setCell ⟨g,a,none⟩ (.int .u64 d0[q0]!)) g (d0.setIfInBounds a d0[q0]!) t:=hsw.set (by rw[HD0.out];omega) _
 have f5:=hswb.fz q0;have c5:=hswb.cell (i:=q0) (by rw[Array.size_setIfInBounds,HD0.out];omega)
 have HSa1:Hid (SoAt ((w.setCell ⟨g,a,none⟩ (.int .u64 d0[q0]!)).setCell ⟨g,q0,none⟩ (.int .u64 d0[a]!)) g (swp d0 a q0) t):=hsw.swap (by rw[HD0.out];omega) (by rw[HD0.out];omega)
 have HGa1:Hid (w.grownBy ((w.setCell ⟨g,a,none⟩ (.int .u64 d0[q0]!)).setCell ⟨g,q0,none⟩ (.int .u64 d0[a]!)) (some g)):=ql (ql HG0.out _) _;have HD1:Hid ((swp d0 a q0).size=N):=by show _=_;rw[Go.Sort.size_swp];exact HD0.out
 clear hsw hswb;generalize (d0.setIfInBounds a d0[q0]!)[q0]! = ysw at *;generalize d0[a]! = xi at *;generalize d0[q0]! = xj at *
 go_upto_region 15 with fail
 go_region
 all_goals
  have HS1:Hid (SoAt ((w.setCell ⟨g,a,none⟩ (.int .u64 xj)).setCell ⟨g,q0,none⟩ (.int .u64 xi)).drew g (swp d0 a q0) t):=SoAt.drew HSa1.out;have HG1:Hid (w.grownBy ((w.setCell ⟨g,a,none⟩ (.int .u64 xj)).setCell ⟨g,q0,none⟩ (.int .u64 xi)).drew (some g)):=qt HGa1.out;clear HSa1 HGa1 c3 c4 f3 f4 f5 c5 hi1 hi2;generalize ((w.setCell ⟨g,a,none⟩ (.int .u64 xj)).setCell ⟨g,q0,none⟩ (.int .u64 xi)).drew=w1 at *;generalize swp d0 a q0=d1 at *;go_wp2;clear wi wj ej
  go_loopw [9,10] (fun iv jv wr=>∃i j:Nat,iv=.int .i64 (i:Int)/\jv=.int .i64 (j:Int)/\∃dm:Array Int,Hid (dm.size=N)/\Hid (PE d0 a b i j dm p)/\Hid (SoAt wr g dm t)/\Hid (w.grownBy wr (some g))) (fun iv jv _=>(intOf jv+1-intOf iv).toNat)
  case atStart=>exact⟨a+1,J,by go_num,rfl,d1,HD1,HP0,HS1,HG1⟩
  case round=>
   obtain⟨i0,j0,rfl,rfl,dm,HDm,HPm,HSm,HGm⟩:=hrel;clear HD1 HP0 HS1 HG1;have a1:=HPm.out.ia;have a2:=HPm.out.ij;have a3:=HPm.out.jb;go_wp2
   go_loopw [9] (fun sv wr=>∃i:Nat,sv=.int .i64 (i:Int)/\Hid (PE d0 a b i j0 dm p)/\Hid (SoAt wr g dm t)/\Hid (w.grownBy wr (some g))/\Hid (i0<=i)) (fun sv _=>N+1-(intOf sv).toNat)
   case atStart=>exact⟨i0,by first|rfl|go_num,HPm,HSm,HGm,nlr⟩
   case round=>
    obtain⟨i,rfl,HP5,HSr5,HGr5,HL5⟩:=hrel;have bL:=HL5.out;clear HPm HSm HGm;have b1:=HP5.out.ia;have b2:=HP5.out.ij;have b3:=HP5.out.jb;obtain⟨q,hq⟩:∃q:Bool,q=(decide (i<=j0) && !lt64 dm[a]! dm[i]!):=⟨_,rfl⟩
    have HQ:=hiq hq;clear hq
    go_upto_region 15 with fail
    go_cut [43] (fun cv wx=>cv=.bool q/\Hid (SoAt wx g dm t)/\Hid (w.grownBy wx (some g)))
    case first=>
     by_cases hij:i<=j0
     ·have hd:decide ((i:Int)<=(j0:Int))=true:=decide_eq_true (by omega)
      have hi1:=fun w'=>qf g N c i w' (by omega)
      have hi2:=fun w'=>qf g N c a w' (by omega)
      have hsw:SoAt wr g dm t:=HSr5.out;have c3:=hsw.cell (i:=i) (by rw[HDm.out];omega)
      have c4:=hsw.cell (i:=a) (by rw[HDm.out];omega)
      have hless:=fun w'=>qo dm[a]! dm[i]! w'
      have HQ2:Hid (q=!(lt64 dm[a]! dm[i]!)):=by
       show _=_
       rw[HQ.out,decide_eq_true hij];rfl
      clear hsw HQ;generalize lt64 dm[a]! dm[i]! = lv at *;generalize dm[i]! = xv at *;generalize dm[a]! = xa at *;obtain rfl:=HQ2.out
      go_quiet ((go_at_call 113;exact Calls.quiet_of_same (hless _)))
      go_wp2
      go_meet
      case rel=>exact⟨rfl,SoAt.drewN HSr5.out _,qi HGr5.out _⟩
     ·have hd:decide ((i:Int)<=(j0:Int))=false:=decide_eq_false (by omega)
      have HQ2:Hid (q=false):=by
       show _=_
       rw[HQ.out,decide_eq_false hij];rfl
      clear HQ;obtain rfl:=HQ2.out
      go_quiet (fail)
      go_wp2
      go_meet
      case rel=>exact⟨rfl,SoAt.drewN HSr5.out _,qi HGr5.out _⟩
    case rest=>
     obtain⟨rfl,HS5,HG5⟩:=hcut;clear HSr5 HGr5
     cases q with
     |true=>
      have hq:=HQ.out.symm;rw[Bool.and_eq_true,decide_eq_true_eq]at hq;have HPX:Hid (PE d0 a b (i+1) j0 dm p):=HP5.out.up hq.1 (by have h2:=hq.2;have h3:=HP5.out.piv;rw[<-h3];simpa using h2)
      clear HQ HP5;go_wp2
      go_roundw
      case rel=>exact⟨i+1,by go_num,HPX,HS5,HG5,by show _<=_;omega⟩
      case measure=>simp[intOf];omega
     |false=>
      have HX5:Hid (i<=j0->lt64 dm[a]! dm[i]! = true):=fun h=>by
       have:=HQ.out
       rw[decide_eq_true h]at this;simpa using this.symm
      clear HQ;generalize wc=w5 at *;go_wp2
      go_loopw [10] (fun sv wr=>∃j:Nat,sv=.int .i64 (j:Int)/\Hid (PE d0 a b i j dm p)/\Hid (SoAt wr g dm t)/\Hid (w.grownBy wr (some g))/\Hid (j<=j0)) (fun sv _=>(intOf sv).toNat)
      case atStart=>exact⟨j0,by first|rfl|go_num,HP5,HS5,HG5,nlr⟩
      case round=>
       obtain⟨j,rfl,HP6,HSr6,HGr6,HL6⟩:=hrel;have bL:=HL6.out;clear HP5 HS5 HG5;have b1:=HP6.out.ia;have b2:=HP6.out.ij;have b3:=HP6.out.jb;obtain⟨q,hq⟩:∃q:Bool,q=(decide (i<=j)&&lt64 dm[a]! dm[j]!):=⟨_,rfl⟩
       have HQ:=hiq hq;clear hq
       go_upto_region 15 with fail
       go_cut [59] (fun cv wx=>cv=.bool q/\Hid (SoAt wx g dm t)/\Hid (w.grownBy wx (some g)))
       case first=>
        by_cases hij:i<=j
        ·have hd:decide ((i:Int)<=(j:Int))=true:=decide_eq_true (by omega)
         have hi1:=fun w'=>qf g N c j w' (by omega)
         have hi2:=fun w'=>qf g N c a w' (by omega)
         have hsw:SoAt wr g dm t:=HSr6.out;have c3:=hsw.cell (i:=j) (by rw[HDm.out];omega)
         have c4:=hsw.cell (i:=a) (by rw[HDm.out];omega)
         have hless:=fun w'=>qo dm[a]! dm[j]! w'
         have HQ2:Hid (q=(lt64 dm[a]! dm[j]!)):=by
          show _=_
          rw[HQ.out,decide_eq_true hij];rfl
         clear hsw HQ;generalize lt64 dm[a]! dm[j]! = lv at *;generalize dm[j]! = xv at *;generalize dm[a]! = xa at *;obtain rfl:=HQ2.out
         go_quiet ((go_at_call 113;exact Calls.quiet_of_same (hless _)))
         go_wp2
         go_meet
         case rel=>exact⟨rfl,SoAt.drewN HSr6.out _,qi HGr6.out _⟩
        ·have hd:decide ((i:Int)<=(j:Int))=false:=decide_eq_false (by omega)
         have HQ2:Hid (q=false):=by
          show _=_
          rw[HQ.out,decide_eq_false hij];rfl
         clear HQ;obtain rfl:=HQ2.out
         go_quiet (fail)
         go_wp2
         go_meet
         case rel=>exact⟨rfl,SoAt.drewN HSr6.out _,qi HGr6.out _⟩
       case rest=>
        obtain⟨rfl,HS6,HG6⟩:=hcut;clear HSr6 HGr6
        cases q with
        |true=>
         have hq:=HQ.out.symm;rw[Bool.and_eq_true,decide_eq_true_eq]at hq;obtain⟨jm,hjm⟩:∃jm,j=jm+1:=⟨j-1,by omega⟩
         have hdec:IntKind.i64.wrap ((j:Int)-1)=(jm:Int):=by rw[IntKind.wrap_i64];omega
         have HPX:Hid (PE d0 a b i jm dm p):=by
          subst hjm;exact HP6.out.down hq.1 (by have h2:=hq.2;have h3:=HP6.out.piv;rw[<-h3];simpa using h2)
         have hlt:jm<j:=by omega
         clear HQ HP6 hjm hq;go_wp2
         go_roundw
         case rel=>exact⟨jm,rfl,HPX,HS6,HG6,by show _<=_;omega⟩
         case measure=>simp[intOf];omega
        |false=>
         have HX6:Hid (i<=j->lt64 dm[a]! dm[j]! = false):=fun h=>by
          have:=HQ.out
          rw[decide_eq_true h]at this;simpa using this.symm
         clear HQ;generalize wc=w6 at *;by_cases hij:i<=j
         ·have hij2:¬(j:Int)<(i:Int):=by omega
          obtain⟨jm,hjm⟩:∃jm,j=jm+1:=⟨j-1,by omega⟩
          have hdec:IntKind.i64.wrap ((j:Int)-1)=(jm:Int):=by rw[IntKind.wrap_i64];omega
          have ejm:(j:Int)-1=(jm:Int):=by omega
          have HPS:Hid (PE d0 a b (i+1) jm (swp dm i j) p):=by
           have h1:=HX5.out (by omega)
           have h2:=HX6.out hij;rw[HP6.out.piv]at h1 h2;subst hjm;exact HP6.out.swap HB.out hij h1 h2
          have hi0:i0<=i:=HL5.out;have hjj:jm<j0:=by omega
          clear HX5 HX6 HP6 hjm;go_wp2;have hi1:=fun w'=>qf g N c i w' (by omega)
          have hi2:=fun w'=>qf g N c j w' (by omega)
          have hsw:SoAt w6 g dm t:=HS6.out;have c3:=hsw.cell (i:=i) (by rw[HDm.out];omega)
          have c4:=hsw.cell (i:=j) (by rw[HDm.out];omega)
          have f3:=hsw.fz i;have f4:=hsw.fz j;have hswb:SoAt (w6.setCell ⟨g,i,none⟩ (.int .u64 dm[j]!)) g (dm.setIfInBounds i dm[j]!) t:=hsw.set (by rw[HDm.out];omega) _
          have f5:=hswb.fz j;have c5:=hswb.cell (i:=j) (by rw[Array.size_setIfInBounds,HDm.out];omega)
          have HSa7:Hid (SoAt ((w6.setCell ⟨g,i,none⟩ (.int .u64 dm[j]!)).setCell ⟨g,j,none⟩ (.int .u64 dm[i]!)) g (swp dm i j) t):=hsw.swap (by rw[HDm.out];omega) (by rw[HDm.out];omega)
          have HGa7:Hid (w.grownBy ((w6.setCell ⟨g,i,none⟩ (.int .u64 dm[j]!)).setCell ⟨g,j,none⟩ (.int .u64 dm[i]!)) (some g)):=ql (ql HG6.out _) _;have HD7:Hid ((swp dm i j).size=N):=by show _=_;rw[Go.Sort.size_swp];exact HDm.out
          clear hsw hswb;generalize (dm.setIfInBounds i dm[j]!)[j]! = ysw at *;generalize dm[i]! = xi at *;generalize dm[j]! = xj at *
          go_upto_region 15 with fail
          go_region
          all_goals
           have HS7:Hid (SoAt ((w6.setCell ⟨g,i,none⟩ (.int .u64 xj)).setCell ⟨g,j,none⟩ (.int .u64 xi)).drew g (swp dm i j) t):=SoAt.drew HSa7.out;have HG7:Hid (w.grownBy ((w6.setCell ⟨g,i,none⟩ (.int .u64 xj)).setCell ⟨g,j,none⟩ (.int .u64 xi)).drew (some g)):=qt HGa7.out;clear HSa7 HGa7 c3 c4 f3 f4 f5 c5 hi1 hi2;generalize ((w6.setCell ⟨g,i,none⟩ (.int .u64 xj)).setCell ⟨g,j,none⟩ (.int .u64 xi)).drew=w7 at *;generalize swp dm i j=d7 at *;go_wp2
           go_roundw
           case rel=>exact⟨i+1,jm,by go_num,rfl,d7,HD7,HPS,HS7,HG7⟩
           case measure=>simp[intOf];omega
         ·have HPT:Hid (EqParted d0 a b i p dm):=HP6.out.fin hij
          have hij':(j:Int)<(i:Int):=by omega
          clear HP6;go_wp2;go_ret
          exact⟨i,dm,rfl,HPT.out,HS6.out,HG6.out⟩
def CB (w:World) (sb s:Nat):Prop:=w.heap[sb]? =some (.cells #[.int .i64 (s:Int)] 3 (0,0))
theorem CB.ne{w:World}{g sb s:Nat}{d:Array Int}{t:List Int}(h:CB w sb s)(k:SoAt w g d t):g≠sb:=fun e=>by
 unfold CB at h;unfold SoAt at k;rw[<-e,k]at h;injection h with h;injection h with _ h _;exact absurd h (by decide)
theorem SoAt.grown{w w':World}{g sb:Nat}{d:Array Int}{t:List Int}(h:SoAt w g d t)(hg:w.grownBy w' (some sb))(hne:g≠sb):SoAt w' g d t:=(hg.block g h.lt (fun e=>hne (by injection e))).trans h
theorem q2P(g c x y sb s:Nat)(d:Array Int)(t:List Int)(w:World)(h:SoAt w g d t)(hc:CB w sb s)(hx:x<d.size)(hy:y<d.size)(hs:s<=1000):
  Calls Tryz.prog 156 #[.slice (some ⟨g,0,none⟩) d.size c,.int .i64 (x:Int),.int .i64 (y:Int),.pointer (some ⟨sb,0,none⟩)] w fun e w'=>
   ∃x' y' s':Nat,e=.returned (.tuple #[.int .i64 (x':Int),.int .i64 (y':Int)])/\(x'=x/\y'=y\/x'=y/\y'=x)/\s'<=s+1/\CB w' sb s'/\w.grownBy w' (some sb):=by
 have hi1:=fun w'=>qf g d.size c x w' hx
 have hi2:=fun w'=>qf g d.size c y w' hy
 have c1:=h.cell hx;have c2:=h.cell hy;have hless:=fun w'=>qo d[y]! d[x]! w'
 have HC:=hiq hc;clear h hc;generalize d.size=N at *;generalize d[x]! = vx at *;generalize d[y]! = vy at *
 cases hl:lt64 vy vx with
 |false=>
  rw[hl]at hless;clear hl;go_enter Tryz.func156,Tryz.ntmps156
  go_upto_region 15 with fail
  go_quiet ((go_at_call 113;exact Calls.quiet_of_same (hless _)))
  go_wp2;go_ret2
  exact⟨x,y,s,rfl,Or.inl ⟨rfl,rfl⟩,by omega,(below_drewN (Below.refl w.heap.size w) _).block sb (aes HC.out).1 |>.trans HC.out,qi (World.grownBy.refl _ _) _⟩
 |true=>
  rw[hl]at hless;clear hl;go_enter Tryz.func156,Tryz.ntmps156
  go_upto_region 15 with fail
  go_quiet ((go_at_call 113;exact Calls.quiet_of_same (hless _)))
  have hcb:CB (w.drewN nq) sb s:=(below_drewN (Below.refl w.heap.size w) _).block sb (aes HC.out).1 |>.trans HC.out
  have q0:(w.drewN nq).cell? ⟨sb,0,none⟩=some (.int .i64 (s:Int)):=qb hcb 0;have z0:(w.drewN nq).frozen? ⟨sb,0,none⟩=false:=frozen_of_row _ sb 0 _ _ hcb;have wS:IntKind.i64.wrap ((s:Int)+1)=((s+1:Nat):Int):=by rw[IntKind.wrap_i64];omega
  have HC2:Hid (CB ((w.drewN nq).setCell ⟨sb,0,none⟩ (.int .i64 ((s+1:Nat):Int))) sb (s+1)):=by
   show CB _ _ _
   unfold CB;rw[heap_setCell_same _ sb 0 _ _ _ hcb];rfl
  have HG2:Hid (w.grownBy ((w.drewN nq).setCell ⟨sb,0,none⟩ (.int .i64 ((s+1:Nat):Int))) (some sb)):=ql (qi (World.grownBy.refl _ _) _) _;obtain⟨S1,hS1⟩:∃S1,s+1=S1:=⟨_,rfl⟩
  rw[hS1]at wS HC2 HG2;have HS1:=hiq hS1;clear hcb c1 c2 hS1;have eS:(s:Int)+1=(S1:Int):=by have:=HS1.out;omega
  go_wp2;go_ret2
  exact⟨y,x,S1,rfl,Or.inr ⟨rfl,rfl⟩,by have:=HS1.out;omega,HC2.out,HG2.out⟩
theorem q2N(g c x y z sb s:Nat)(d:Array Int)(t:List Int)(w:World)(h:SoAt w g d t)(hc:CB w sb s)(hx:x<d.size)(hy:y<d.size)(hz:z<d.size)(hs:s<=100):
  Calls Tryz.prog 141 #[.slice (some ⟨g,0,none⟩) d.size c,.int .i64 (x:Int),.int .i64 (y:Int),.int .i64 (z:Int),.pointer (some ⟨sb,0,none⟩)] w fun e w'=>
   ∃m s':Nat,e=.returned (.int .i64 (m:Int))/\(m=x\/m=y\/m=z)/\s'<=s+3/\CB w' sb s'/\w.grownBy w' (some sb):=by
 have hne:=hc.ne h;have j1:=q2P g c x y sb s d t w h hc hx hy (by omega)
 have HS:Hid _:=h;go_enter Tryz.func141,Tryz.ntmps141
 go_wp2_with fail
 refine j1.mono ?_
 rintro e w1 ⟨x1,y1,s1,rfl,hp1,hs1,hc1,hg1⟩
 have j2:=q2P g c y1 z sb s1 d t w1 (SoAt.grown HS.out hg1 hne) hc1 (by omega) hz (by omega)
 clear j1
 go_wp2_with fail
 refine j2.mono ?_
 rintro e w2 ⟨y2,z2,s2,rfl,hp2,hs2,hc2,hg2⟩
 have hg12:=qA hg1 hg2;have j3:=q2P g c x1 y2 sb s2 d t w2 (SoAt.grown HS.out hg12 hne) hc2 (by omega) (by omega) (by omega)
 clear j2
 go_wp2_with fail
 refine j3.mono ?_
 rintro e w3 ⟨x3,y3,s3,rfl,hp3,hs3,hc3,hg3⟩
 have HF:Hid (CB w3 sb s3/\w.grownBy w3 (some sb)/\(y3=x\/y3=y\/y3=z)/\s3<=s+3):=⟨hc3,qA hg12 hg3,by omega,by omega⟩
 clear j3 hc1 hc2 hc3 hg1 hg2 hg3 hg12 hp1 hp2 hp3 hs1 hs2 hs3;go_wp2;go_ret
 exact⟨y3,s3,rfl,HF.out.2.2.1,HF.out.2.2.2,HF.out.1,HF.out.2.1⟩
theorem q2e(g c x sb s:Nat)(d:Array Int)(t:List Int)(w:World)(h:SoAt w g d t)(hc:CB w sb s)(h1:1<=x)(hx:x+1<d.size)(hs:s<=100)(hn:d.size<=1000000):
  Calls Tryz.prog 140 #[.slice (some ⟨g,0,none⟩) d.size c,.int .i64 (x:Int),.pointer (some ⟨sb,0,none⟩)] w fun e w'=>
   ∃m s':Nat,e=.returned (.int .i64 (m:Int))/\x-1<=m/\m<=x+1/\s'<=s+3/\CB w' sb s'/\w.grownBy w' (some sb):=by
 obtain⟨x0,hx0⟩:∃x0,x0=x-1:=⟨_,rfl⟩
 obtain⟨x1,hx1⟩:∃x1,x1=x+1:=⟨_,rfl⟩
 have j1:=q2N g c x0 x x1 sb s d t w h hc (by omega) (by omega) (by omega) hs
 have w0:IntKind.i64.wrap ((x:Int)-1)=(x0:Int):=by rw[IntKind.wrap_i64];omega
 have e0:(x:Int)-1=(x0:Int):=by omega
 have w1:IntKind.i64.wrap ((x:Int)+1)=(x1:Int):=by rw[IntKind.wrap_i64];omega
 have e1:(x:Int)+1=(x1:Int):=by omega
 have HX:Hid (x0=x-1/\x1=x+1):=⟨hx0,hx1⟩;clear h hc hx0 hx1;go_enter Tryz.func140,Tryz.ntmps140
 go_wp2_with fail
 refine j1.mono ?_
 rintro e w2 ⟨m,s',rfl,hm,hs',hc',hg'⟩
 have HF:Hid (CB w2 sb s'/\w.grownBy w2 (some sb)/\x-1<=m/\m<=x+1):=⟨hc',hg',by have:=HX.out;omega,by have:=HX.out;omega⟩
 clear j1 hc' hg' hm;go_wp2;go_ret
 exact⟨m,s',rfl,HF.out.2.2.1,HF.out.2.2.2,hs',HF.out.1,HF.out.2.1⟩
theorem qcA{w w':World}{o:Obj}(h:(w.alloc o).grownBy w' (some w.heap.size)):w.grownBy w' none:=by
 have hb:=qc w o;exact⟨h.os.trans hb.os,h.tape.trans hb.tape,h.output.trans hb.output,Nat.le_trans hb.size h.size,fun j hj _=>(h.block j (Nat.lt_of_lt_of_le hj hb.size) (fun e=>by injection e with e;omega)).trans (hb.block j hj)⟩
theorem SoAt.grown0{w w':World}{g:Nat}{d:Array Int}{t:List Int}(h:SoAt w g d t)(hg:w.grownBy w' none):SoAt w' g d t:=(hg.block g h.lt (fun e=>by cases e)).trans h
theorem q7F(g c a b:Nat)(d:Array Int)(t:List Int)(w:World)(h:SoAt w g d t)(hab:a+12<b)(hb:b<=d.size)(hn:d.size<=1000000):
  Calls Tryz.prog 110 #[.slice (some ⟨g,0,none⟩) d.size c,.int .i64 (a:Int),.int .i64 (b:Int)] w fun e w'=>
   ∃m k:Nat,e=.returned (.tuple #[.int .i64 (m:Int),.int .i64 (k:Int)])/\a<=m/\m<b/\k<=2/\SoAt w' g d t/\w.grownBy w' none:=by
 obtain⟨L,hL⟩:∃L,L=b-a:=⟨_,rfl⟩
 obtain⟨T,hT⟩:∃T,T=L / 4:=⟨_,rfl⟩
 obtain⟨T2,hT2⟩:∃T2,T2=T*2:=⟨_,rfl⟩
 obtain⟨T3,hT3⟩:∃T3,T3=T*3:=⟨_,rfl⟩
 obtain⟨I,hI⟩:∃I,I=a+T:=⟨_,rfl⟩
 obtain⟨J,hJ⟩:∃J,J=a+T2:=⟨_,rfl⟩
 obtain⟨K,hK⟩:∃K,K=a+T3:=⟨_,rfl⟩
 have wL:IntKind.i64.wrap ((b:Int)-(a:Int))=(L:Int):=by rw[IntKind.wrap_i64];omega
 have eL:(b:Int)-(a:Int)=(L:Int):=by omega
 have tT:((L:Int)).tdiv 4=(T:Int):=by rw[Int.tdiv_eq_ediv_of_nonneg (by omega)];omega
 have wT2:IntKind.i64.wrap ((T:Int)*2)=(T2:Int):=by rw[IntKind.wrap_i64];omega
 have eT2:(T:Int)*2=(T2:Int):=by omega
 have wT3:IntKind.i64.wrap ((T:Int)*3)=(T3:Int):=by rw[IntKind.wrap_i64];omega
 have eT3:(T:Int)*3=(T3:Int):=by omega
 have wI:IntKind.i64.wrap ((a:Int)+(T:Int))=(I:Int):=by rw[IntKind.wrap_i64];omega
 have eI:(a:Int)+(T:Int)=(I:Int):=by omega
 have wJ:IntKind.i64.wrap ((a:Int)+(T2:Int))=(J:Int):=by rw[IntKind.wrap_i64];omega
 have eJ:(a:Int)+(T2:Int)=(J:Int):=by omega
 have wK:IntKind.i64.wrap ((a:Int)+(T3:Int))=(K:Int):=by rw[IntKind.wrap_i64];omega
 have eK:(a:Int)+(T3:Int)=(K:Int):=by omega
 have h8:((8:Int)<=(L:Int)):=by omega
 have HIJ:Hid (a<=I/\a<=J/\a<=K/\K+1<b/\J+1<b/\I+1<b/\(50<=L->a+1<=I/\a+1<=J/\a+1<=K)):=by
  refine⟨by omega,by omega,by omega,by omega,by omega,by omega,fun _=>⟨by omega,by omega,by omega⟩⟩
 have hb1:=qc w (.cells #[.int .i64 0] 3);have hs1:SoAt (w.alloc (.cells #[.int .i64 0] 3)) g d t:=(hb1.block g h.lt).trans h;have hc1:CB (w.alloc (.cells #[.int .i64 0] 3)) w.heap.size 0:=(mha w _).1;have hne:=hc1.ne hs1;have HS0:Hid _:=h;have HF:Hid (∀(w':World) (m k:Nat),(w.alloc (.cells #[.int .i64 0] 3)).grownBy w' (some w.heap.size)->a<=m->m<b->k<=2->∃m' k':Nat,Ending.returned (.tuple #[.int .i64 (m:Int),.int .i64 (k:Int)])=.returned (.tuple #[.int .i64 (m':Int),.int .i64 (k':Int)])/\a<=m'/\m'<b/\k'<=2/\SoAt w' g d t/\w.grownBy w' none):=fun w' m k hg h1 h2 h3=>⟨m,k,rfl,h1,h2,h3,h.grown0 (qcA hg),qcA hg⟩
 clear hL hT hT2 hT3 hI hJ hK;have HIJ1:=HIJ.out;by_cases h50:50<=L
 ·have h50':((50:Int)<=(L:Int)):=by omega
  have j1:=q2e g c I w.heap.size 0 d t _ hs1 hc1 (by omega) (by omega) (by omega) hn
  have HS1:=hiq hs1;clear hs1 hc1 hb1 h;go_enter Tryz.func110,Tryz.ntmps110
  go_wp2_with fail
  generalize w.alloc (.cells #[.int .i64 0] 3)=w1 at *;refine j1.mono ?_
  rintro e w2 ⟨m2,s2,rfl,p2,q2,hs2,hc2,hg2⟩
  have j2:=q2e g c J w.heap.size s2 d t w2 (SoAt.grown HS1.out hg2 hne) hc2 (by omega) (by omega) (by omega) hn
  clear j1
  go_wp2_with fail
  refine j2.mono ?_
  rintro e w3 ⟨m3,s3,rfl,p3,q3,hs3,hc3,hg3⟩
  have hg23:=qA hg2 hg3;have j3:=q2e g c K w.heap.size s3 d t w3 (SoAt.grown HS1.out hg23 hne) hc3 (by omega) (by omega) (by omega) hn
  clear j2
  go_wp2_with fail
  refine j3.mono ?_
  rintro e w4 ⟨m4,s4,rfl,p4,q4,hs4,hc4,hg4⟩
  have hg24:=qA hg23 hg4;have j4:=q2N g c m2 m3 m4 w.heap.size s4 d t w4 (SoAt.grown HS1.out hg24 hne) hc4 (by omega) (by omega) (by omega) (by omega)
  clear j3
  go_wp2_with fail
  refine j4.mono ?_
  rintro e w5 ⟨m5,s5,rfl,p5,hs5,hc5,hg5⟩
  have HZ:Hid (CB w5 w.heap.size s5/\w1.grownBy w5 (some w.heap.size)/\a<=m5/\m5<b):=⟨hc5,qA hg24 hg5,by omega,by omega⟩
  clear j4 hc2 hc3 hc4 hc5 hg2 hg3 hg4 hg5 hg23 hg24 p2 p3 p4 p5 q2 q3 q4;have q0:w5.cell? ⟨w.heap.size,0,none⟩=some (.int .i64 (s5:Int)):=qb HZ.out.1 0;by_cases z0:s5=0
  ·obtain rfl:=z0
   go_wp2;go_ret2
   exact HF.out w5 m5 1 HZ.out.2.1 HZ.out.2.2.1 HZ.out.2.2.2 (by omega)
  ·have z0':((s5:Int)==0)=false:=by rw[bqn];omega
   by_cases z1:s5=12
   ·obtain rfl:=z1
    go_wp2;go_ret2
    exact HF.out w5 m5 2 HZ.out.2.1 HZ.out.2.2.1 HZ.out.2.2.2 (by omega)
   ·have z1':((s5:Int)==12)=false:=by rw[bqn];omega
    go_wp2;go_ret2
    exact HF.out w5 m5 0 HZ.out.2.1 HZ.out.2.2.1 HZ.out.2.2.2 (by omega)
 ·have h50':¬((50:Int)<=(L:Int)):=by omega
  have j4:=q2N g c I J K w.heap.size 0 d t _ hs1 hc1 (by omega) (by omega) (by omega) (by omega)
  clear hs1 hc1 hb1 h;go_enter Tryz.func110,Tryz.ntmps110
  go_wp2_with fail
  generalize w.alloc (.cells #[.int .i64 0] 3)=w1 at *;refine j4.mono ?_
  rintro e w5 ⟨m5,s5,rfl,p5,hs5,hc5,hg5⟩
  have HZ:Hid (CB w5 w.heap.size s5/\w1.grownBy w5 (some w.heap.size)/\a<=m5/\m5<b):=⟨hc5,hg5,by omega,by omega⟩
  clear j4 hc5 hg5 p5;have q0:w5.cell? ⟨w.heap.size,0,none⟩=some (.int .i64 (s5:Int)):=qb HZ.out.1 0;by_cases z0:s5=0
  ·obtain rfl:=z0
   go_wp2;go_ret2
   exact HF.out w5 m5 1 HZ.out.2.1 HZ.out.2.2.1 HZ.out.2.2.2 (by omega)
  ·have z0':((s5:Int)==0)=false:=by rw[bqn];omega
   by_cases z1:s5=12
   ·obtain rfl:=z1
    go_wp2;go_ret2
    exact HF.out w5 m5 2 HZ.out.2.1 HZ.out.2.2.1 HZ.out.2.2.2 (by omega)
   ·have z1':((s5:Int)==12)=false:=by rw[bqn];omega
    go_wp2;go_ret2
    exact HF.out w5 m5 0 HZ.out.2.1 HZ.out.2.2.1 HZ.out.2.2.2 (by omega)
def dnD (a i:Nat) (d:Array Int):Array Int:=if i-a ≥ 2 then Go.Sort.shiftDown lt64 (i-1) d else d
def upD (b i:Nat) (d:Array Int):Array Int:=if b-i ≥ 2 then Go.Sort.shiftUp lt64 b (i+1) d else d
theorem qfO(a b s i:Nat)(d:Array Int):Go.Sort.partialIns lt64 a b (s+1) i d=if Go.Sort.scanSorted lt64 d b i=b then (d,true) else if b-a<50 then (d,false) else Go.Sort.partialIns lt64 a b s (Go.Sort.scanSorted lt64 d b i) (upD b (Go.Sort.scanSorted lt64 d b i) (dnD a (Go.Sort.scanSorted lt64 d b i) (swp d (Go.Sort.scanSorted lt64 d b i) (Go.Sort.scanSorted lt64 d b i-1)))):=rfl
theorem qh3{b i:Nat}{d:Array Int}(h:i<b)(hl:lt64 d[i]! d[i-1]! = false):Go.Sort.scanSorted lt64 d b i=Go.Sort.scanSorted lt64 d b (i+1):=by
 conv=>lhs;unfold Go.Sort.scanSorted
 rw[if_pos];simp[h,hl]
theorem qiq{b i:Nat}{d:Array Int}(h:i<b->lt64 d[i]! d[i-1]! = true):Go.Sort.scanSorted lt64 d b i=i:=by
 unfold Go.Sort.scanSorted;rw[if_neg];intro hc;rw[Bool.and_eq_true,decide_eq_true_eq]at hc;rw[h hc.1]at hc;simp at hc
theorem dn_no{j:Nat}{d:Array Int}(h:lt64 d[j+1]! d[j]! = false):Go.Sort.shiftDown lt64 (j+1) d=d:=by
 unfold Go.Sort.shiftDown;rw[h];rfl
theorem qiI{j:Nat}{d:Array Int}(h:lt64 d[j+1]! d[j]! = true):Go.Sort.shiftDown lt64 (j+1) d=Go.Sort.shiftDown lt64 j (swp d (j+1) j):=by
 conv=>lhs;unfold Go.Sort.shiftDown
 rw[h];rfl
theorem qd1{b j:Nat}{d:Array Int}(h:¬j<b):Go.Sort.shiftUp lt64 b j d=d:=by
 unfold Go.Sort.shiftUp;rw[if_neg h]
theorem up_no{b j:Nat}{d:Array Int}(hj:j<b)(h:lt64 d[j]! d[j-1]! = false):Go.Sort.shiftUp lt64 b j d=d:=by
 unfold Go.Sort.shiftUp;rw[if_pos hj,h];rfl
theorem qd2{b j:Nat}{d:Array Int}(hj:j<b)(h:lt64 d[j]! d[j-1]! = true):Go.Sort.shiftUp lt64 b j d=Go.Sort.shiftUp lt64 b (j+1) (swp d j (j-1)):=by
 conv=>lhs;unfold Go.Sort.shiftUp
 rw[if_pos hj,h];rfl
theorem qbg(g c a b:Nat)(d:Array Int)(t:List Int)(w:World)(h:SoAt w g d t)(hab:a<b)(hb:b<=d.size)(hn:d.size<=1000000):
  Calls Tryz.prog 112 #[.slice (some ⟨g,0,none⟩) d.size c,.int .i64 (a:Int),.int .i64 (b:Int)] w fun e w'=>e=.returned (.bool (Go.Sort.partialInsertionSort lt64 d a b).2)/\SoAt w' g (Go.Sort.partialInsertionSort lt64 d a b).1 t/\w.grownBy w' (some g):=by
 obtain⟨N,hN⟩:∃N,d.size=N:=⟨_,rfl⟩
 obtain⟨R,hR⟩:∃R,Go.Sort.partialInsertionSort lt64 d a b=R:=⟨_,rfl⟩
 have HI0:=hiq hR;have HS0:=hiq h;have HD0:=hiq hN;have HG0:Hid (w.grownBy w (some g)):=World.grownBy.refl _ _;rw[hN]at hb hn ⊢;rw[hR];obtain⟨R1,R2⟩:=R;dsimp only
 clear h hN hR;go_enter Tryz.func112,Tryz.ntmps112
 go_wp2
 go_loopw [7,8] (fun iv kv wr=>∃i k:Nat,a+1<=i/\i<=b/\k<=5/\iv=.int .i64 (i:Int)/\kv=.int .i64 (k:Int)/\∃dk:Array Int,Hid (dk.size=N)/\Hid (SoAt wr g dk t)/\Hid (Go.Sort.partialIns lt64 a b (5-k) i dk=(R1,R2))/\Hid (w.grownBy wr (some g))) (fun _ kv _=>5-(intOf kv).toNat)
 case atStart=>exact⟨a+1,0,nlr,by omega,by omega,by go_num,rfl,d,HD0,HS0,HI0,HG0⟩
 case round=>
  obtain⟨i0,k,hi1,hi2,hk,rfl,rfl,dk,HD,HS,HI,HG⟩:=hrel;clear HD0 HS0 HI0 HG0;by_cases hk5:k<5
  ·have hk5':(k:Int)<5:=by omega
   obtain⟨I,hI⟩:∃I,Go.Sort.scanSorted lt64 dk b i0=I:=⟨_,rfl⟩
   have HST:Hid ((if I=b then (dk,true) else if b-a<50 then (dk,false) else Go.Sort.partialIns lt64 a b (5-(k+1)) I (upD b I (dnD a I (swp dk I (I-1)))))=(R1,R2)):=by
    have h0:=HI.out;rw[show 5-k=(5-(k+1))+1 by omega,qfO,hI]at h0
    exact h0
   have HSC:=hiq hI;clear hI HI;go_wp2
   go_loopw [7] (fun sv wr=>∃i:Nat,i0<=i/\i<=b/\sv=.int .i64 (i:Int)/\Hid (Go.Sort.scanSorted lt64 dk b i=I)/\Hid (SoAt wr g dk t)/\Hid (w.grownBy wr (some g))) (fun sv _=>N+1-(intOf sv).toNat)
   case atStart=>exact⟨i0,nlr,hi2,rfl,HSC,HS,HG⟩
   case round=>
    obtain⟨i,ha1,ha2,rfl,HSC2,HSr,HGr⟩:=hrel;clear HSC HS HG;obtain⟨im,him⟩:∃im,im=i-1:=⟨_,rfl⟩
    have wim:IntKind.i64.wrap ((i:Int)-1)=(im:Int):=by rw[IntKind.wrap_i64];omega
    have eim:(i:Int)-1=(im:Int):=by omega
    have HIM:=hiq him;have hxm:im<i:=by omega
    clear him;obtain⟨q,hq⟩:∃q:Bool,q=(decide (i<b) && !lt64 dk[i]! dk[im]!):=⟨_,rfl⟩
    have HQ:=hiq hq;clear hq
    go_upto_region 15 with fail
    go_cut [32] (fun cv wx=>cv=.bool q/\Hid (SoAt wx g dk t)/\Hid (w.grownBy wx (some g)))
    case first=>
     by_cases hij:i<b
     ·have hd:decide ((i:Int)<(b:Int))=true:=decide_eq_true (by omega)
      have j1:=fun w'=>qf g N c i w' (by omega)
      have j2:=fun w'=>qf g N c im w' (by omega)
      have hsw:SoAt wr g dk t:=HSr.out;have c3:=hsw.cell (i:=i) (by rw[HD.out];omega)
      have c4:=hsw.cell (i:=im) (by rw[HD.out];omega)
      have hless:=fun w'=>qo dk[i]! dk[im]! w'
      have HQ2:Hid (q=!(lt64 dk[i]! dk[im]!)):=by
       show _=_
       rw[HQ.out,decide_eq_true hij];rfl
      clear hsw HQ;generalize lt64 dk[i]! dk[im]! = lv at *;generalize dk[i]! = xv at *;generalize dk[im]! = xa at *;obtain rfl:=HQ2.out
      go_quiet ((go_at_call 113;exact Calls.quiet_of_same (hless _)))
      go_wp2
      go_meet
      case rel=>exact⟨rfl,SoAt.drewN HSr.out _,qi HGr.out _⟩
     ·have hd:decide ((i:Int)<(b:Int))=false:=decide_eq_false (by omega)
      have HQ2:Hid (q=false):=by
       show _=_
       rw[HQ.out,decide_eq_false hij];rfl
      clear HQ;obtain rfl:=HQ2.out
      go_quiet (fail)
      go_wp2
      go_meet
      case rel=>exact⟨rfl,SoAt.drewN HSr.out _,qi HGr.out _⟩
    case rest=>
     obtain⟨rfl,HS5,HG5⟩:=hcut;clear HSr HGr
     cases q with
     |true=>
      have hq:=HQ.out.symm;rw[Bool.and_eq_true,decide_eq_true_eq]at hq
      have HPX:Hid (Go.Sort.scanSorted lt64 dk b (i+1)=I):=by
       have h1:=HSC2.out;rw[qh3 hq.1 (by rw[<-HIM.out];simpa using hq.2)]at h1
       exact h1
      clear HQ HSC2;go_wp2
      go_roundw
      case rel=>exact⟨i+1,by omega,by omega,by go_num,HPX,HS5,HG5⟩
      case measure=>simp[intOf];omega
     |false=>
      have HII:Hid (i=I):=by
       have h1:=HSC2.out
       rw[qiq (fun h=>by
        have:=HQ.out
        rw[decide_eq_true h]at this;rw[<-HIM.out];simpa using this.symm)]at h1
       exact h1
      clear HQ HSC2;obtain rfl:=HII.out
      clear HII;generalize wc=w5 at *;by_cases hib:i=b
      ·have hib':((i:Int)==(b:Int))=true:=by rw[beq_iff_eq];omega
       have HR:Hid (dk=R1/\true=R2):=by
        have h0:=HST.out;rw[if_pos hib]at h0;injection h0 with h1 h2;exact⟨h1,h2⟩
       clear HST hib;go_wp2;go_ret
       obtain⟨rfl,rfl⟩:=HR.out;exact⟨rfl,HS5.out,HG5.out⟩
      ·have hib':((i:Int)==(b:Int))=false:=by rw[bqn];omega
       obtain⟨L,hL⟩:∃L,L=b-a:=⟨_,rfl⟩
       have wL:IntKind.i64.wrap ((b:Int)-(a:Int))=(L:Int):=by rw[IntKind.wrap_i64];omega
       have eL:(b:Int)-(a:Int)=(L:Int):=by omega
       by_cases h50:L<50
       ·have h50':(L:Int)<50:=by omega
        have HR:Hid (dk=R1/\false=R2):=by
         have h0:=HST.out;rw[if_neg hib,if_pos (by omega)]at h0
         injection h0 with h1 h2;exact⟨h1,h2⟩
        clear HST hL;go_wp2;go_ret
        obtain⟨rfl,rfl⟩:=HR.out;exact⟨rfl,HS5.out,HG5.out⟩
       ·have h50':¬(L:Int)<50:=by omega
        have HST2:Hid (Go.Sort.partialIns lt64 a b (5-(k+1)) i (upD b i (dnD a i (swp dk i im)))=(R1,R2)):=by
         have h0:=HST.out;rw[if_neg hib,if_neg (by omega),<-HIM.out]at h0
         exact h0
        clear HST hL;go_wp2;have hi1:=fun w'=>qf g N c i w' (by omega)
        have hi2:=fun w'=>qf g N c im w' (by omega)
        have hsw:SoAt w5 g dk t:=HS5.out;have c3:=hsw.cell (i:=i) (by rw[HD.out];omega)
        have c4:=hsw.cell (i:=im) (by rw[HD.out];omega)
        have f3:=hsw.fz i;have f4:=hsw.fz im;have hswb:SoAt (w5.setCell ⟨g,i,none⟩ (.int .u64 dk[im]!)) g (dk.setIfInBounds i dk[im]!) t:=hsw.set (by rw[HD.out];omega) _
        have f5:=hswb.fz im;have c5:=hswb.cell (i:=im) (by rw[Array.size_setIfInBounds,HD.out];omega)
        have HSa6:Hid (SoAt ((w5.setCell ⟨g,i,none⟩ (.int .u64 dk[im]!)).setCell ⟨g,im,none⟩ (.int .u64 dk[i]!)) g (swp dk i im) t):=hsw.swap (by rw[HD.out];omega) (by rw[HD.out];omega)
        have HGa6:Hid (w.grownBy ((w5.setCell ⟨g,i,none⟩ (.int .u64 dk[im]!)).setCell ⟨g,im,none⟩ (.int .u64 dk[i]!)) (some g)):=ql (ql HG5.out _) _;have HD6:Hid ((swp dk i im).size=N):=by show _=_;rw[Go.Sort.size_swp];exact HD.out
        clear hsw hswb;generalize (dk.setIfInBounds i dk[im]!)[im]! = ysw at *;generalize dk[i]! = xi at *;generalize dk[im]! = xj at *
        go_upto_region 15 with fail
        go_region
        all_goals
         have HS6:Hid (SoAt ((w5.setCell ⟨g,i,none⟩ (.int .u64 xj)).setCell ⟨g,im,none⟩ (.int .u64 xi)).drew g (swp dk i im) t):=SoAt.drew HSa6.out;have HG6:Hid (w.grownBy ((w5.setCell ⟨g,i,none⟩ (.int .u64 xj)).setCell ⟨g,im,none⟩ (.int .u64 xi)).drew (some g)):=qt HGa6.out;clear HSa6 HGa6 c3 c4 f3 f4 f5 c5 hi1 hi2;generalize ((w5.setCell ⟨g,i,none⟩ (.int .u64 xj)).setCell ⟨g,im,none⟩ (.int .u64 xi)).drew=w6 at *;generalize swp dk i im=d6 at *;obtain⟨Ld,hLd⟩:∃Ld,Ld=i-a:=⟨_,rfl⟩
         have wLd:IntKind.i64.wrap ((i:Int)-(a:Int))=(Ld:Int):=by rw[IntKind.wrap_i64];omega
         have eLd:(i:Int)-(a:Int)=(Ld:Int):=by omega
         by_cases hd2:2<=Ld
         ·have hd2':(2:Int)<=(Ld:Int):=by omega
          have HDN:Hid (Go.Sort.partialIns lt64 a b (5-(k+1)) i (upD b i (Go.Sort.shiftDown lt64 im d6))=(R1,R2)):=by
           have h0:=HST2.out;unfold dnD at h0;rw[if_pos (by omega),<-HIM.out]at h0
           exact h0
          clear HST2 hLd;go_wp2;clear wLd eLd
          go_loopw [9] (fun sv wr=>∃j:Nat,j<=im/\sv=.int .i64 (j:Int)/\∃dj:Array Int,Hid (dj.size=N)/\Hid (SoAt wr g dj t)/\Hid (Go.Sort.partialIns lt64 a b (5-(k+1)) i (upD b i (Go.Sort.shiftDown lt64 j dj))=(R1,R2))/\Hid (w.grownBy wr (some g))) (fun sv _=>(intOf sv).toNat)
          case atStart=>exact⟨im,nlr,by first|rfl|go_num,d6,HD6,HS6,HDN,HG6⟩
          case round=>
           obtain⟨j,hj1,rfl,dj,HDj9,HSj9,HTj9,HGj9⟩:=hrel;clear HD6 HS6 HDN HG6;by_cases hjc:1<=j
           ·have hjc':(1:Int)<=(j:Int):=by omega
            obtain⟨jm,hjm⟩:∃jm,j=jm+1:=⟨j-1,by omega⟩
            have wjm:IntKind.i64.wrap ((j:Int)-1)=(jm:Int):=by rw[IntKind.wrap_i64];omega
            have ejm:(j:Int)-1=(jm:Int):=by omega
            have hjl:jm<j:=by omega
            have HJM:=hiq hjm;clear hjm;have j1:=fun w'=>qf g N c j w' (by omega)
            have j2:=fun w'=>qf g N c jm w' (by omega)
            have hsw:SoAt wr g dj t:=HSj9.out;have c6:=hsw.cell (i:=j) (by rw[HDj9.out];omega)
            have c7:=hsw.cell (i:=jm) (by rw[HDj9.out];omega)
            have hless:=fun w'=>qo dj[j]! dj[jm]! w'
            cases hl:lt64 dj[j]! dj[jm]! with
            |false=>
             rw[hl]at hless
             have HT9:Hid (Go.Sort.partialIns lt64 a b (5-(k+1)) i (upD b i dj)=(R1,R2)):=by
              have h0:=HTj9.out;rw[show j=jm+1 from HJM.out,dn_no (by rw[<-HJM.out];exact hl)]at h0
              exact h0
             clear hl hsw HTj9;go_wp2
             go_upto_region 15 with fail
             go_quiet ((go_at_call 113;exact Calls.quiet_of_same (hless _)))
             have HSb9:Hid (SoAt (wr.drewN nq) g dj t):=SoAt.drewN HSj9.out nq;have HGb9:Hid (w.grownBy (wr.drewN nq) (some g)):=qi HGj9.out nq;clear HSj9 HGj9 hless c6 c7 j1 j2 wjm ejm;generalize wr.drewN nq=wb9 at *;obtain⟨Lu,hLu⟩:∃Lu,Lu=b-i:=⟨_,rfl⟩
             have wLu:IntKind.i64.wrap ((b:Int)-(i:Int))=(Lu:Int):=by rw[IntKind.wrap_i64];omega
             have eLu:(b:Int)-(i:Int)=(Lu:Int):=by omega
             by_cases hu2:2<=Lu
             ·have hu2':(2:Int)<=(Lu:Int):=by omega
              have HU11:Hid (Go.Sort.partialIns lt64 a b (5-(k+1)) i (Go.Sort.shiftUp lt64 b (i+1) dj)=(R1,R2)):=by
               have h0:=HT9.out;unfold upD at h0;rw[if_pos (by omega)]at h0
               exact h0
              clear HT9 hLu;go_wp2;clear wLu eLu
              go_loopw [10] (fun sv wr=>∃j:Nat,i+1<=j/\j<=b/\sv=.int .i64 (j:Int)/\∃dj:Array Int,Hid (dj.size=N)/\Hid (SoAt wr g dj t)/\Hid (Go.Sort.partialIns lt64 a b (5-(k+1)) i (Go.Sort.shiftUp lt64 b j dj)=(R1,R2))/\Hid (w.grownBy wr (some g))) (fun sv _=>N+1-(intOf sv).toNat)
              case atStart=>exact⟨i+1,nlr,by omega,by first|rfl|go_num,dj,HDj9,HSb9,HU11,HGb9⟩
              case round=>
               obtain⟨j,hj1,hj2,rfl,dj,HDj11,HSj11,HTj11,HGj11⟩:=hrel;clear HDj9 HSb9 HU11 HGb9;by_cases hjc:j<b
               ·have hjc':(j:Int)<(b:Int):=by omega
                obtain⟨jm,hjm⟩:∃jm,j=jm+1:=⟨j-1,by omega⟩
                have wjm:IntKind.i64.wrap ((j:Int)-1)=(jm:Int):=by rw[IntKind.wrap_i64];omega
                have ejm:(j:Int)-1=(jm:Int):=by omega
                have hjl:jm<j:=by omega
                have HJM:=hiq hjm;clear hjm;have j1:=fun w'=>qf g N c j w' (by omega)
                have j2:=fun w'=>qf g N c jm w' (by omega)
                have hsw:SoAt wr g dj t:=HSj11.out;have c6:=hsw.cell (i:=j) (by rw[HDj11.out];omega)
                have c7:=hsw.cell (i:=jm) (by rw[HDj11.out];omega)
                have hless:=fun w'=>qo dj[j]! dj[jm]! w'
                cases hl:lt64 dj[j]! dj[jm]! with
                |false=>
                 rw[hl]at hless
                 have HT11:Hid (Go.Sort.partialIns lt64 a b (5-(k+1)) i dj=(R1,R2)):=by
                  have h0:=HTj11.out;rw[up_no hjc (by rw[show j-1=jm by have:=HJM.out;omega];exact hl)]at h0
                  exact h0
                 clear hl hsw HTj11;go_wp2
                 go_upto_region 15 with fail
                 go_quiet ((go_at_call 113;exact Calls.quiet_of_same (hless _)))
                 have HSb11:Hid (SoAt (wr.drewN nq) g dj t):=SoAt.drewN HSj11.out nq;have HGb11:Hid (w.grownBy (wr.drewN nq) (some g)):=qi HGj11.out nq;clear HSj11 HGj11 hless c6 c7 j1 j2 wjm ejm;generalize wr.drewN nq=wb11 at *;go_wp2
                 go_roundw
                 case rel=>exact⟨i,k+1,by omega,by omega,by omega,rfl,by go_num,dj,HDj11,HSb11,HT11,HGb11⟩
                 case measure=>simp[intOf];omega
                |true=>
                 rw[hl]at hless
                 have HT11:Hid (Go.Sort.partialIns lt64 a b (5-(k+1)) i (Go.Sort.shiftUp lt64 b (j+1) (swp dj j jm))=(R1,R2)):=by
                  have h0:=HTj11.out;rw[qd2 hjc (by rw[show j-1=jm by have:=HJM.out;omega];exact hl),show j-1=jm by have:=HJM.out;omega]at h0
                  exact h0
                 clear hl hsw HTj11;go_wp2
                 go_upto_region 15 with fail
                 go_quiet ((go_at_call 113;exact Calls.quiet_of_same (hless _)))
                 have HSc11:Hid (SoAt (wr.drewN nq) g dj t):=SoAt.drewN HSj11.out nq;have HGc11:Hid (w.grownBy (wr.drewN nq) (some g)):=qi HGj11.out nq;clear HSj11 HGj11 hless c6 c7 j1 j2;generalize wr.drewN nq=wb11 at *;go_wp2;have hi1:=fun w'=>qf g N c j w' (by omega)
                 have hi2:=fun w'=>qf g N c jm w' (by omega)
                 have hsw:SoAt wb11 g dj t:=HSc11.out;have c3:=hsw.cell (i:=j) (by rw[HDj11.out];omega)
                 have c4:=hsw.cell (i:=jm) (by rw[HDj11.out];omega)
                 have f3:=hsw.fz j;have f4:=hsw.fz jm;have hswb:SoAt (wb11.setCell ⟨g,j,none⟩ (.int .u64 dj[jm]!)) g (dj.setIfInBounds j dj[jm]!) t:=hsw.set (by rw[HDj11.out];omega) _
                 have f5:=hswb.fz jm;have c5:=hswb.cell (i:=jm) (by rw[Array.size_setIfInBounds,HDj11.out];omega)
                 have HSa12:Hid (SoAt ((wb11.setCell ⟨g,j,none⟩ (.int .u64 dj[jm]!)).setCell ⟨g,jm,none⟩ (.int .u64 dj[j]!)) g (swp dj j jm) t):=hsw.swap (by rw[HDj11.out];omega) (by rw[HDj11.out];omega)
                 have HGa12:Hid (w.grownBy ((wb11.setCell ⟨g,j,none⟩ (.int .u64 dj[jm]!)).setCell ⟨g,jm,none⟩ (.int .u64 dj[j]!)) (some g)):=ql (ql HGc11.out _) _;have HD12:Hid ((swp dj j jm).size=N):=by show _=_;rw[Go.Sort.size_swp];exact HDj11.out
                 clear hsw hswb;generalize (dj.setIfInBounds j dj[jm]!)[jm]! = ysw at *;generalize dj[j]! = xi at *;generalize dj[jm]! = xj at *
                 go_upto_region 15 with fail
                 go_region
                 all_goals
                  have HS12:Hid (SoAt ((wb11.setCell ⟨g,j,none⟩ (.int .u64 xj)).setCell ⟨g,jm,none⟩ (.int .u64 xi)).drew g (swp dj j jm) t):=SoAt.drew HSa12.out;have HG12:Hid (w.grownBy ((wb11.setCell ⟨g,j,none⟩ (.int .u64 xj)).setCell ⟨g,jm,none⟩ (.int .u64 xi)).drew (some g)):=qt HGa12.out;clear HSa12 HGa12 c3 c4 f3 f4 f5 c5 hi1 hi2;generalize ((wb11.setCell ⟨g,j,none⟩ (.int .u64 xj)).setCell ⟨g,jm,none⟩ (.int .u64 xi)).drew=w12 at *;generalize swp dj j jm=d12 at *;go_wp2
                  go_roundw
                  case rel=>exact⟨j+1,by omega,by omega,by go_num,d12,HD12,HS12,HT11,HG12⟩
                  case measure=>simp[intOf]<;>omega
               ·have hjc':¬(j:Int)<(b:Int):=by omega
                have HT11:Hid (Go.Sort.partialIns lt64 a b (5-(k+1)) i dj=(R1,R2)):=by
                 have h0:=HTj11.out;rw[qd1 hjc]at h0;exact h0
                clear HTj11;generalize wr=wb11 at *;go_wp2
                go_roundw
                case rel=>exact⟨i,k+1,by omega,by omega,by omega,rfl,by go_num,dj,HDj11,HSj11,HT11,HGj11⟩
                case measure=>simp[intOf];omega
             ·have hu2':¬(2:Int)<=(Lu:Int):=by omega
              have HU11:Hid (Go.Sort.partialIns lt64 a b (5-(k+1)) i dj=(R1,R2)):=by
               have h0:=HT9.out;unfold upD at h0;rw[if_neg (by omega)]at h0
               exact h0
              clear HT9 hLu;go_wp2
              go_roundw
              case rel=>exact⟨i,k+1,by omega,by omega,by omega,rfl,by go_num,dj,HDj9,HSb9,HU11,HGb9⟩
              case measure=>simp[intOf];omega
            |true=>
             rw[hl]at hless
             have HT9:Hid (Go.Sort.partialIns lt64 a b (5-(k+1)) i (upD b i (Go.Sort.shiftDown lt64 jm (swp dj j jm)))=(R1,R2)):=by
              have h0:=HTj9.out;rw[show Go.Sort.shiftDown lt64 j dj=Go.Sort.shiftDown lt64 jm (swp dj j jm) from by rw[HJM.out];exact qiI (by rw[<-HJM.out];exact hl)]at h0
              exact h0
             clear hl hsw HTj9;go_wp2
             go_upto_region 15 with fail
             go_quiet ((go_at_call 113;exact Calls.quiet_of_same (hless _)))
             have HSc9:Hid (SoAt (wr.drewN nq) g dj t):=SoAt.drewN HSj9.out nq;have HGc9:Hid (w.grownBy (wr.drewN nq) (some g)):=qi HGj9.out nq;clear HSj9 HGj9 hless c6 c7 j1 j2;generalize wr.drewN nq=wb9 at *;go_wp2;have hi1:=fun w'=>qf g N c j w' (by omega)
             have hi2:=fun w'=>qf g N c jm w' (by omega)
             have hsw:SoAt wb9 g dj t:=HSc9.out;have c3:=hsw.cell (i:=j) (by rw[HDj9.out];omega)
             have c4:=hsw.cell (i:=jm) (by rw[HDj9.out];omega)
             have f3:=hsw.fz j;have f4:=hsw.fz jm;have hswb:SoAt (wb9.setCell ⟨g,j,none⟩ (.int .u64 dj[jm]!)) g (dj.setIfInBounds j dj[jm]!) t:=hsw.set (by rw[HDj9.out];omega) _
             have f5:=hswb.fz jm;have c5:=hswb.cell (i:=jm) (by rw[Array.size_setIfInBounds,HDj9.out];omega)
             have HSa13:Hid (SoAt ((wb9.setCell ⟨g,j,none⟩ (.int .u64 dj[jm]!)).setCell ⟨g,jm,none⟩ (.int .u64 dj[j]!)) g (swp dj j jm) t):=hsw.swap (by rw[HDj9.out];omega) (by rw[HDj9.out];omega)
             have HGa13:Hid (w.grownBy ((wb9.setCell ⟨g,j,none⟩ (.int .u64 dj[jm]!)).setCell ⟨g,jm,none⟩ (.int .u64 dj[j]!)) (some g)):=ql (ql HGc9.out _) _;have HD13:Hid ((swp dj j jm).size=N):=by show _=_;rw[Go.Sort.size_swp];exact HDj9.out
             clear hsw hswb;generalize (dj.setIfInBounds j dj[jm]!)[jm]! = ysw at *;generalize dj[j]! = xi at *;generalize dj[jm]! = xj at *
             go_upto_region 15 with fail
             go_region
             all_goals
              have HS13:Hid (SoAt ((wb9.setCell ⟨g,j,none⟩ (.int .u64 xj)).setCell ⟨g,jm,none⟩ (.int .u64 xi)).drew g (swp dj j jm) t):=SoAt.drew HSa13.out;have HG13:Hid (w.grownBy ((wb9.setCell ⟨g,j,none⟩ (.int .u64 xj)).setCell ⟨g,jm,none⟩ (.int .u64 xi)).drew (some g)):=qt HGa13.out;clear HSa13 HGa13 c3 c4 f3 f4 f5 c5 hi1 hi2;generalize ((wb9.setCell ⟨g,j,none⟩ (.int .u64 xj)).setCell ⟨g,jm,none⟩ (.int .u64 xi)).drew=w13 at *;generalize swp dj j jm=d13 at *;go_wp2
              go_roundw
              case rel=>exact⟨jm,by omega,rfl,d13,HD13,HS13,HT9,HG13⟩
              case measure=>simp[intOf]<;>omega
           ·have hjc':¬(1:Int)<=(j:Int):=by omega
            have HT9:Hid (Go.Sort.partialIns lt64 a b (5-(k+1)) i (upD b i dj)=(R1,R2)):=by
             have h0:=HTj9.out;obtain rfl:j=0:=by omega
             exact h0
            clear HTj9;generalize wr=wb9 at *;obtain⟨Lu,hLu⟩:∃Lu,Lu=b-i:=⟨_,rfl⟩
            have wLu:IntKind.i64.wrap ((b:Int)-(i:Int))=(Lu:Int):=by rw[IntKind.wrap_i64];omega
            have eLu:(b:Int)-(i:Int)=(Lu:Int):=by omega
            by_cases hu2:2<=Lu
            ·have hu2':(2:Int)<=(Lu:Int):=by omega
             have HU14:Hid (Go.Sort.partialIns lt64 a b (5-(k+1)) i (Go.Sort.shiftUp lt64 b (i+1) dj)=(R1,R2)):=by
              have h0:=HT9.out;unfold upD at h0;rw[if_pos (by omega)]at h0
              exact h0
             clear HT9 hLu;go_wp2;clear wLu eLu
             go_loopw [10] (fun sv wr=>∃j:Nat,i+1<=j/\j<=b/\sv=.int .i64 (j:Int)/\∃dj:Array Int,Hid (dj.size=N)/\Hid (SoAt wr g dj t)/\Hid (Go.Sort.partialIns lt64 a b (5-(k+1)) i (Go.Sort.shiftUp lt64 b j dj)=(R1,R2))/\Hid (w.grownBy wr (some g))) (fun sv _=>N+1-(intOf sv).toNat)
             case atStart=>exact⟨i+1,nlr,by omega,by first|rfl|go_num,dj,HDj9,HSj9,HU14,HGj9⟩
             case round=>
              obtain⟨j,hj1,hj2,rfl,dj,HDj14,HSj14,HTj14,HGj14⟩:=hrel;clear HDj9 HSj9 HU14 HGj9;by_cases hjc:j<b
              ·have hjc':(j:Int)<(b:Int):=by omega
               obtain⟨jm,hjm⟩:∃jm,j=jm+1:=⟨j-1,by omega⟩
               have wjm:IntKind.i64.wrap ((j:Int)-1)=(jm:Int):=by rw[IntKind.wrap_i64];omega
               have ejm:(j:Int)-1=(jm:Int):=by omega
               have hjl:jm<j:=by omega
               have HJM:=hiq hjm;clear hjm;have j1:=fun w'=>qf g N c j w' (by omega)
               have j2:=fun w'=>qf g N c jm w' (by omega)
               have hsw:SoAt wr g dj t:=HSj14.out;have c6:=hsw.cell (i:=j) (by rw[HDj14.out];omega)
               have c7:=hsw.cell (i:=jm) (by rw[HDj14.out];omega)
               have hless:=fun w'=>qo dj[j]! dj[jm]! w'
               cases hl:lt64 dj[j]! dj[jm]! with
               |false=>
                rw[hl]at hless
                have HT14:Hid (Go.Sort.partialIns lt64 a b (5-(k+1)) i dj=(R1,R2)):=by
                 have h0:=HTj14.out;rw[up_no hjc (by rw[show j-1=jm by have:=HJM.out;omega];exact hl)]at h0
                 exact h0
                clear hl hsw HTj14;go_wp2
                go_upto_region 15 with fail
                go_quiet ((go_at_call 113;exact Calls.quiet_of_same (hless _)))
                have HSb14:Hid (SoAt (wr.drewN nq) g dj t):=SoAt.drewN HSj14.out nq;have HGb14:Hid (w.grownBy (wr.drewN nq) (some g)):=qi HGj14.out nq;clear HSj14 HGj14 hless c6 c7 j1 j2 wjm ejm;generalize wr.drewN nq=wb14 at *;go_wp2
                go_roundw
                case rel=>exact⟨i,k+1,by omega,by omega,by omega,rfl,by go_num,dj,HDj14,HSb14,HT14,HGb14⟩
                case measure=>simp[intOf];omega
               |true=>
                rw[hl]at hless
                have HT14:Hid (Go.Sort.partialIns lt64 a b (5-(k+1)) i (Go.Sort.shiftUp lt64 b (j+1) (swp dj j jm))=(R1,R2)):=by
                 have h0:=HTj14.out;rw[qd2 hjc (by rw[show j-1=jm by have:=HJM.out;omega];exact hl),show j-1=jm by have:=HJM.out;omega]at h0
                 exact h0
                clear hl hsw HTj14;go_wp2
                go_upto_region 15 with fail
                go_quiet ((go_at_call 113;exact Calls.quiet_of_same (hless _)))
                have HSc14:Hid (SoAt (wr.drewN nq) g dj t):=SoAt.drewN HSj14.out nq;have HGc14:Hid (w.grownBy (wr.drewN nq) (some g)):=qi HGj14.out nq;clear HSj14 HGj14 hless c6 c7 j1 j2;generalize wr.drewN nq=wb14 at *;go_wp2;have hi1:=fun w'=>qf g N c j w' (by omega)
                have hi2:=fun w'=>qf g N c jm w' (by omega)
                have hsw:SoAt wb14 g dj t:=HSc14.out;have c3:=hsw.cell (i:=j) (by rw[HDj14.out];omega)
                have c4:=hsw.cell (i:=jm) (by rw[HDj14.out];omega)
                have f3:=hsw.fz j;have f4:=hsw.fz jm;have hswb:SoAt (wb14.setCell ⟨g,j,none⟩ (.int .u64 dj[jm]!)) g (dj.setIfInBounds j dj[jm]!) t:=hsw.set (by rw[HDj14.out];omega) _
                have f5:=hswb.fz jm;have c5:=hswb.cell (i:=jm) (by rw[Array.size_setIfInBounds,HDj14.out];omega)
                have HSa15:Hid (SoAt ((wb14.setCell ⟨g,j,none⟩ (.int .u64 dj[jm]!)).setCell ⟨g,jm,none⟩ (.int .u64 dj[j]!)) g (swp dj j jm) t):=hsw.swap (by rw[HDj14.out];omega) (by rw[HDj14.out];omega)
                have HGa15:Hid (w.grownBy ((wb14.setCell ⟨g,j,none⟩ (.int .u64 dj[jm]!)).setCell ⟨g,jm,none⟩ (.int .u64 dj[j]!)) (some g)):=ql (ql HGc14.out _) _;have HD15:Hid ((swp dj j jm).size=N):=by show _=_;rw[Go.Sort.size_swp];exact HDj14.out
                clear hsw hswb;generalize (dj.setIfInBounds j dj[jm]!)[jm]! = ysw at *;generalize dj[j]! = xi at *;generalize dj[jm]! = xj at *
                go_upto_region 15 with fail
                go_region
                all_goals
                 have HS15:Hid (SoAt ((wb14.setCell ⟨g,j,none⟩ (.int .u64 xj)).setCell ⟨g,jm,none⟩ (.int .u64 xi)).drew g (swp dj j jm) t):=SoAt.drew HSa15.out;have HG15:Hid (w.grownBy ((wb14.setCell ⟨g,j,none⟩ (.int .u64 xj)).setCell ⟨g,jm,none⟩ (.int .u64 xi)).drew (some g)):=qt HGa15.out;clear HSa15 HGa15 c3 c4 f3 f4 f5 c5 hi1 hi2;generalize ((wb14.setCell ⟨g,j,none⟩ (.int .u64 xj)).setCell ⟨g,jm,none⟩ (.int .u64 xi)).drew=w15 at *;generalize swp dj j jm=d15 at *;go_wp2
                 go_roundw
                 case rel=>exact⟨j+1,by omega,by omega,by go_num,d15,HD15,HS15,HT14,HG15⟩
                 case measure=>simp[intOf]<;>omega
              ·have hjc':¬(j:Int)<(b:Int):=by omega
               have HT14:Hid (Go.Sort.partialIns lt64 a b (5-(k+1)) i dj=(R1,R2)):=by
                have h0:=HTj14.out;rw[qd1 hjc]at h0;exact h0
               clear HTj14;generalize wr=wb14 at *;go_wp2
               go_roundw
               case rel=>exact⟨i,k+1,by omega,by omega,by omega,rfl,by go_num,dj,HDj14,HSj14,HT14,HGj14⟩
               case measure=>simp[intOf];omega
            ·have hu2':¬(2:Int)<=(Lu:Int):=by omega
             have HU14:Hid (Go.Sort.partialIns lt64 a b (5-(k+1)) i dj=(R1,R2)):=by
              have h0:=HT9.out;unfold upD at h0;rw[if_neg (by omega)]at h0
              exact h0
             clear HT9 hLu;go_wp2
             go_roundw
             case rel=>exact⟨i,k+1,by omega,by omega,by omega,rfl,by go_num,dj,HDj9,HSj9,HU14,HGj9⟩
             case measure=>simp[intOf];omega
         ·have hd2':¬(2:Int)<=(Ld:Int):=by omega
          have HDN:Hid (Go.Sort.partialIns lt64 a b (5-(k+1)) i (upD b i d6)=(R1,R2)):=by
           have h0:=HST2.out;unfold dnD at h0;rw[if_neg (by omega)]at h0
           exact h0
          clear HST2 hLd;obtain⟨Lu,hLu⟩:∃Lu,Lu=b-i:=⟨_,rfl⟩
          have wLu:IntKind.i64.wrap ((b:Int)-(i:Int))=(Lu:Int):=by rw[IntKind.wrap_i64];omega
          have eLu:(b:Int)-(i:Int)=(Lu:Int):=by omega
          by_cases hu2:2<=Lu
          ·have hu2':(2:Int)<=(Lu:Int):=by omega
           have HU16:Hid (Go.Sort.partialIns lt64 a b (5-(k+1)) i (Go.Sort.shiftUp lt64 b (i+1) d6)=(R1,R2)):=by
            have h0:=HDN.out;unfold upD at h0;rw[if_pos (by omega)]at h0
            exact h0
           clear HDN hLu;go_wp2;clear wLu eLu
           go_loopw [10] (fun sv wr=>∃j:Nat,i+1<=j/\j<=b/\sv=.int .i64 (j:Int)/\∃dj:Array Int,Hid (dj.size=N)/\Hid (SoAt wr g dj t)/\Hid (Go.Sort.partialIns lt64 a b (5-(k+1)) i (Go.Sort.shiftUp lt64 b j dj)=(R1,R2))/\Hid (w.grownBy wr (some g))) (fun sv _=>N+1-(intOf sv).toNat)
           case atStart=>exact⟨i+1,nlr,by omega,by first|rfl|go_num,d6,HD6,HS6,HU16,HG6⟩
           case round=>
            obtain⟨j,hj1,hj2,rfl,dj,HDj16,HSj16,HTj16,HGj16⟩:=hrel;clear HD6 HS6 HU16 HG6;by_cases hjc:j<b
            ·have hjc':(j:Int)<(b:Int):=by omega
             obtain⟨jm,hjm⟩:∃jm,j=jm+1:=⟨j-1,by omega⟩
             have wjm:IntKind.i64.wrap ((j:Int)-1)=(jm:Int):=by rw[IntKind.wrap_i64];omega
             have ejm:(j:Int)-1=(jm:Int):=by omega
             have hjl:jm<j:=by omega
             have HJM:=hiq hjm;clear hjm;have j1:=fun w'=>qf g N c j w' (by omega)
             have j2:=fun w'=>qf g N c jm w' (by omega)
             have hsw:SoAt wr g dj t:=HSj16.out;have c6:=hsw.cell (i:=j) (by rw[HDj16.out];omega)
             have c7:=hsw.cell (i:=jm) (by rw[HDj16.out];omega)
             have hless:=fun w'=>qo dj[j]! dj[jm]! w'
             cases hl:lt64 dj[j]! dj[jm]! with
             |false=>
              rw[hl]at hless
              have HT16:Hid (Go.Sort.partialIns lt64 a b (5-(k+1)) i dj=(R1,R2)):=by
               have h0:=HTj16.out;rw[up_no hjc (by rw[show j-1=jm by have:=HJM.out;omega];exact hl)]at h0
               exact h0
              clear hl hsw HTj16;go_wp2
              go_upto_region 15 with fail
              go_quiet ((go_at_call 113;exact Calls.quiet_of_same (hless _)))
              have HSb16:Hid (SoAt (wr.drewN nq) g dj t):=SoAt.drewN HSj16.out nq;have HGb16:Hid (w.grownBy (wr.drewN nq) (some g)):=qi HGj16.out nq;clear HSj16 HGj16 hless c6 c7 j1 j2 wjm ejm;generalize wr.drewN nq=wb16 at *;go_wp2
              go_roundw
              case rel=>exact⟨i,k+1,by omega,by omega,by omega,rfl,by go_num,dj,HDj16,HSb16,HT16,HGb16⟩
              case measure=>simp[intOf];omega
             |true=>
              rw[hl]at hless
              have HT16:Hid (Go.Sort.partialIns lt64 a b (5-(k+1)) i (Go.Sort.shiftUp lt64 b (j+1) (swp dj j jm))=(R1,R2)):=by
               have h0:=HTj16.out;rw[qd2 hjc (by rw[show j-1=jm by have:=HJM.out;omega];exact hl),show j-1=jm by have:=HJM.out;omega]at h0
               exact h0
              clear hl hsw HTj16;go_wp2
              go_upto_region 15 with fail
              go_quiet ((go_at_call 113;exact Calls.quiet_of_same (hless _)))
              have HSc16:Hid (SoAt (wr.drewN nq) g dj t):=SoAt.drewN HSj16.out nq;have HGc16:Hid (w.grownBy (wr.drewN nq) (some g)):=qi HGj16.out nq;clear HSj16 HGj16 hless c6 c7 j1 j2;generalize wr.drewN nq=wb16 at *;go_wp2;have hi1:=fun w'=>qf g N c j w' (by omega)
              have hi2:=fun w'=>qf g N c jm w' (by omega)
              have hsw:SoAt wb16 g dj t:=HSc16.out;have c3:=hsw.cell (i:=j) (by rw[HDj16.out];omega)
              have c4:=hsw.cell (i:=jm) (by rw[HDj16.out];omega)
              have f3:=hsw.fz j;have f4:=hsw.fz jm;have hswb:SoAt (wb16.setCell ⟨g,j,none⟩ (.int .u64 dj[jm]!)) g (dj.setIfInBounds j dj[jm]!) t:=hsw.set (by rw[HDj16.out];omega) _
              have f5:=hswb.fz jm;have c5:=hswb.cell (i:=jm) (by rw[Array.size_setIfInBounds,HDj16.out];omega)
              have HSa17:Hid (SoAt ((wb16.setCell ⟨g,j,none⟩ (.int .u64 dj[jm]!)).setCell ⟨g,jm,none⟩ (.int .u64 dj[j]!)) g (swp dj j jm) t):=hsw.swap (by rw[HDj16.out];omega) (by rw[HDj16.out];omega)
              have HGa17:Hid (w.grownBy ((wb16.setCell ⟨g,j,none⟩ (.int .u64 dj[jm]!)).setCell ⟨g,jm,none⟩ (.int .u64 dj[j]!)) (some g)):=ql (ql HGc16.out _) _;have HD17:Hid ((swp dj j jm).size=N):=by show _=_;rw[Go.Sort.size_swp];exact HDj16.out
              clear hsw hswb;generalize (dj.setIfInBounds j dj[jm]!)[jm]! = ysw at *;generalize dj[j]! = xi at *;generalize dj[jm]! = xj at *
              go_upto_region 15 with fail
              go_region
              all_goals
               have HS17:Hid (SoAt ((wb16.setCell ⟨g,j,none⟩ (.int .u64 xj)).setCell ⟨g,jm,none⟩ (.int .u64 xi)).drew g (swp dj j jm) t):=SoAt.drew HSa17.out;have HG17:Hid (w.grownBy ((wb16.setCell ⟨g,j,none⟩ (.int .u64 xj)).setCell ⟨g,jm,none⟩ (.int .u64 xi)).drew (some g)):=qt HGa17.out;clear HSa17 HGa17 c3 c4 f3 f4 f5 c5 hi1 hi2;generalize ((wb16.setCell ⟨g,j,none⟩ (.int .u64 xj)).setCell ⟨g,jm,none⟩ (.int .u64 xi)).drew=w17 at *;generalize swp dj j jm=d17 at *;go_wp2
               go_roundw
               case rel=>exact⟨j+1,by omega,by omega,by go_num,d17,HD17,HS17,HT16,HG17⟩
               case measure=>simp[intOf]<;>omega
            ·have hjc':¬(j:Int)<(b:Int):=by omega
             have HT16:Hid (Go.Sort.partialIns lt64 a b (5-(k+1)) i dj=(R1,R2)):=by
              have h0:=HTj16.out;rw[qd1 hjc]at h0;exact h0
             clear HTj16;generalize wr=wb16 at *;go_wp2
             go_roundw
             case rel=>exact⟨i,k+1,by omega,by omega,by omega,rfl,by go_num,dj,HDj16,HSj16,HT16,HGj16⟩
             case measure=>simp[intOf];omega
          ·have hu2':¬(2:Int)<=(Lu:Int):=by omega
           have HU16:Hid (Go.Sort.partialIns lt64 a b (5-(k+1)) i d6=(R1,R2)):=by
            have h0:=HDN.out;unfold upD at h0;rw[if_neg (by omega)]at h0
            exact h0
           clear HDN hLu;go_wp2
           go_roundw
           case rel=>exact⟨i,k+1,by omega,by omega,by omega,rfl,by go_num,d6,HD6,HS6,HU16,HG6⟩
           case measure=>simp[intOf];omega
  ·have hk5':¬(k:Int)<5:=by omega
   obtain rfl:k=5:=by omega
   have HR:Hid (dk=R1/\false=R2):=by
    have h0:=HI.out;injection h0 with h1 h2;exact⟨h1,h2⟩
   clear HI;go_wp2;go_ret
   obtain⟨rfl,rfl⟩:=HR.out;exact⟨rfl,HS.out,HG.out⟩
end Go.Proofs.YtailhklbmenaoaaGreatDoor
namespace Go.Proofs.YtailhklbmenaoaaGreatDoor
open Go.Sort (swp PermIn SortedIn)
structure PQ (a0 b0 a b:Nat) (d0 d:Array Int):Prop where
 a1:a0<=a
 ab:a<=b
 b1:b<=b0
 sz:d.size=d0.size
 perm:PermIn a0 b0 d0 d
 bel:Go.Sort.Below lt64 a b d
 fin:∀d':Array Int,PermIn a b d d'->SortedIn lt64 a b d'->SortedIn lt64 a0 b0 d'
theorem qgX{a b:Nat}{d:Array Int}(hab:a<=b)(hB:Go.Sort.Below lt64 a b d):PQ a b a b d d :=
 ⟨nlr,hab,nlr,rfl,Go.Sort.permIn_refl d a b,hB,fun _ _ h=>h⟩
theorem PQ.up{a0 b0 a b:Nat}{d0 d d':Array Int}(h:PQ a0 b0 a b d0 d)(hb:b0<=d0.size)(hp:PermIn a b d d'):PermIn a0 b0 d0 d' :=
 Go.Sort.permIn_trans _ _ _ _ _ h.perm (Go.Sort.permIn_mono d d' a b a0 b0 h.a1 h.b1 (by rw[h.sz];exact hb) hp)
theorem qev{a b:Nat}{d d':Array Int}(hb:b<=d.size)(h:Go.Sort.Below lt64 a b d)(hp:PermIn a b d d'):Go.Sort.Below lt64 a b d':=by
 rcases h with h|h
 ·exact Or.inl h
 ·by_cases ha:a=0
  ·exact Or.inl ha
  ·right
   rw[hp.2.1 (a-1) (by omega)]
   exact Go.Sort.permIn_all d d' a b (fun x=>lt64 x d[a-1]! = false) hb hp h
theorem PQ.move{a0 b0 a b:Nat}{d0 d d':Array Int}(h:PQ a0 b0 a b d0 d)(hb:b0<=d0.size)(hp:PermIn a b d d'):PQ a0 b0 a b d0 d' :=
 ⟨h.a1,h.ab,h.b1,hp.1.trans h.sz,h.up hb hp,qev (by have:=h.b1;rw[h.sz];omega) h.bel hp,fun e h1 h2=>h.fin e (Go.Sort.permIn_trans _ _ _ _ _ hp h1) h2⟩
theorem q6d{a b m:Nat}{d:Array Int}{p:Int}(hp:d[m]! = p)(hl:SortedIn lt64 a m d)(hr:SortedIn lt64 (m+1) b d)(h1:∀x,a<=x->x<m->lt64 d[x]! p=true)(h2:∀x,m<x->x<b->lt64 d[x]! p=false):SortedIn lt64 a b d:=by
 have no:∀x y:Int,lt64 x p=true->lt64 y p=false->lt64 y x=false:=fun x y k1 k2=>by
  cases k:lt64 y x with
  |false=>rfl
  |true=>rw[swo64.trans y x p k k1]at k2;cases k2
 intro i j hi hij hj;by_cases c1:j<m
 ·exact hl i j hi hij c1
 ·by_cases c2:j=m
  ·subst c2
   rw[hp];exact no _ _ (h1 i hi hij) (swo64.irrefl p)
  ·by_cases c3:i<m
   ·exact no _ _ (h1 i hi c3) (h2 j (by omega) hj)
   ·by_cases c4:i=m
    ·subst c4
     rw[hp];exact h2 j hij hj
    ·exact hr i j (by omega) hij hj
theorem PQ.left{a0 b0 a b m:Nat}{d0 d d4 d5:Array Int}(h:PQ a0 b0 a b d0 d)(hb:b0<=d0.size)(hP:Parted d a b m d4)(hp:PermIn a m d4 d5)(hs:SortedIn lt64 a m d5):PQ a0 b0 (m+1) b d0 d5:=by
 have hsz:=h.sz;have hsz4:=hP.sz;have hb1:=h.b1;have hma:=hP.ma;have hmb:=hP.mb;have h4:=h.move hb hP.perm;have e5:∀x,m<=x->d5[x]! = d4[x]! := fun x hx=>hp.2.1 x (Or.inr hx)
 have k5:PermIn a b d4 d5:=Go.Sort.permIn_mono d4 d5 a m a b nlr (by omega) (by omega) hp
 have lo5:∀x,a<=x->x<m->lt64 d5[x]! d4[m]! = true:=Go.Sort.permIn_all d4 d5 a m (fun x=>lt64 x d4[m]! = true) (by omega) hp hP.lo
 refine⟨by have:=h.a1;omega,by omega,hb1,hp.1.trans (hsz4.trans hsz),h4.up hb k5,Or.inr fun i h1 h2=>?_,fun e h1 h2=>?_⟩
 ·rw[show m+1-1=m by omega,e5 i (by omega),e5 m nlr]
  exact hP.hi i (by omega) h2
 ·have kk:PermIn a b d5 e:=Go.Sort.permIn_mono d5 e (m+1) b a b (by omega) nlr (by rw[hp.1];omega) h1
  have ee:∀x,x<m+1->e[x]! = d5[x]! := fun x hx=>h1.2.1 x (Or.inl hx)
  have hie:∀x,m+1<=x->x<b->lt64 e[x]! d4[m]! = false:=Go.Sort.permIn_all d5 e (m+1) b (fun x=>lt64 x d4[m]! = false) (by rw[hp.1];omega) h1 (fun i k1 k2=>by rw[e5 i (by omega)];exact hP.hi i (by omega) k2)
  refine h4.fin e (Go.Sort.permIn_trans _ _ _ _ _ k5 kk) (q6d (m:=m) (p:=d4[m]!) ?_ ?_ h2 ?_ ?_)
  ·rw[ee m (by omega),e5 m nlr]
  ·intro i j hi hij hj
   rw[ee i (by omega),ee j (by omega)]
   exact hs i j hi hij hj
  ·intro x k1 k2
   rw[ee x (by omega)]
   exact lo5 x k1 k2
  ·intro x k1 k2
   exact hie x (by omega) k2
theorem PQ.right{a0 b0 a b m:Nat}{d0 d d4 d5:Array Int}(h:PQ a0 b0 a b d0 d)(hb:b0<=d0.size)(hP:Parted d a b m d4)(hp:PermIn (m+1) b d4 d5)(hs:SortedIn lt64 (m+1) b d5):PQ a0 b0 a m d0 d5:=by
 have hsz:=h.sz;have hsz4:=hP.sz;have hb1:=h.b1;have hma:=hP.ma;have hmb:=hP.mb;have h4:=h.move hb hP.perm;have e5:∀x,x<m+1->d5[x]! = d4[x]! := fun x hx=>hp.2.1 x (Or.inl hx)
 have k5:PermIn a b d4 d5:=Go.Sort.permIn_mono d4 d5 (m+1) b a b (by omega) nlr (by omega) hp
 have hi5:∀x,m+1<=x->x<b->lt64 d5[x]! d4[m]! = false:=Go.Sort.permIn_all d4 d5 (m+1) b (fun x=>lt64 x d4[m]! = false) (by omega) hp (fun i k1 k2=>hP.hi i (by omega) k2)
 refine⟨h.a1,hma,by omega,hp.1.trans (hsz4.trans hsz),h4.up hb k5,?_,fun e h1 h2=>?_⟩
 ·rcases h4.bel with k|k
  ·exact Or.inl k
  ·right
   intro i h1 h2;rw[e5 i (by omega),e5 (a-1) (by omega)]
   exact k i h1 (by omega)
 ·have kk:PermIn a b d5 e:=Go.Sort.permIn_mono d5 e a m a b nlr (by omega) (by rw[hp.1];omega) h1
  have ee:∀x,m<=x->e[x]! = d5[x]! := fun x hx=>h1.2.1 x (Or.inr hx)
  have loe:∀x,a<=x->x<m->lt64 e[x]! d4[m]! = true:=Go.Sort.permIn_all d5 e a m (fun x=>lt64 x d4[m]! = true) (by rw[hp.1];omega) h1 (fun i k1 k2=>by rw[e5 i (by omega)];exact hP.lo i k1 k2)
  refine h4.fin e (Go.Sort.permIn_trans _ _ _ _ _ k5 kk) (q6d (m:=m) (p:=d4[m]!) ?_ h2 ?_ loe ?_)
  ·rw[ee m nlr,e5 m (by omega)]
  ·intro i j hi hij hj
   rw[ee i (by omega),ee j (by omega)]
   exact hs i j hi hij hj
  ·intro x k1 k2
   rw[ee x (by omega)]
   exact hi5 x (by omega) k2
theorem PQ.eq{a0 b0 a b m q:Nat}{d0 d d4:Array Int}(h:PQ a0 b0 a b d0 d)(hb:b0<=d0.size)(ha:0<a)(hl:lt64 d[a-1]! d[q]! = false)(hP:EqParted d a b m d[q]! d4):PQ a0 b0 m b d0 d4:=by
 have hsz:=h.sz;have hsz4:=hP.sz;have hb1:=h.b1;have hma:=hP.ma;have hmb:=hP.mb;have h4:=h.move hb hP.perm
 have nl:∀i,a<=i->i<b->lt64 d[i]! d[q]! = false:=fun i k1 k2=>by
  rcases h.bel with k|k
  ·omega
  ·exact swo64.ntrans _ _ _ (k i k1 k2) hl
 have nl4:∀i,a<=i->i<b->lt64 d4[i]! d[q]! = false:=Go.Sort.permIn_all d d4 a b (fun x=>lt64 x d[q]! = false) (by omega) hP.perm nl
 have no:∀x y:Int,lt64 d[q]! y=true->lt64 d[q]! x=false->lt64 y x=false:=fun x y k1 k2=>by
  cases k:lt64 y x with
  |false=>rfl
  |true=>rw[swo64.trans _ _ _ k1 k]at k2;cases k2
 refine⟨by have:=h.a1;omega,hmb,hb1,hsz4.trans hsz,h4.perm,Or.inr fun i h1 h2=>no _ _ (hP.hi i h1 h2) (hP.lo (m-1) (by omega) (by omega)),fun e h1 h2=>?_⟩
 have kk:PermIn a b d4 e:=Go.Sort.permIn_mono d4 e m b a b (by omega) nlr (by omega) h1
 have ee:∀x,x<m->e[x]! = d4[x]! := fun x hx=>h1.2.1 x (Or.inl hx)
 have hie:∀x,m<=x->x<b->lt64 d[q]! e[x]! = true:=Go.Sort.permIn_all d4 e m b (fun x=>lt64 d[q]! x=true) (by omega) h1 hP.hi
 refine h4.fin e kk fun i j hi hij hj=>?_
 by_cases c1:j<m
 ·rw[ee i (by omega),ee j c1]
  exact swo64.ntrans _ _ _ (nl4 j (by omega) hj) (hP.lo i hi (by omega))
 ·by_cases c2:i<m
  ·rw[ee i c2]
   exact no _ _ (hie j (by omega) hj) (hP.lo i hi c2)
  ·exact h2 i j (by omega) hij hj
end Go.Proofs.YtailhklbmenaoaaGreatDoor
namespace Go.Proofs.YtailhklbmenaoaaGreatDoor
open Go.RowKit Go.Maps
structure KpSl (P:Program) (T:TypeId) (w:World) (a:Option Addr) (g len cap:Nat) (ks:List Kp):Prop where
 hlen:ks.length=len
 hcap:len<=cap
 bd:cap<=maxLen
 sh:(a=none/\cap=0)\/a=some ⟨g,0,none⟩
 idx:∀(n k:Nat) (w:World),k<n->n<=len->(Instr.indexAt T (.slice a n cap) (.int .i64 k)).run P w=.ok (.pointer (some ⟨g,3*k,none⟩)) w
 c0:∀k (h:k<ks.length),w.cell? ⟨g,3*k,none⟩=some (.int .u8 (ks[k].k:Int))
 c1:∀k (h:k<ks.length),w.cell? ⟨g,3*k+1,none⟩=some (.int .i64 (ks[k].b:Int))
 c2:∀k (h:k<ks.length),w.cell? ⟨g,3*k+2,none⟩=some (.int .i64 (ks[k].d:Int))
 blk:0<len->g<w.heap.size
theorem KpSl.later{P:Program}{T:TypeId}{w w':World}{a:Option Addr}{g len cap:Nat}{ks:List Kp}(h:KpSl P T w a g len cap ks){B:Nat}(hb:Below B w w')(hB:0<len->g<B):KpSl P T w' a g len cap ks :=
 ⟨h.hlen,h.hcap,h.bd,h.sh,h.idx,fun k hk=>(hb.cell (hB (by have:=h.hlen;omega))).trans (h.c0 k hk),fun k hk=>(hb.cell (hB (by have:=h.hlen;omega))).trans (h.c1 k hk),fun k hk=>(hb.cell (hB (by have:=h.hlen;omega))).trans (h.c2 k hk),fun hk=>Nat.lt_of_lt_of_le (h.blk hk) hb.size⟩
theorem KpSl.up{P:Program}{T:TypeId}{w w':World}{a:Option Addr}{g len cap:Nat}{ks:List Kp}(h:KpSl P T w a g len cap ks)(hb:Below w.heap.size w w'):KpSl P T w' a g len cap ks:=h.later hb h.blk
theorem qeP(m:Kp)(xs:List Kp)(j:Nat)(h:j<xs.length):madeK m (xs.drop j)=overK (madeK m (xs.drop (j+1))) xs[j]:=by
 rw[List.drop_eq_getElem_cons h];rfl
theorem qez(ws:List Nat)(xs:List Kp)(j:Nat)(h:j<ws.length)(h':j<xs.length):fitsK (ws.drop j) (xs.drop j)=(isK xs[j].k ws[j]&&fitsK (ws.drop (j+1)) (xs.drop (j+1))):=by
 rw[List.drop_eq_getElem_cons h,List.drop_eq_getElem_cons h'];rfl
theorem qai:∀(j:Nat) (ws:List Nat) (xs:List Kp),fitsK (ws.drop j) (xs.drop j)=false->ws.length=xs.length->fitsK ws xs=false
 | 0,ws,xs,h,_=>by simpa using h
 |j+1,[],xs,h,hl=>by
  have:xs=[]:=List.eq_nil_of_length_eq_zero (by simpa using hl.symm)
  subst this;simp[fitsK]at h
 |j+1,w::ws,[],h,hl=>by simp at hl
 |j+1,w::ws,x::xs,h,hl=>by
  simp only[List.drop_succ_cons]at h
  simp[fitsK,qai j ws xs h (by simpa using hl)]
def TakeR (len n:Nat) (a:Option Addr) (cap:Nat) (r:Option Kp) (e:Ending):Prop :=
 match r with
 |none=>e=.returned (.tuple #[.agg #[.int .u8 0,.int .i64 0,.int .i64 0],.slice none 0 0,.bool false])
 |some m=>e=.returned (.tuple #[.agg (kpCells m),.slice a (len-n) cap,.bool true])
def takeK (op p i:Nat) (st:List Kp):Option Kp :=
 if mayB op p then (if st.length<(takesK op).length then none else if fitsK (takesK op) (st.drop (st.length-(takesK op).length)) then some (madeK ⟨putsK op,i,1⟩ (st.drop (st.length-(takesK op).length))) else none) else none
theorem IntSl.other{P:Program}{T:TypeId}{q:IntKind}{w:World}{a:Option Addr}{len cap:Nat}{zs:List Int}(h:IntSl P T q w a len cap zs){g:Nat}(hne:∀k,k<len->g<(adOf a k).block)(i:Nat)(v:Value):IntSl P T q (w.setCell ⟨g,i,none⟩ v) a len cap zs :=
 ⟨h.hlen,h.hcap,h.bd,h.idx,fun k hk=>by rw[<-h.cell k hk];exact World.cell?_setCell_other _ _ _ _ (by intro e;have:=hne k hk;rw[<-e]at this;exact absurd this (Nat.lt_irrefl _)),fun k hk=>by have:=h.blk k hk;simpa using this,h.nn⟩
theorem qbs(op p i:Nat)(a:Option Addr)(g len cap:Nat)(st:List Kp)(w:World)(hS:KpSl Tryz.prog 61 w a g len cap st)(hd:∀x∈st,x.d<=1000000)(hln:len<=1000000):
  Calls Tryz.prog 63 #[.slice a len cap,.agg #[.int .u8 (op:Int),.int .u8 (p:Int)],.int .i64 (i:Int)] w fun e w'=>TakeR len (takesK op).length a cap (takeK op p i st) e/\Below w.heap.size w w':=by
 have hsh:=fun w=>q9x op w
 have hmb:=fun w=>q95 op p w
 have hlen:=hS.hlen;have HT:Hid (takeK op p i st=if mayB op p then (if st.length<(takesK op).length then none else if fitsK (takesK op) (st.drop (st.length-(takesK op).length)) then some (madeK ⟨putsK op,i,1⟩ (st.drop (st.length-(takesK op).length))) else none) else none):=rfl
 have hn2:=qg4 op;generalize takeK op p i st=R at *;generalize putsK op=q at *;generalize takesK op=ws at *;generalize mayB op p=mb at *;have h0:=Blk.new w 90 op p;have h0':=KpBlk.new (w.alloc (.cells #[.int .u8 (op:Int),.int .u8 (p:Int)] 90)) 88 ⟨0,0,0⟩;have hb0:Below w.heap.size w ((w.alloc (.cells #[.int .u8 (op:Int),.int .u8 (p:Int)] 90)).alloc (.cells (kpCells ⟨0,0,0⟩) 88)):=(qc w _).alloc (by simp) _
 have h0:=h0.al (.cells (kpCells ⟨0,0,0⟩) 88);have hsz:((w.alloc (.cells #[.int .u8 (op:Int),.int .u8 (p:Int)] 90)).alloc (.cells (kpCells ⟨0,0,0⟩) 88)).heap.size=w.heap.size+1+1:=by simp
 have hs1:(w.alloc (.cells #[.int .u8 (op:Int),.int .u8 (p:Int)] 90)).heap.size=w.heap.size+1:=by simp
 rw[hs1]at h0';go_enter Tryz.func63,Tryz.ntmps63
 go_wp2_with fail
 refine (hsh _).mono ?_
 rintro e w1 ⟨b,rfl,hW,hw1,hbb⟩
 have h1:=h0.up hw1;have h1':=KpBlk.up h0' hw1;have hb1:=qd hb0 hw1;have hbb':∀k,k<ws.length->w.heap.size+1+1<=(adOf b k).block:=fun k hk=>Nat.le_trans (Nat.le_of_eq hsz.symm) (hbb k hk)
 clear hbb hsh h0 h0' hb0 hsz hs1 hw1;have hc0:=h1.c0;have hc1:=h1.c1
 go_wp2_with fail
 refine (hmb _).mono ?_
 rintro e w2 ⟨rfl,hw2⟩
 have h2:=KpBlk.up h1' hw2;have hW2:=hW.up hw2;have hb2:=qd hb1 hw2;clear hw2 hmb h1 h1' hb1 hc0 hc1 hW;have hC0:=h2.c0;have hC1:=h2.c1;have hC2:=h2.c2;have hCf:=h2.fz
 cases mb with
 |false=>
  have HR:Hid (R=none):=HT.out;go_wp2;refine bodyPost_ret (v:=.tuple #[.agg #[.int .u8 0,.int .i64 0,.int .i64 0],.slice none 0 0,.bool false]) (by simp[results,Tryz.results63,go_sem,hC0,hC1,hC2]) rfl ⟨by rw[HR.out];rfl,?_⟩
  exact((hb2.setCell (by dsimp only;omega) _).setCell (by dsimp only;omega) _).setCell (by dsimp only;omega) _
 |true=>
  have HT1:Hid _:=HT.out.trans (if_pos rfl);clear HT;by_cases hnl:st.length<ws.length
  ·have HR:Hid (R=none):=HT1.out.trans (if_pos hnl)
   have hnl':(len:Int)<(ws.length:Int):=by omega
   go_wp2;refine bodyPost_ret (v:=.tuple #[.agg #[.int .u8 0,.int .i64 0,.int .i64 0],.slice none 0 0,.bool false]) (by simp[results,Tryz.results63,go_sem,hC0,hC1,hC2]) rfl ⟨by rw[HR.out];rfl,?_⟩
   exact((hb2.setCell (by dsimp only;omega) _).setCell (by dsimp only;omega) _).setCell (by dsimp only;omega) _
  ·have HT2:Hid _:=HT1.out.trans (if_neg hnl)
   clear HT1;have hnl':¬len<ws.length:=by omega
   obtain⟨lo,hlo⟩:∃lo,lo=st.length-ws.length:=⟨_,rfl⟩
   have hlo2:lo+ws.length=len:=by omega
   rw[<-hlo]at HT2;have hal:(st.drop lo).length=ws.length:=by simp;omega
   have hget:∀k,(h:k<(st.drop lo).length)->(st.drop lo)[k]=st[lo+k]'(by omega):=fun k h=>by simp
   have had:∀x∈st.drop lo,x.d<=1000000:=fun x hx=>hd x (List.mem_of_mem_drop hx)
   have hcell:∀k,(h:k<(st.drop lo).length)->w.cell? ⟨g,3*(lo+k),none⟩=some (.int .u8 (((st.drop lo)[k]).k:Int))/\w.cell? ⟨g,3*(lo+k)+1,none⟩=some (.int .i64 (((st.drop lo)[k]).b:Int))/\w.cell? ⟨g,3*(lo+k)+2,none⟩=some (.int .i64 (((st.drop lo)[k]).d:Int)):=fun k h=>by
    rw[hget k h];exact⟨hS.c0 _ _,hS.c1 _ _,hS.c2 _ _⟩
   clear hget;generalize st.drop lo=args at *;clear hlo hnl;have hwn:IntKind.i64.wrap ((ws.length:Int)-1)=(ws.length:Int)-1:=by rw[IntKind.wrap_i64];omega
   have h2:=hiq h2;have hW2:=hiq hW2;go_wp2
   go_loopw [0,11] (fun s j wr=>∃r:Nat,r<=ws.length/\j=.int .i64 ((r:Int)-1)/\s=.slice a (lo+r) cap/\Hid (fitsK (ws.drop r) (args.drop r)=true)/\Hid (KpBlk wr (w.heap.size+1) 88 (madeK ⟨q,i,1⟩ (args.drop r)))/\Hid (IntSl Tryz.prog 145 .u8 wr b ws.length ws.length (ws.map Int.ofNat))/\Hid (Below w.heap.size w wr)) (fun _ j _=>(intOf j+1).toNat)
   case atStart=>
    refine⟨ws.length,nlr,rfl,by rw[hlo2],?_,?_,?_,?_⟩
    ·show _=_
     rw[List.drop_of_length_le nlr,List.drop_of_length_le (by omega)];rfl
    ·show KpBlk _ _ _ _
     rw[List.drop_of_length_le (by omega)]
     exact h2.out.store ⟨q,i,1⟩
    ·show IntSl _ _ _ _ _ _ _ _
     exact((hW2.out.other (fun k hk=>hbb' k hk) _ _).other (fun k hk=>hbb' k hk) _ _).other (fun k hk=>hbb' k hk) _ _
    ·show Below _ _ _
     exact((hb2.setCell (by dsimp only;omega) _).setCell (by dsimp only;omega) _).setCell (by dsimp only;omega) _
   case round=>
    obtain⟨r,hr,rfl,rfl,HF,hBr,hWr,hbr⟩:=hrel;by_cases hr0:r=0
    ·subst hr0
     have HR:Hid (R=some (madeK ⟨q,i,1⟩ args)):=HT2.out.trans (if_pos (by have:=HF.out;simpa using this))
     have hD0:=hBr.out.c0;have hD1:=hBr.out.c1;have hD2:=hBr.out.c2;have hDf:=hBr.out.fz;have e1:((0:Nat):Int)-1=-1:=rfl;rw[e1];have hl0:lo+0=len-ws.length:=by omega
     rw[hl0];clear hl0 hlo2;go_wp2;refine bodyPost_ret (v:=.tuple #[.agg (kpCells (madeK ⟨q,i,1⟩ args)),.slice a (len-ws.length) cap,.bool true]) (by simp[results,Tryz.results63,go_sem,hD0,hD1,hD2,kpCells]) rfl ⟨by rw[HR.out];rfl,?_⟩
     exact((hbr.out.setCell (by dsimp only;omega) _).setCell (by dsimp only;omega) _).setCell (by dsimp only;omega) _
    ·obtain⟨r',rfl⟩:∃r',r=r'+1:=⟨r-1,by omega⟩
     have e1:((r'+1:Nat):Int)-1=(r':Int):=by omega
     rw[e1];have hra:r'<args.length:=by omega
     have hrw:r'<ws.length:=by omega
     have HF1:Hid _:=qez ws args r' hrw hra;have HM1:Hid _:=qeP ⟨q,i,1⟩ args r' hra;have hdr:=had args[r'] (List.getElem_mem hra);have hgw:g<w.heap.size:=hS.blk (by omega)
     obtain⟨hc0,hc1,hc2⟩:=hcell r' hra;rw[<-hbr.out.cell hgw]at hc0 hc1 hc2;have hidx:=fun w=>hS.idx (lo+(r'+1)) (lo+r') w (by omega) (by omega)
     have hwi:=fun w=>hWr.out.idx ws.length r' w hrw nlr
     have hwc:=hWr.out.cell r' hrw;have hwe:(ws.map Int.ofNat).getD r' 0=(ws[r']:Int):=by simp[List.getD_eq_getElem?_getD,hrw]
     rw[hwe]at hwc;have hlk:lo+(r'+1)=lo+r'+1:=rfl;have hLm:lo+r'+1<=1000000:=by omega
     rw[hlk]at hidx ⊢;obtain⟨K,hK⟩:∃K,K=lo+r':=⟨_,rfl⟩
     obtain⟨L,hL⟩:∃L,L=lo+r'+1:=⟨_,rfl⟩
     rw[<-hL]at hidx hLm ⊢;rw[<-hK]at hidx hc0 hc1 hc2 hL;have hw1:IntKind.i64.wrap ((L:Int)-1)=(K:Int):=by rw[IntKind.wrap_i64];omega
     have hKL:K<=L:=by omega
     have HKL:=hiq hK;have hKc:K<=cap:=by have:=hS.hcap;omega
     clear hK hL hlk hLm;have hw2:IntKind.i64.wrap ((r':Int)-1)=(r':Int)-1:=by rw[IntKind.wrap_i64];omega
     have hi:=fun w=>q3g args[r'] ws[r'] w
     have ho:=fun (m:Kp) w=>qba m args[r'] w hdr
     generalize args[r']=X at *;generalize ws[r']=W at *;obtain⟨x0,x1,x2⟩:=X;dsimp only[kpCells]at *
     have hT:=KpBlk.new wr 88 ⟨x0,x1,x2⟩;have hBt:Hid (KpBlk _ _ _ _):=hBr.out.up (qc wr (.cells (kpCells ⟨x0,x1,x2⟩) 88));have hWt:Hid (IntSl _ _ _ _ _ _ _ _):=hWr.out.up (qc wr (.cells (kpCells ⟨x0,x1,x2⟩) 88));have hbt:Hid (Below _ _ _):=qd hbr.out (qc wr (.cells (kpCells ⟨x0,x1,x2⟩) 88));have hwt:=hWt.out.cell r' hrw;have hwe':(ws.map Int.ofNat).getD r' 0=(W:Int):=hwe;rw[hwe']at hwt
     go_upto_region 9 with fail
     dsimp only[kpCells]at hT hBt hWt hbt hwt
     generalize hG:wr.alloc _=wt at *;have ht0:=hT.c0;have ht1:=hT.c1;have ht2:=hT.c2
     go_region_held3 (fun w'=>w'.cell? ⟨wr.heap.size,0,none⟩=some (.int .u8 (x0:Int))/\w'.cell? ⟨wr.heap.size,1,none⟩=some (.int .i64 (x1:Int))/\w'.cell? ⟨wr.heap.size,2,none⟩=some (.int .i64 (x2:Int))/\w'.cell? (adOf b r')=some (.int .u8 (W:Int))) (first|(simp[go_sem,ht0,ht1,ht2,hwt];done)|exact⟨qn ht0 (qd (Below.refl _ wt).drew hw3),qn ht1 (qd (Below.refl _ wt).drew hw3),qn ht2 (qd (Below.refl _ wt).drew hw3),qn hwt (qd (Below.refl _ wt).drew hw3)⟩) (first|(go_at_call 64;refine (hi _).mono ?_;rintro e w3 ⟨rfl,hw3⟩))
     have hw3':Below wt.heap.size wt w3:=qd (Below.refl _ wt).drew hw3;clear hw3;have hT3:=hT.up hw3';have hB3:Hid (KpBlk _ _ _ _):=hBt.out.up hw3';have hW3:Hid (IntSl _ _ _ _ _ _ _ _):=hWt.out.up hw3';have hb3:Hid (Below _ _ _):=qd hbt.out hw3'
     have hne:wr.heap.size≠w.heap.size+1:=by
      have h1:=hBr.out.lt;omega
     have HF0:Hid _:=HF1.out;have HM0:Hid _:=HM1.out;clear ht0 ht1 ht2 hwt hi hidx hwi hwc hc0 hc1 hc2 hC0 hC1 hC2 hCf hT hBt hWt hbt hG hw3' hwe hwe' HF1 HM1 h0;have ht0:=hT3.c0;have ht1:=hT3.c1;have ht2:=hT3.c2;have hm0:=hB3.out.c0;have hm1:=hB3.out.c1;have hm2:=hB3.out.c2;have hmf:=hB3.out.fz;generalize madeK ⟨q,i,1⟩ (args.drop (r'+1))=M at *;obtain⟨m0,m1,m2⟩:=M;generalize hz:isK x0 W=z at *;dsimp only at *
     cases z with
     |false=>
      have HR:Hid (R=none):=HT2.out.trans (if_neg (by
       have h1:fitsK (ws.drop r') (args.drop r')=false:=by rw[HF0.out];rfl
       rw[qai r' ws args h1 (by omega)];simp))
      go_wp2;refine bodyPost_ret (v:=.tuple #[.agg #[.int .u8 0,.int .i64 0,.int .i64 0],.slice none 0 0,.bool false]) (by simp[results,Tryz.results63,go_sem,hm0,hm1,hm2]) rfl ⟨by rw[HR.out];rfl,?_⟩
      exact((hb3.out.setCell (by dsimp only;omega) _).setCell (by dsimp only;omega) _).setCell (by dsimp only;omega) _
     |true=>
      obtain rfl:a=some ⟨g,0,none⟩:=by
       rcases hS.sh with h|h
       ·have:=hS.hcap;omega
       ·exact h
      go_wp2_with fail
      refine (ho ⟨m0,m1,m2⟩ _).mono ?_
      rintro e w4 ⟨rfl,hw4⟩
      have hB4:Hid (KpBlk _ _ _ _):=hB3.out.up hw4;have hW4:Hid (IntSl _ _ _ _ _ _ _ _):=hW3.out.up hw4;have hb4:Hid (Below _ _ _):=qd hb3.out hw4;clear hw4 hm0 hm1 hm2 hmf ht0 ht1 ht2 hT3 hB3 hW3 hb3;have hm0:=hB4.out.c0;have hm1:=hB4.out.c1;have hm2:=hB4.out.c2;have hmf:=hB4.out.fz;have HO:Hid (KpBlk _ _ _ _):=hB4.out.store (overK ⟨m0,m1,m2⟩ ⟨x0,x1,x2⟩);have HFr:Hid (fitsK (ws.drop r') (args.drop r')=true):=by show _=_;rw[HF0.out,HF.out];rfl
      generalize overK ⟨m0,m1,m2⟩ ⟨x0,x1,x2⟩=O at *;obtain⟨o0,o1,o2⟩:=O;dsimp only[kpCells]at *
      go_wp2
      go_roundw
      case rel=>
       refine⟨r',by omega,rfl,by rw[HKL.out],HFr,?_,?_,?_⟩
       ·show KpBlk _ _ _ _
        rw[HM0.out];exact HO.out
       ·show IntSl _ _ _ _ _ _ _ _
        exact((hW4.out.other (fun k hk=>hbb' k hk) _ _).other (fun k hk=>hbb' k hk) _ _).other (fun k hk=>hbb' k hk) _ _
       ·show Below _ _ _
        exact((hb4.out.setCell (by dsimp only;omega) _).setCell (by dsimp only;omega) _).setCell (by dsimp only;omega) _
      case measure=>simp[intOf]
def encK (ks:List Kp):List Value:=ks.flatMap fun p=>(kpCells p).toList
theorem q48(p:Kp)(ks:List Kp):encK (p::ks)=.int .u8 (p.k:Int) :: .int .i64 (p.b:Int) :: .int .i64 (p.d:Int)::encK ks:=rfl
theorem qdA(xs ys:List Kp):encK (xs++ys)=encK xs++encK ys:=by simp[encK]
theorem q7c:∀ks:List Kp,(encK ks).length=ks.length*3
 | []=>rfl
 |p::ks=>by rw[q48];simp[q7c ks];omega
theorem q50:∀(ks:List Kp) (k:Nat) (h:k<ks.length),(encK ks)[3*k]? =some (.int .u8 (ks[k].k:Int))/\(encK ks)[3*k+1]? =some (.int .i64 (ks[k].b:Int))/\(encK ks)[3*k+2]? =some (.int .i64 (ks[k].d:Int))
 | [],k,h=>absurd h (by simp)
 |p::ks,0,_=>⟨rfl,rfl,rfl⟩
 |p::ks,k+1,h=>by
  have:=q50 ks k (by simpa using h)
  rw[q48,show 3*(k+1)+2=(3*k+2)+1+1+1 by omega,show 3*(k+1)+1=(3*k+1)+1+1+1 by omega,show 3*(k+1)=3*k+1+1+1 by omega]
  simpa using this
theorem qgm(ks:List Kp):∀u∈encK ks,u.oneCell'=true:=by
 intro u hu;unfold encK at hu;obtain⟨p,_,hc⟩:=List.mem_flatMap.1 hu;simp[kpCells]at hc
 rcases hc with rfl|rfl|rfl<;>rfl
theorem qfh(ks:List Kp)(m:Nat):(encK ks).take (m*3)=encK (ks.take m):=by
 induction ks generalizing m with
 |nil=>simp[encK]
 |cons p ks ih=>
  cases m with
  |zero=>simp[encK]
  |succ m=>rw[q48,show (m+1)*3=m*3+1+1+1 by omega,List.take_succ_cons,List.take_succ_cons,List.take_succ_cons,ih,List.take_succ_cons,q48]
theorem q4i:(Tryz.prog.info? 88).map (·.size)=some 3:=by kernel_rfl
theorem qda:(Tryz.prog.info? 88).map (fun i=>(i.zero,i.size,i.bytes))=some (some (.agg #[.int .u8 0,.int .i64 0,.int .i64 0]),3,24):=by kernel_rfl
theorem qhN{P:Program}{T e:TypeId}(hu:P.underlying T=some (.slice e))(hs:(P.info? e).map (·.size)=some 3){g cap n:Nat}(k:Nat)(w:World)(hk:k<n):
  (Instr.indexAt T (.slice (some ⟨g,0,none⟩) n cap) (.int .i64 k)).run P w=.ok (.pointer (some ⟨g,3*k,none⟩)) w:=by
 simp[Instr.indexAt,run_underlying hu,asIntOf,q4n hs,hk,Result.andThen,go_sem,qg,Nat.mul_comm]
theorem qcN{P:Program}{T e:TypeId}{w:World}{base n:Nat}{v:Value}{ks:List Kp}(h:w.ownsRow base e 3 v n (encK ks))(hu:P.underlying T=some (.slice e))(hs:(P.info? e).map (·.size)=some 3):
  ∃a g cap,v=.slice a n cap/\KpSl P T w a g n cap ks/\∀m,m<=n->w.ownsRow base e 3 (.slice a m cap) m (encK (ks.take m))/\(Value.slice a m cap).ownBlock=v.ownBlock:=by
 have h':=h;obtain⟨hl,h⟩:=h;rw[q7c]at hl;have hl':ks.length=n:=by omega
 rcases h with⟨rfl,rfl⟩|⟨g,cap,cur,rfl,hg,hcell,hnc,hcm,hsz,htk⟩
 ·obtain rfl:=List.eq_nil_of_length_eq_zero hl'
  refine⟨none,0,0,rfl,⟨rfl,Nat.le_refl _,Nat.zero_le _,Or.inl ⟨rfl,rfl⟩,fun n k w h1 h2=>absurd h1 (by omega),fun k h=>absurd h (by simp),fun k h=>absurd h (by simp),fun k h=>absurd h (by simp),fun h=>absurd h (by omega)⟩,fun m hm=>?_⟩
  obtain rfl:m=0:=by omega
  exact⟨h',rfl⟩
 ·have hlt:g<w.heap.size:=(aes hcell).1
  have key:∀j,j<n*3->w.cell? ⟨g,j,none⟩=(encK ks)[j]? := fun j hj=>by
   rw[<-htk,List.getElem?_take,if_pos hj];simp[World.cell?,hcell]
  refine⟨some ⟨g,0,none⟩,g,cap,rfl,⟨hl',hnc,hcm,Or.inr rfl,fun m k w hk hm=>qhN hu hs k w hk,fun k hk=>?_,fun k hk=>?_,fun k hk=>?_,fun _=>hlt⟩,fun m hm=>?_⟩
  ·rw[key _ (by omega)];exact(q50 ks k hk).1
  ·rw[key _ (by omega)];exact(q50 ks k hk).2.1
  ·rw[key _ (by omega)];exact(q50 ks k hk).2.2
  ·refine⟨⟨by rw[q7c,List.length_take];omega,Or.inr ⟨g,cap,cur,rfl,hg,hcell,by omega,hcm,hsz,?_⟩⟩,rfl⟩
   rw[<-qfh,<-htk,List.take_take,Nat.min_eq_left (by omega)]
theorem KpBlk.cells{w:World}{g:Nat}{t:TypeId}{p:Kp}(h:KpBlk w g t p):∀j u,(kpCells p).toList[j]? =some u->w.cell? ((⟨g,0,none⟩:Addr).add j)=some u:=by
 intro j u hj;rw[qg,Nat.zero_add];unfold KpBlk at h;simp only[World.cell?,h]
 simpa using hj
theorem KpBlk.grown{w w':World}{g:Nat}{t:TypeId}{p:Kp}{row:Option Nat}(h:KpBlk w g t p)(hg:w.grownBy w' row)(hne:row≠some g):KpBlk w' g t p:=(hg.block g h.lt (fun e=>hne e.symm)).trans h
theorem q4q{w:World}{ops:Array Oper}{rest:List Oper}{o:Oper}{a:Act}{Q:Exit->Act->World->Prop}(hgd:o.guard=none)(s x:Operand)
  (ho:o.op=.call { callee:=.builtin .append,args:=#[s,x],argTypes:=#[61,61] }) (base:Nat)
  (v:Value) (n:Nat) (ks:List Kp) (hs:a.eval s=v) (hown:w.ownsRow base 88 3 v n (encK ks)) (g:Nat) (p:Kp) (hx:a.eval x=.slice (some ⟨g,0,none⟩) 1 1) (hB:KpBlk w g 88 p)
  (hn:n<=1000000) (hbase:base<=w.heap.size)
  (h:∀v' w',w'.ownsRow base 88 3 v' (n+1) (encK (ks++[p]))->w.grownBy w' v.ownBlock->(v'.ownBlock=v.ownBlock\/v'.ownBlock=some w.heap.size)->wpList Tryz.prog ops Q rest (a.put o.dst v') w'):wpList Tryz.prog ops Q (o::rest) a w:=by
 obtain⟨i,hi,hz0,hz1,hz2⟩:=info_parts qda;refine wpList_append_own_at w hgd s x 61 ho base 88 i _ 3 24 Tryz.underlying61 hi hz0 hz1 hz2 rfl (by decide) v n _ hs hown ⟨g,0,none⟩ 1 1 (kpCells p).toList hx rfl hB.cells (fun u hu=>qgm [p] u (by simpa [encK] using hu)) (by unfold maxLen;omega) (by omega) hbase ?_
 intro v' w' h1 h2 _ h3;exact h v' w' (by rw[qdA];simpa [encK] using h1) h2 h3
theorem qf0(op p i:Nat)(st:List Pt)(hs:∀x∈st,Sane x):takeK op p i (st.map kp)=match takesN (op,p) with|none=>none|some n=>if st.length<n then none else if fitsP op (st.drop (st.length-n)) then some (kp (putP (op,p) (st.drop (st.length-n)) i)) else none:=by
 unfold takeK
 cases hm:mayB op p with
 |false=>rw[q2s,hm];rfl
 |true=>
  have ht:takesN (op,p)=some (takesK op).length:=by rw[q2s,hm];rfl
  rw[ht];simp only[if_true,List.length_map]
  by_cases hl:st.length<(takesK op).length
  ·rw[if_pos hl,if_pos hl]
  ·rw[if_neg hl,if_neg hl,<-List.map_drop]
   have hdl:(st.drop (st.length-(takesK op).length)).length=(takesK op).length:=by simp;omega
   have hds:∀x∈st.drop (st.length-(takesK op).length),Sane x:=fun x hx=>hs x (List.mem_of_mem_drop hx)
   rw[qdD ht hdl hds];by_cases hf:fitsP op (st.drop (st.length-(takesK op).length))=true
   ·rw[if_pos hf,if_pos hf,qeO ht hdl hf hds]
   ·rw[if_neg hf,if_neg hf]
theorem q8x{t:Tk}{r:List Tk}{i:Nat}{st:List Pt}:readP (t::r) i st=match takesN t with|none=>none|some n=>if st.length<n then none else if fitsP t.1 (st.drop (st.length-n)) then (readP r (i+1) (st.take (st.length-n)++[putP t (st.drop (st.length-n)) i])).map (fun x=>(putP t (st.drop (st.length-n)) i::x.1,x.2)) else none:=by
 rw[readP];cases takesN t<;>rfl
theorem qgZ{t:Tk}{a:List Pt}{i k:Nat}(h:∀x∈a,x.dep<=k):(putP t a i).dep<=k+1:=by
 show a.foldl _ 1<=k+1
 have key:∀(a:List Pt) (d:Nat),d<=k+1->(∀x∈a,x.dep<=k)->a.foldl (fun d x=>max d (x.dep+1)) d<=k+1:=by
  intro a
  induction a with
  |nil=>intro d hd _;exact hd
  |cons y r ih=>intro d hd hx;exact ih _ (by have:=hx y (by simp);dsimp only;omega) (fun x h=>hx x (List.mem_cons_of_mem _ h))
 exact key a 1 (by omega) h
def ReadK (T:TypeId) (want:Nat) (r:Option (List Pt×List Pt)) (w:World) (e:Ending) (w':World):Prop :=
 match r with
 |none=>e=.returned (.tuple #[.slice none 0 0,.bool false])
 |some x=>∃v,e=.returned (.tuple #[v,.bool (oneK x.2 want)])/\w'.ownsRow w.heap.size T 3 v x.1.length (encK (x.1.map kp))
theorem qeV{op pp k:Nat}{st all:List Pt}{r:List Tk}{R:Option (List Pt×List Pt)}(HX:R=Option.map (fun x=>(all++x.1,x.2)) (readP ((op,pp)::r) k st))(hs:∀x∈st,Sane x)(hd:∀x∈st,x.dep<=k):
  (takeK op pp k (st.map kp)=none/\R=none)\/∃p,takeK op pp k (st.map kp)=some (kp p)/\(takesK op).length<=st.length/\R=(readP r (k+1) (st.take (st.length-(takesK op).length)++[p])).map (fun x=>(all++[p]++x.1,x.2))/\Sane p/\p.dep<=k+1:=by
 rw[q8x]at HX;rw[qf0 op pp k st hs]
 cases ht:takesN (op,pp) with
 |none=>rw[ht]at HX;exact Or.inl ⟨rfl,HX⟩
 |some n=>
  have hn:n=(takesK op).length:=by
   have h2:=ht;rw[q2s]at h2
   split at h2
   ·injection h2 with h2;exact h2.symm
   ·cases h2
  subst hn;rw[ht]at HX;simp only at HX ⊢
  by_cases hl:st.length<(takesK op).length
  ·rw[if_pos hl]at HX;rw[if_pos hl];exact Or.inl ⟨rfl,HX⟩
  ·rw[if_neg hl]at HX;rw[if_neg hl]
   by_cases hf:fitsP op (st.drop (st.length-(takesK op).length))=true
   ·rw[if_pos hf]at HX;rw[if_pos hf]
    refine Or.inr ⟨_,rfl,by omega,?_,qaB _ _ _,qgZ (fun x hx=>hd x (List.mem_of_mem_drop hx))⟩
    rw[HX,Option.map_map]
    congr 1
    funext x
    simp
   ·rw[if_neg hf]at HX;rw[if_neg hf];exact Or.inl ⟨rfl,HX⟩
theorem qbm(a:Option Addr)(len cap want:Nat)(ts:List Tk)(w:World)(hT:TkSl w a len cap ts)(hn:len<=1000):
  Calls Tryz.prog 45 #[.slice a len cap,.int .u8 (want:Int)] w fun e w'=>ReadK 88 want (readP ts 0 []) w e w'/\Below w.heap.size w w':=by
 have hlen:=hT.hlen;go_enter Tryz.func45,Tryz.ntmps45
 go_wp2
 go_loopw [4,6,14] (fun v1 v2 j wr=>∃(k:Nat) (all st:List Pt),k<=len/\j=.int .i64 k/\all.length=k/\st.length<=k/\(∀x∈st,x.dep<=k)/\(∀x∈st,Sane x)/\Hid (readP ts 0 []=(readP (ts.drop k) k st).map fun x=>(all++x.1,x.2))/\Hid (wr.ownsRow w.heap.size 88 3 v1 all.length (encK (all.map kp)))/\Hid (wr.ownsRow w.heap.size 88 3 v2 st.length (encK (st.map kp)))/\Hid (∀b1,v1.ownBlock=some b1->v2.ownBlock≠some b1)/\Hid (Below w.heap.size w wr)) (fun _ _ j _=>len-(intOf j).toNat)
 case atStart=>exact⟨0,[],[],Nat.zero_le _,rfl,rfl,Nat.le_refl _,by simp,by simp,by show _=_;simp,⟨rfl,Or.inl ⟨rfl,rfl⟩⟩,⟨rfl,Or.inl ⟨rfl,rfl⟩⟩,fun b h=>by simp[Value.ownBlock]at h,Below.refl _ _⟩
 case round=>
  obtain⟨k,all,st,hk,rfl,hal,hst,hdp,hsn,HR,HO1,HO2,HD,hbk⟩:=hrel;by_cases hlt:k<len
  ·have hkl:k<ts.length:=by omega
   obtain⟨g,o,s,hidx0,hc0,hc1,hgw,_⟩:=(hT.up hbk.out).at Tryz.underlying22 q1G k hlt;have hidx:=fun w'=>hidx0 len w' hlt
   clear hidx0;have hokk:=hT.ok ts[k] (List.getElem_mem hkl);have HC:Hid _:=List.drop_eq_getElem_cons hkl;have HS:Hid _:=HR.out.trans (congrArg _ (congrFun (congrFun (congrArg readP HC.out) k) st));generalize ts[k]=t at *;obtain⟨op,pp⟩:=t;dsimp only at *
   obtain⟨a2,g2,cap2,rfl,hK2,hcut⟩:=qcN HO2.out Tryz.underlying61 q4i;have hTk:TkSl _ _ _ _ _:=hT
   have hsd:∀x∈st.map kp,x.d<=1000000:=fun x hx=>by
    obtain⟨y,hy,rfl⟩:=List.mem_map.1 hx;have:=hdp y hy
    show y.dep<=1000000;omega
   have htk:=fun w' (h:KpSl Tryz.prog 61 w' a2 g2 st.length cap2 (st.map kp))=>qbs op pp k a2 g2 st.length cap2 (st.map kp) w' h hsd (by omega)
   have hnb:=Blk.new wr 90 op pp;have hK3:=hK2.up (qc wr (.cells #[.int .u8 (op:Int),.int .u8 (pp:Int)] 90));have hb3:Hid (Below _ _ _):=qd hbk.out (qc wr (.cells #[.int .u8 (op:Int),.int .u8 (pp:Int)] 90));have hO13:Hid _:=q1b HO1.out (qc wr (.cells #[.int .u8 (op:Int),.int .u8 (pp:Int)] 90));have hO23:Hid _:=q1b HO2.out (qc wr (.cells #[.int .u8 (op:Int),.int .u8 (pp:Int)] 90));rcases qeV HS.out hsn hdp with⟨h1,h2⟩|⟨p,h1,hnl,h2,hps,hpd⟩
   ·have HX:Hid _:=h2
    rw[h1]at htk;clear h1 h2 HS HR
    go_wp2_with fail
    refine (htk _ hK3).mono ?_
    rintro e w3 ⟨rfl,hw3⟩
    have hb4:Hid (Below _ _ _):=qd hb3.out hw3;go_wp2;go_ret2
    exact⟨by rw[HX.out];rfl,hb4.out.alloc (by have:=hb4.out.size;omega) _⟩
   ·have HX:Hid _:=h2
    rw[h1]at htk;clear h1 h2 HS HR;generalize (takesK op).length=n at *;have hcut1:Hid _:=hcut (st.length-n) (by omega)
    obtain⟨m,hm⟩:∃m,m=st.length-n:=⟨_,rfl⟩
    rw[<-hm]at hcut1 HX;obtain⟨v2,hv2⟩:∃v2,v2=Value.slice a2 m cap2:=⟨_,rfl⟩
    rw[<-hv2]at hcut1
    have htk2:∀w',KpSl Tryz.prog 61 w' a2 g2 st.length cap2 (st.map kp)->Calls Tryz.prog 63 #[.slice a2 st.length cap2,.agg #[.int .u8 (op:Int),.int .u8 (pp:Int)],.int .i64 (k:Int)] w' fun e w''=>e=.returned (.tuple #[.agg (kpCells (kp p)),v2,.bool true])/\Below w'.heap.size w' w'':=fun w' h=>by
     rw[hv2,hm];exact htk w' h
    have hmk:m<=st.length:=by omega
    clear htk hcut hv2 hm;have HD2:Hid (∀b1,u4.ownBlock=some b1->v2.ownBlock≠some b1):=fun b1 h=>by rw[hcut1.out.2];exact HD.out b1 h
    go_wp2_with fail
    refine (htk2 _ hK3).mono ?_
    rintro e w3 ⟨rfl,hw3⟩
    have hb4:Hid (Below _ _ _):=qd hb3.out hw3;have hO14:Hid _:=q1b hO13.out hw3;have hO24:Hid _:=q1b (q1b hcut1.out.1 (qc wr (.cells #[.int .u8 (op:Int),.int .u8 (pp:Int)] 90))) hw3;clear hw3 hO13 hO23 hK3 htk2 hcut1;have hm1:=hb4.out.size;generalize hkp:kp p=P at *;have HA:Hid (KpBlk (w3.alloc (.cells (kpCells P) 88)) w3.heap.size 88 P):=KpBlk.new w3 88 P;have hsz1:(w3.alloc (.cells (kpCells P) 88)).heap.size=w3.heap.size+1:=by simp
    have HA2:Hid (KpBlk _ _ _ _):=KpBlk.new (w3.alloc (.cells (kpCells P) 88)) 88 P;rw[hsz1]at HA2;have HA1:Hid (KpBlk _ _ _ _):=KpBlk.up HA.out (qc _ (.cells (kpCells P) 88));have HO1:Hid _:=World.ownsRow.alloc (World.ownsRow.alloc hO14.out (.cells (kpCells P) 88)) (.cells (kpCells P) 88);have HO2:Hid _:=World.ownsRow.alloc (World.ownsRow.alloc hO24.out (.cells (kpCells P) 88)) (.cells (kpCells P) 88);have hb5:Hid (Below w.heap.size w ((w3.alloc (.cells (kpCells P) 88)).alloc (.cells (kpCells P) 88))):=(hb4.out.alloc (by omega) _).alloc (by simp;omega) _
    obtain⟨p0,p1,p2⟩:=P;dsimp only[kpCells]at *
    rw[<-List.map_take]at HO2
    go_wp2_with (at_builtin;refine q4q rfl _ _ rfl w.heap.size _ m ((st.take m).map kp) rfl HO2.out (w3.heap.size+1) ⟨p0,p1,p2⟩ rfl HA2.out (by omega) (by simp;omega) ?_)
    intro v3 w5 hown3 hgr3 hat3;have hlt2:=World.ownsRow.lt hO24.out;have hlt1:=World.ownsRow.lt hO14.out;have HB5:Hid (KpBlk w5 w3.heap.size 88 ⟨p0,p1,p2⟩):=KpBlk.grown HA1.out hgr3 (fun e=>by have:=hlt2 _ e;omega)
    have HO15:Hid _:=World.ownsRow.kept HO1.out hgr3 (by
     cases h4:u4.ownBlock with
     |none=>exact Or.inl rfl
     |some j=>exact Or.inr (fun e=>HD2.out j h4 e.symm))
    have HO25:Hid _:=hown3;have hb6:Hid (Below w.heap.size w w5):=hb5.out.grown hgr3 (by simp;omega) (fun j e=>(hlt2 j e).1)
    have hsw5:=hb6.out.size;have hsz5:=hgr3.size
    have HD3:Hid (∀b1,u4.ownBlock=some b1->v3.ownBlock≠some b1):=fun b1 h e=>by
     rcases hat3 with h3|h3
     ·rw[h3]at e;exact HD2.out b1 h e
     ·rw[h3]at e;injection e with e;have:=hlt1 b1 h;omega
    have hs5:w3.heap.size+1+1<=w5.heap.size:=by have:=hgr3.size;simpa using this
    clear hown3 hgr3 hat3 HO2 HO1 hb5 HA HA1 HA2 hO24 HD2 hsz5;have h50:=HB5.out.c0;have h51:=HB5.out.c1;have h52:=HB5.out.c2;have HN:Hid (KpBlk _ _ _ _):=KpBlk.new w5 88 ⟨p0,p1,p2⟩;have HO6:Hid _:=World.ownsRow.alloc HO15.out (.cells (kpCells ⟨p0,p1,p2⟩) 88)
    go_wp2_with (at_builtin;refine q4q rfl _ _ rfl w.heap.size _ all.length (all.map kp) rfl HO6.out w5.heap.size ⟨p0,p1,p2⟩ rfl HN.out (by omega) (by simp;omega) ?_)
    intro v6 w6 hown6 hgr6 hat6;have HO7:Hid _:=hown6
    have hO26:Hid _:=World.ownsRow.kept (World.ownsRow.alloc HO25.out (.cells (kpCells ⟨p0,p1,p2⟩) 88)) hgr6 (by
     cases h4:v3.ownBlock with
     |none=>exact Or.inl rfl
     |some j=>exact Or.inr (fun e=>HD3.out j e.symm h4))
    have hb7:Hid (Below w.heap.size w w6):=(hb6.out.alloc (by omega) _).grown hgr6 (by simp;omega) (fun j e=>(hlt1 j e).1)
    have hlt3:=World.ownsRow.lt HO25.out
    have HD4:Hid (∀b1,v6.ownBlock=some b1->v3.ownBlock≠some b1):=fun b1 h e=>by
     rcases hat6 with h3|h3
     ·rw[h3]at h;exact HD3.out b1 h e
     ·rw[h3]at h;injection h with h;have:=hlt3 b1 e;omega
    clear hown6 hgr6 hat6 h50 h51 h52;go_wp2
    go_roundw
    case rel=>
     refine⟨k+1,all++[p],st.take m++[p],by omega,by go_num,by simp;omega,by simp;omega,?_,?_,?_,?_,?_,HD4,hb7⟩
     ·intro x hx
      rcases List.mem_append.1 hx with h|h
      ·have:=hdp x (List.mem_of_mem_take h);omega
      ·rw[List.mem_singleton.1 h];exact hpd
     ·intro x hx
      rcases List.mem_append.1 hx with h|h
      ·exact hsn x (List.mem_of_mem_take h)
      ·rw[List.mem_singleton.1 h];exact hps
     ·exact HX.out
     ·show World.ownsRow _ _ _ _ _ _ _
      have h:=HO7.out;rw[List.map_append,List.length_append]
      show World.ownsRow _ _ _ _ _ (all.length+1) (encK (all.map kp++[kp p]))
      rw[hkp,hal];exact h
     ·show World.ownsRow _ _ _ _ _ _ _
      have h:=hO26.out;rw[List.map_append,List.length_append,List.length_take,Nat.min_eq_left hmk]
      show World.ownsRow _ _ _ _ _ (m+1) (encK ((st.take m).map kp++[kp p]))
      rw[hkp,List.map_take];exact h
    case measure=>simp[intOf];omega
  ·obtain rfl:k=len:=by omega
   have HX:Hid (readP ts 0 []=some (all,st)):=by
    show _=_
    have h:=HR.out;rw[List.drop_of_length_le (by omega)]at h
    rw[h];simp[readP]
   obtain⟨a2,g2,cap2,rfl,hK2,hcut⟩:=qcN HO2.out Tryz.underlying61 q4i;clear hcut;by_cases h1:st.length=1
   ·obtain⟨q,rfl⟩:=List.length_eq_one_iff.1 h1
    have hidx:∀w',(Instr.indexAt 61 (.slice a2 1 cap2) (.int .i64 0)).run Tryz.prog w'=.ok (.pointer (some ⟨g2,3*0,none⟩)) w':=fun w'=>hK2.idx 1 0 w' (by decide) nlr
    have hc0:wr.cell? ⟨g2,3*0,none⟩=some (.int .u8 ((kp q).k:Int)):=hK2.c0 0 (by simp)
    have hc1:wr.cell? ⟨g2,3*0+1,none⟩=some (.int .i64 ((kp q).b:Int)):=hK2.c1 0 (by simp)
    have hc2:wr.cell? ⟨g2,3*0+2,none⟩=some (.int .i64 ((kp q).d:Int)):=hK2.c2 0 (by simp)
    have hi:=fun w=>q3g (kp q) want w
    have HI:Hid ((kp q).k=kindOf q):=rfl;generalize kp q=qk at *;obtain⟨q0,q1,q2⟩:=qk;generalize 3*0=z0 at *;dsimp only[kpCells,List.length_singleton]at *
    go_wp2_with fail
    refine (hi _).mono ?_
    rintro e w3 ⟨rfl,hw3⟩
    have HO8:Hid _:=q1b HO1.out hw3;have hb8:Hid (Below _ _ _):=qd hbk.out hw3;go_wp2;go_ret2
    refine⟨?_,hb8.out⟩
    rw[HX.out];refine⟨u4,?_,HO8.out⟩
    show _=Ending.returned (.tuple #[u4,.bool (isK (kindOf q) want)])
    rw[<-HI.out];rfl
   ·have hq:((st.length:Int)==1)=false:=by rw[bqn];omega
    go_wp2;go_ret2
    refine⟨?_,hbk.out⟩
    rw[HX.out];refine⟨_,?_,HO1.out⟩
    match st,h1 with
    | [],_=>rfl
    | [q],h1=>exact absurd rfl h1
    |x::y::r,_=>rfl
def LookR (T:TypeId) (E:Nat) (all:List Pt) (w:World) (e:Ending) (w':World):Prop :=
 ∃v,e=.returned (.tuple #[v,.int .i64 (E:Int)])/\(E=0->w'.ownsRow w.heap.size T 3 v all.length (encK (all.map kp)))/\(E≠0->v=.slice none 0 0)
theorem qfT{ts:List Tk}{all:List Pt}{p:Pt}(h:readP ts 0 []=some (all,[p])):∃q,all=q++[p]:=by
 obtain⟨t,h1,h2,h3,h4⟩:=q3X.1 h;obtain⟨q,hq,_⟩:=qeU t 0;exact⟨q,by rw[h3,hq,h4]⟩
theorem q6N:∀(ts:List Tk) (i:Nat) (st all s:List Pt),readP ts i st=some (all,s)->all.length=ts.length
 | [],i,st,all,s,h=>by unfold readP at h;injection h with h;injection h with h1 h2;rw[<-h1];rfl
 |t::r,i,st,all,s,h=>by
  rw[q8x]at h
  split at h
  ·cases h
  ·split at h
   ·cases h
   ·split at h
    ·cases hr:readP r (i+1) (st.take (st.length-_)++[putP t (st.drop (st.length-_)) i]) with
     |none=>rw[hr]at h;cases h
     |some x=>
      rw[hr]at h;injection h with h;injection h with h1 h2;rw[<-h1,List.length_cons,q6N r _ _ x.1 x.2 hr,List.length_cons]
    ·cases h
theorem qb6(a:Option Addr)(len cap want:Nat)(ts:List Tk)(w:World)(hT:TkSl w a len cap ts):
  Calls Tryz.prog 25 #[.slice a len cap,.int .u8 (want:Int)] w fun e w'=>LookR 88 (lookE ts want) (allP ts) w e w'/\Below w.heap.size w w':=by
 have hlen:=hT.hlen;have hlm:=hT.hcap;have hbm:=hT.bd;by_cases h512:512<len
 ·have HE:Hid (lookE ts want=3):=by show _=_;unfold lookE;rw[if_pos (by omega)]
  have hg:(512:Int)<(len:Int):=by omega
  go_enter Tryz.func25,Tryz.ntmps25
  go_wp2;go_ret2
  rw[HE.out];exact⟨⟨_,rfl,fun h=>absurd h (by decide),fun _=>rfl⟩,Below.refl _ _⟩
 ·have hg:¬512<len:=h512
  have hr:=fun w' (h:TkSl w' a len cap ts)=>qbm a len cap want ts w' h (by omega)
  have HE:Hid (lookE ts want=lookOf (readP ts 0 []) want):=by show _=_;unfold lookE;rw[if_neg (by omega)]
  have HA:Hid (allP ts=match readP ts 0 [] with|some x=>x.1|none=>[]):=rfl
  have HL:Hid (∀all p,readP ts 0 []=some (all,[p])->∃q,all=q++[p]):=fun all p h=>qfT h
  have HN:Hid (∀all st,readP ts 0 []=some (all,st)->all.length=ts.length):=fun all st h=>q6N ts 0 [] all st h
  generalize lookE ts want=E at *;generalize allP ts=A at *;go_enter Tryz.func25,Tryz.ntmps25
  go_wp2_with fail
  refine (hr _ hT).mono ?_
  rintro e w1 ⟨hR,hw1⟩
  generalize readP ts 0 []=R at *
  cases R with
  |none=>
   have he:e=_:=hR;subst he;have HE7:Hid (E=7):=HE.out;go_wp2;go_ret2
   rw[HE7.out];exact⟨⟨_,rfl,fun h=>absurd h (by decide),fun _=>rfl⟩,hw1⟩
  |some x=>
   obtain⟨all,st⟩:=x;obtain⟨v,rfl,hown⟩:=hR;have HOW:Hid _:=hown;have HAE:Hid (A=all):=HA.out;have HNL:Hid (all.length=ts.length):=HN.out all st rfl;clear hown HA HN;by_cases hone:∃p,st=[p]
   ·obtain⟨p,rfl⟩:=hone
    have HE2:Hid (E=if isK (kindOf p) want then (if 64<p.dep then 8 else 0) else 7):=HE.out
    obtain⟨q,hq⟩:=HL.out all p rfl;clear HE HL;have hoz:oneK [p] want=isK (kindOf p) want:=rfl;dsimp only
    rw[hoz];generalize isK (kindOf p) want=z at *;clear hoz
    cases z with
    |false=>
     have HE7:Hid (E=7):=HE2.out;go_wp2;go_ret2
     rw[HE7.out];exact⟨⟨_,rfl,fun h=>absurd h (by decide),fun _=>rfl⟩,hw1⟩
    |true=>
     obtain⟨a2,g2,cap2,rfl,hK2,_⟩:=qcN HOW.out Tryz.underlying61 q4i;have hql:all.length=q.length+1:=by rw[hq];simp
     have hall:=HNL.out;have hidx:=fun w'=>hK2.idx all.length q.length w' (by omega) nlr
     have hc2:=hK2.c2 q.length (by simp;omega)
     have hce:(all.map kp)[q.length]'(by simp;omega)=kp p:=by simp[hq]
     rw[hce]at hc2;have hc2':w1.cell? ⟨g2,3*q.length+2,none⟩=some (.int .i64 (p.dep:Int)):=hc2;have hw:IntKind.i64.wrap ((all.length:Int)-1)=(q.length:Int):=by rw[IntKind.wrap_i64];omega
     have HOW2:Hid (A.length=all.length/\A=all):=⟨by rw[HAE.out],HAE.out⟩
     clear hc2 hce hq hr hall HNL HAE hK2;generalize p.dep=d at *;generalize q.length=L at *;obtain⟨M,hM⟩:∃M,M=all.length:=⟨_,rfl⟩
     rw[<-hM]at hidx hw hql ⊢;have HM:=hiq hM;clear hM hql;by_cases hd:64<d
     ·have HE8:Hid (E=8):=HE2.out.trans (if_pos hd)
      have hd':(64:Int)<(d:Int):=by omega
      go_wp2;go_ret2
      rw[HE8.out];exact⟨⟨_,rfl,fun h=>absurd h (by decide),fun _=>rfl⟩,hw1⟩
     ·have HE0:Hid (E=0):=HE2.out.trans (if_neg hd)
      go_wp2;go_ret2
      rw[HE0.out];exact⟨⟨_,rfl,fun _=>by rw[HOW2.out.2,HM.out];exact HOW.out,fun h=>absurd rfl h⟩,hw1⟩
   ·have hf:oneK st want=false:=by
     match st,hone with
     | [],_=>rfl
     | [p],h=>exact absurd ⟨p,rfl⟩ h
     |x::y::r,_=>rfl
    have HE7:Hid (E=7):=by
     show _=_
     rw[HE.out]
     match st,hone with
     | [],_=>rfl
     | [p],h=>exact absurd ⟨p,rfl⟩ h
     |x::y::r,_=>rfl
    dsimp only
    rw[hf];go_wp2;go_ret2
    rw[HE7.out];exact⟨⟨_,rfl,fun h=>absurd h (by decide),fun _=>rfl⟩,hw1⟩
theorem q4s(a:Option Addr)(len cap:Nat)(ts:List Tk)(w:World)(hT:TkSl w a len cap ts):
  Calls Tryz.prog 8 #[.slice a len cap] w fun e w'=>e=.returned (.int .i64 (lookE ts 1:Int))/\Below w.heap.size w w':=by
 have hl:=fun w' (h:TkSl w' a len cap ts)=>qb6 a len cap 1 ts w' h
 generalize lookE ts 1=E at *;go_enter Tryz.func8,Tryz.ntmps8
 go_wp2_with fail
 refine (hl _ hT).mono ?_
 rintro e w1 ⟨⟨v,rfl,_,_⟩,hw1⟩
 go_wp2;go_ret
 exact⟨rfl,hw1⟩
theorem qfb{w:World}{g:Nat}{t:TypeId}{a b:Nat}(h:Blk w g t a b)(ha:a<256)(hb:b<256):TkSl w (some ⟨g,0,none⟩) 1 1 [(a,b)]:=by
 refine⟨rfl,nlr,by decide,fun hn=>(nomatch hn),fun x hx k hk=>?_,fun x hx k hk=>?_,fun t ht=>?_⟩
 ·injection hx with hx;subst hx
  obtain rfl:k=0:=by simpa using hk
  exact h.c0
 ·injection hx with hx;subst hx
  obtain rfl:k=0:=by simpa using hk
  exact h.c1
 ·rw[List.mem_singleton.1 ht];exact⟨ha,hb⟩
structure LtSl (w:World) (a:Option Addr) (len cap:Nat) (zs:List Int):Prop where
 sl:IntSl Tryz.prog 23 .u8 w a len cap zs
 ok:∀z∈zs,0<=z/\z<256
theorem LtSl.up{w w':World}{a:Option Addr}{len cap:Nat}{zs:List Int}(h:LtSl w a len cap zs)(hb:Below w.heap.size w w'):LtSl w' a len cap zs:=⟨h.sl.up hb,h.ok⟩
def zN (zs:List Int):List Nat:=zs.map Int.toNat
theorem q1f(zs:List Int):(zN zs).length=zs.length:=by simp[zN]
def trE (zs:List Int):Int:=if 1024<zs.length then 3 else 0
def AllR (ts:List Tk) (zs:List Int) (w:World) (e:Ending) (w':World):Prop :=
 ∃v E,e=.returned (.tuple #[v,.int .i64 E])/\Below w.heap.size w w' /\
  ((E≠0/\(lookE ts 1≠0/\E=(lookE ts 1:Int)\/lookE ts 1=0/\E=trE zs)/\v=.slice none 0 0)\/(E=0/\lookE ts 1=0/\trE zs=0/\∃bs,w'.ownsRow w.heap.size 4 1 v bs.length (bs.map Value.bool)/\ValB (zN zs) ts bs))
def AllC (F:FuncId):Prop :=
 ∀(a:Option Addr) (len cap:Nat) (ts:List Tk) (b:Option Addr) (m c:Nat) (zs:List Int) (w:World),TkSl w a len cap ts->LtSl w b m c zs->Calls Tryz.prog F #[.slice a len cap,.slice b m c] w (AllR ts zs w)
def tokOf (z:Int):Tk:=if z<100 then (2,z.toNat) else ((z-100).toNat,0)
theorem qhk{z:Int}(h0:0<=z)(h1:z<356):(tokOf z).1<256/\(tokOf z).2<256:=by
 unfold tokOf;split
 ·exact⟨by dsimp only;omega,by dsimp only;omega⟩
 ·exact⟨by dsimp only;omega,by dsimp only;omega⟩
theorem qeq(a:Option Addr)(len cap:Nat)(zs:List Int)(w:World)(hS:IntSl Tryz.prog 29 .i64 w a len cap zs)(hz:∀z∈zs,0<=z/\z<356)(hl:len<=1000):
  Calls Tryz.prog 40 #[.slice a len cap] w fun e w'=>∃v,e=.returned v/\w'.ownsRow w.heap.size 90 2 v (zs.map tokOf).length (encT (zs.map tokOf))/\Below w.heap.size w w':=by
 have hlen:=hS.hlen;go_enter Tryz.func40,Tryz.ntmps40
 go_wp2
 go_loopw [3,4] (fun v j wr=>∃k:Nat,k<=len/\j=.int .i64 k/\Hid (wr.ownsRow w.heap.size 90 2 v ((zs.take k).map tokOf).length (encT ((zs.take k).map tokOf)))/\Hid (Below w.heap.size w wr)) (fun _ j _=>len-(intOf j).toNat)
 case atStart=>exact⟨0,Nat.zero_le _,rfl,⟨rfl,Or.inl ⟨rfl,rfl⟩⟩,Below.refl _ _⟩
 case round=>
  obtain⟨k,hk,rfl,HO,hbk⟩:=hrel;by_cases hlt:k<len
  ·have hkl:k<zs.length:=by omega
   have hSk:=hS.up hbk.out;have hidx:=fun w'=>hSk.idx len k w' hlt nlr
   have hc:=hSk.cell k hlt;have hg:zs.getD k 0=zs[k]:=by simp[List.getD_eq_getElem?_getD,List.getElem?_eq_getElem hkl]
   have hzz:=hz zs[k] (List.getElem_mem hkl);rw[hg]at hc
   have HN:Hid ((zs.take (k+1)).map tokOf=(zs.take k).map tokOf++[tokOf zs[k]]):=by
    show _=_
    rw[List.take_add_one,lge hkl,List.map_append];rfl
   have hlk:((zs.take k).map tokOf).length<=1000:=by simp;omega
   have hsz:=hbk.out.size;have hlt2:=World.ownsRow.lt HO.out;clear hg hSk;generalize (zs.take k).map tokOf=J at *;generalize zs[k]=z at *;by_cases h100:z<100
   ·have hto:tokOf z=(2,z.toNat):=by unfold tokOf;rw[if_pos h100]
    obtain⟨n,rfl⟩:∃n:Nat,z=(n:Int):=⟨z.toNat,by omega⟩
    have hw8:IntKind.u8.wrap (n:Int)=(n:Int):=by rw[IntKind.wrap_u8];omega
    rw[hto,Int.toNat_natCast]at HN;have HB:Hid (Blk _ _ _ _ _):=Blk.new wr 90 2 n;have HO1:Hid (World.ownsRow _ _ _ _ _ _ _):=World.ownsRow.alloc HO.out (.cells #[.int .u8 ((2:Nat):Int),.int .u8 (n:Int)] 90);have HTK:Hid (TkSl _ _ _ _ _):=qfb HB.out (by decide) (by omega)
    go_wp2_with (at_builtin;refine q42 rfl _ _ rfl w.heap.size _ J [(2,n)] _ 1 1 rfl rfl HO1.out HTK.out (by omega) (by simp) (by simp;omega) ?_)
    intro v3 w3 hown3 hgr3;have HO3:Hid (w3.ownsRow w.heap.size 90 2 v3 (J++[(2,n)]).length (encT (J++[(2,n)]))):=by rw[List.length_append];exact hown3
    have hb3:Hid (Below w.heap.size w w3):=(hbk.out.alloc hsz _).grown hgr3 (by simp;omega) (fun j e=>(hlt2 j e).1)
    clear hown3 hgr3;go_wp2
    go_roundw
    case rel=>exact⟨k+1,by omega,by go_num,by rw[HN.out];exact HO3,hb3⟩
    case measure=>simp[intOf];omega
   ·have hto:tokOf z=((z-100).toNat,0):=by unfold tokOf;rw[if_neg h100]
    obtain⟨n,rfl⟩:∃n:Nat,z=(n:Int)+100:=⟨(z-100).toNat,by omega⟩
    have e1:((n:Int)+100-100).toNat=n:=by omega
    have hw8:IntKind.u8.wrap (n:Int)=(n:Int):=by rw[IntKind.wrap_u8];omega
    have hws:IntKind.i64.wrap ((n:Int)+100-100)=(n:Int):=by rw[IntKind.wrap_i64];omega
    rw[hto,e1]at HN;clear e1;have HB:Hid (Blk _ _ _ _ _):=Blk.new wr 90 n 0;have HO1:Hid (World.ownsRow _ _ _ _ _ _ _):=World.ownsRow.alloc HO.out (.cells #[.int .u8 (n:Int),.int .u8 ((0:Nat):Int)] 90);have HTK:Hid (TkSl _ _ _ _ _):=qfb HB.out (by omega) (by decide)
    go_wp2_with (at_builtin;refine q42 rfl _ _ rfl w.heap.size _ J [(n,0)] _ 1 1 rfl rfl HO1.out HTK.out (by omega) (by simp) (by simp;omega) ?_)
    intro v3 w3 hown3 hgr3;have HO3:Hid (w3.ownsRow w.heap.size 90 2 v3 (J++[(n,0)]).length (encT (J++[(n,0)]))):=by rw[List.length_append];exact hown3
    have hb3:Hid (Below w.heap.size w w3):=(hbk.out.alloc hsz _).grown hgr3 (by simp;omega) (fun j e=>(hlt2 j e).1)
    clear hown3 hgr3;go_wp2
    go_roundw
    case rel=>exact⟨k+1,by omega,by go_num,by rw[HN.out];exact HO3,hb3⟩
    case measure=>simp[intOf];omega
  ·obtain rfl:k=len:=by omega
   have HF:Hid (wr.ownsRow w.heap.size 90 2 u3 (zs.map tokOf).length (encT (zs.map tokOf))):=by
    have h:=HO.out;rw[List.take_of_length_le (by omega)]at h;exact h
   go_wp2;go_ret
   exact⟨u3,rfl,HF.out,hbk.out⟩
theorem qcn{ts:List Tk}(hl:ts.length<=2048)(h:¬IsKer ts):chkE ts=7:=by
 unfold chkE;rw[if_neg (by omega),if_neg h]
theorem qb1(zs:List Int)(w:World)(hl:zs.length<=20):IntSl Tryz.prog 29 .i64 (w.alloc (.cells (zs.map (Value.int .i64)).toArray 3)) (some ⟨w.heap.size,0,none⟩) zs.length zs.length zs:=by
 have h1:(w.alloc (.cells (zs.map (Value.int .i64)).toArray 3)).ownsRow w.heap.size 3 1 (.slice (some ⟨w.heap.size,0,none⟩) zs.length zs.length) zs.length (zs.map (Value.int .i64)):=RowI.owns (cur:=zs) (mha w _).1 nlr rfl (by unfold maxLen;omega)
 obtain⟨a,cap,h2,h3,_⟩:=qig h1 Tryz.underlying29 q2S;injection h2 with h2 _ h4;rw[<-h2,<-h4]at h3;exact h3
theorem q2r{P:Program}{e:TypeId}{s:Nat}(h:(P.info? e).map (·.size)=some s)(w:World):(sizeOf e).run P w=.ok s w:=by
 cases hq:P.info? e with
 |none=>simp[hq]at h
 |some i=>simp[hq]at h;simp[sizeOf,typeInfo,hq,h]
theorem cut_n{P:Program}{T e:TypeId}{s:Nat}(hu:P.underlying T=some (.slice e))(hs:(P.info? e).map (·.size)=some s)(a:Option Addr)(n cap lo:Nat)(hl:lo<=n)(hc:n<=cap)(hn:a=none->cap=0):
  ∃a',(∀w,(Instr.sliceAt T (.slice a n cap) (some (.int .i64 (lo:Int))) none none).run P w=.ok (.slice a' (n-lo) (cap-lo)) w)/\(a'=none->cap-lo=0)/\(lo<n->∀x,a=some x->a'=some (x.add (lo*s))):=by
 cases a with
 |none=>
  have:=hn rfl
  subst this;obtain rfl:n=0:=by omega
  obtain rfl:lo=0:=by omega
  exact⟨none,fun w=>by simp[Instr.sliceAt,Instr.slice,run_underlying hu,q2r hs,go_sem],fun _=>rfl,fun hk=>absurd hk (by omega)⟩
 |some x=>
  by_cases hz:cap=lo
  ·refine⟨some x,fun w=>?_,(fun h=>by cases h),fun hk=>absurd hk (by omega)⟩
   have hz2:cap-lo=0:=by omega
   simp[Instr.sliceAt,Instr.slice,run_underlying hu,q2r hs,go_sem,hl,hz2]
   exact fun h=>absurd hz h
  ·refine⟨some (x.add (lo*s)),fun w=>?_,(fun h=>by cases h),fun _ y hy=>by injection hy with hy;rw[hy]⟩
   simp[Instr.sliceAt,Instr.slice,run_underlying hu,q2r hs,go_sem,hl]
   exact fun h=>absurd h hz
theorem pre_n{P:Program}{T e:TypeId}{s:Nat}(hu:P.underlying T=some (.slice e))(hs:(P.info? e).map (·.size)=some s)(a:Option Addr)(n cap m:Nat)(hl:m<=n)(hc:n<=cap)(hn:a=none->cap=0)(w:World):
  (Instr.sliceAt T (.slice a n cap) none (some (.int .i64 (m:Int))) none).run P w=.ok (.slice a m cap) w:=by
 cases a with
 |none=>
  have:=hn rfl
  subst this;obtain rfl:n=0:=by omega
  obtain rfl:m=0:=by omega
  simp[Instr.sliceAt,Instr.slice,run_underlying hu,q2r hs,go_sem]
 |some x=>
  have hmc:m<=cap:=by omega
  simp[Instr.sliceAt,Instr.slice,run_underlying hu,q2r hs,go_sem,hmc]
theorem q4M{w:World}{base e size n m:Nat}{v:Value}{xs:List Value}(h:w.ownsRow base e size v n xs)(hm:m<=n):
  ∃a cap,v=.slice a n cap/\n<=cap/\cap<=maxLen/\(a=none->cap=0)/\w.ownsRow base e size (.slice a m cap) m (xs.take (m*size))/\(Value.slice a m cap).ownBlock=v.ownBlock:=by
 obtain⟨hl,h⟩:=h;have hms:m*size<=n*size:=Nat.mul_le_mul_right _ hm;rcases h with⟨rfl,rfl⟩|⟨g,cap,cur,rfl,hg,hcell,hnc,hcm,hsz,htk⟩
 ·obtain rfl:m=0:=by omega
  exact⟨none,0,rfl,Nat.le_refl _,Nat.zero_le _,fun _=>rfl,⟨by simp,Or.inl ⟨rfl,rfl⟩⟩,rfl⟩
 ·refine⟨some ⟨g,0,none⟩,cap,rfl,hnc,hcm,fun h=>(by cases h),⟨by simp;omega,Or.inr ⟨g,cap,cur,rfl,hg,hcell,by omega,hcm,hsz,?_⟩⟩,rfl⟩
  rw[<-htk,List.take_take,Nat.min_eq_left hms]
def encN (ks:List Nat):List Value:=(ks.map fun o:Nat=>(o:Int)).map (Value.int .u8)
theorem qfj(ks:List Nat)(m:Nat):(encN ks).take (m*1)=encN (ks.take m):=by simp[encN,List.map_take]
theorem q2q:(Tryz.prog.info? 92).map (·.size)=some 1:=by kernel_rfl
theorem qd9:(Tryz.prog.info? 92).map (fun i=>(i.zero,i.size,i.bytes))=some (some (.int .u8 0),1,1):=by kernel_rfl
theorem qfs{w:World}{base L m:Nat}{v:Value}{ks:List Nat}(h:w.ownsRow base 92 1 v L (encN ks))(hm:m<=L):
  ∃a cap b,v=.slice a L cap/\(∀w',(Instr.sliceAt 91 (.slice a L cap) none (some (.int .i64 (m:Int))) none).run Tryz.prog w'=.ok (.slice a m cap) w')/\w.ownsRow base 92 1 (.slice a m cap) m (encN (ks.take m))/\(∀w',(Instr.sliceAt 91 (.slice a L cap) (some (.int .i64 (m:Int))) none none).run Tryz.prog w'=.ok (.slice b (L-m) (cap-m)) w')/\KdSl w b (L-m) (cap-m) (ks.drop m):=by
 obtain⟨a,cap,rfl,h1,h2,h3,h4,_⟩:=q4M h hm;rw[qfj]at h4;obtain⟨b,h5,h6,h7⟩:=cut_n (P:=Tryz.prog) (T:=91) Tryz.underlying91 q2q a L cap m hm h1 h3;refine⟨a,cap,b,rfl,pre_n Tryz.underlying91 q2q a L cap m hm h1 h3,h4,h5,?_⟩
 obtain⟨a',cap',e,hI,_⟩:=q5C (P:=Tryz.prog) (T:=91) h Tryz.underlying91 q2q;injection e with e1 _ e3;subst e1 e3;have hlen:ks.length=L:=by have:=hI.hlen;simpa using this
 have had:∀k,k<L-m->adOf b k=adOf a (m+k):=fun k hk=>by
  cases a with
  |none=>have:=h3 rfl;omega
  |some x=>
   rw[h7 (by omega) x rfl]
   show (x.add (m*1)).add k=x.add (m+k)
   rw[q9E,Nat.mul_one]
 refine⟨by simp[hlen],by omega,by omega,fun n k w' hk hn=>?_,fun k hk=>?_,fun k hk=>?_,h6⟩
 ·exact q1a Tryz.underlying91 q2q (fun e=>by have:=h6 e;omega) k w' hk
 ·rw[had k hk,hI.cell (m+k) (by omega)]
  simp[List.getD_eq_getElem?_getD]
 ·rw[had k hk];exact hI.blk (m+k) (by omega)
theorem q8K{w:World}{ops:Array Oper}{rest:List Oper}{o:Oper}{a:Act}{Q:Exit->Act->World->Prop}(hgd:o.guard=none)(s x:Operand)
  (ho:o.op=.call { callee:=.builtin .append,args:=#[s,x],argTypes:=#[91,91] }) (base:Nat)
  (v:Value) (n:Nat) (ks:List Nat) (hs:a.eval s=v) (hown:w.ownsRow base 92 1 v n (encN ks)) (g':Nat) (z:Nat) (hx:a.eval x=.slice (some ⟨g',0,none⟩) 1 1) (hc:w.cell? ⟨g',0,none⟩=some (.int .u8 (z:Int)))
  (hn:n+1<=140737488355328) (hbase:base<=w.heap.size)
  (h:∀v' w',w'.ownsRow base 92 1 v' (n+1) (encN (ks++[z]))->w.grownBy w' v.ownBlock->wpList Tryz.prog ops Q rest (a.put o.dst v') w'):wpList Tryz.prog ops Q (o::rest) a w:=by
 obtain⟨i,hi,hz0,hz1,hz2⟩:=info_parts qd9;refine wpList_append_own w hgd s x 91 ho base 92 i _ 1 1 Tryz.underlying91 hi hz0 hz1 hz2 rfl (by decide) v n _ hs hown ⟨g',0,none⟩ 1 1 [.int .u8 (z:Int)] hx rfl ?_ (ints_oneCell .u8 [(z:Int)]) (by unfold maxLen;omega) (by omega) hbase ?_
 ·intro j u hj
  match j with
  | 0=>simp at hj;rw[<-hj,qg];exact hc
  |j+1=>simp at hj
 ·intro v' w' h1 h2 _
  exact h v' w' (by unfold encN;rw[List.map_append,List.map_append];exact h1) h2
theorem qb2(op:Nat)(a:Option Addr)(c n:Nat)(ks:List Nat)(w:World)(h23:op<=23)(n3:op≠3)(n9:op≠9)(n10:op≠10)(n13:op≠13)(n14:op≠14)(hn:n=takO op)(hl:ks.length=n)(hk:∀x∈ks,x<=2)(h:KdSl w a n c ks):
  Calls Tryz.prog 47 #[.int .u8 (op:Int),.slice a n c] w (PutR op ks w):=by
 subst hl
 match ks,hn,hk,h with
 | [],hn,_,_=>
  rcases arm0 hn n3 with rfl|rfl|rfl|rfl|rfl
  ·exact qdd a _ c w
  ·exact qde a _ c w
  ·exact qdf a _ c w
  ·exact qdg a _ c w
  ·exact qdh a _ c w
 | [x],hn,hk,h=>
  have hx:=hk x (by simp)
  by_cases e6:op=6
  ·subst e6;exact qdi a c x w hx h
  ·rcases arm1 hn e6 n9 n10 with rfl|rfl|rfl|rfl|rfl
   ·exact qdj a c x w hx h
   ·exact qdk a c x w hx h
   ·exact qbU a c x w hx h
   ·exact qbV a c x w hx h
   ·exact qbY a c x w hx h
 | [x,y],hn,hk,h=>
  have hx:=hk x (by simp)
  have hy:=hk y (by simp)
  rcases arm2 hn h23 n13 n14 with rfl|rfl|rfl|rfl|rfl|rfl|rfl|rfl
  ·exact qbO a c x y w hx hy h
  ·exact qbP a c x y w hx hy h
  ·exact qbQ a c x y w hx hy h
  ·exact qbR a c x y w hx hy h
  ·exact qbS a c x y w hx hy h
  ·exact qbT a c x y w hx hy h
  ·exact qbW a c x y w hx hy h
  ·exact qbX a c x y w hx hy h
 |_::_::_::_,hn,_,_=>have:=q6t op;simp at hn;omega
def kiStep (st:List Nat) (k:Tk):Option (List Nat):=if st.length<takO k.1 then none else if kiFit k.1 (st.drop (st.length-takO k.1))=true then some (st.take (st.length-takO k.1)++[kiMade k.1 (st.drop (st.length-takO k.1))]) else none
theorem q7p(k:Tk)(r:List Tk)(st:List Nat):kiS (k::r) st=(kiStep st k).bind (kiS r):=by
 rw[kiS];unfold kiStep
 split
 ·rfl
 ·split<;>rfl
theorem q9M:∀(l r:List Tk) (st:List Nat),kiS (l++r) st=(kiS l st).bind (kiS r)
 | [],r,st=>rfl
 |k::l,r,st=>by
  show kiS (k::(l++r)) st=_
  rw[q7p,q7p]
  cases kiStep st k with
  |none=>rfl
  |some s=>exact q9M l r s
theorem qgG{ts:List Tk}{k:Nat}{ks:List Nat}(h:k<ts.length)(hs:kiS (ts.take k) []=some ks):kiS (ts.take (k+1)) []=kiStep ks ts[k]:=by
 rw[List.take_add_one,lge h]
 show kiS (ts.take k++[ts[k]]) []=_
 rw[q9M,hs]
 show kiS [ts[k]] ks=_
 rw[q7p]
 cases kiStep ks ts[k]<;>rfl
theorem qhX{ts:List Tk}{k:Nat}(h:kiS (ts.take k) []=none):kiOk ts=false:=by
 have:kiS (ts.take k++ts.drop k) []=none:=by rw[q9M,h];rfl
 rw[List.take_append_drop]at this;unfold kiOk;rw[this]
def oneN (ks:List Nat):Bool:=match ks with | [x]=>isN x 0|_=>false
theorem qhW{ts:List Tk}{ks:List Nat}(h:kiS ts []=some ks):kiOk ts=oneN ks:=by
 unfold kiOk;rw[h]
 match ks with
 | []=>rfl
 | [x]=>rfl
 |_::_::_=>rfl
theorem qft(op:Nat)(a:List Nat):kiMade op a<=2:=by
 unfold kiMade
 repeat' split
 all_goals omega
theorem qfl{ts:List Tk}{k:Nat}(h:k<ts.length)(hf:fewL false ts=true):∃b,fewAt b ts[k].1 ts[k].2=true:=by
 have h1:fewL false (ts.take k)=true:=by
  cases hc:fewL false (ts.take k) with
  |true=>rfl
  |false=>rw[q9G hc]at hf;cases hf
 refine⟨lastP false (ts.take k),?_⟩
 rw[<-qcr h h1]
 cases hc:fewL false (ts.take (k+1)) with
 |true=>rfl
 |false=>rw[q9G hc]at hf;cases hf
theorem q4u(a:Option Addr)(len cap:Nat)(ts:List Tk)(w:World)(hT:TkSl w a len cap ts)(hln:len<=1000000)(hF:fewL false ts=true):
  Calls Tryz.prog 27 #[.slice a len cap] w fun e w'=>e=.returned (.bool (kiOk ts))/\Below w.heap.size w w':=by
 have HT:=hiq hT;have HLEN:Hid (ts.length=len):=hT.hlen;have HF:=hiq hF;clear hT hF;go_enter Tryz.func27,Tryz.ntmps27
 go_wp2
 go_loopw [3,12] (fun v i wr=>∃k:Nat,k<=len/\i=.int .i64 k/\(∃ks:List Nat,Hid (wr.ownsRow w.heap.size 92 1 v ks.length (encN ks))/\Hid (kiS (ts.take k) []=some ks)/\Hid (ks.length<=k)/\Hid (∀x∈ks,x<=2))/\Hid (Below w.heap.size w wr)) (fun _ i _=>len-(intOf i).toNat)
 case atStart=>exact⟨0,Nat.zero_le _,rfl,⟨[],⟨rfl,Or.inl ⟨rfl,rfl⟩⟩,rfl,Nat.le_refl _,fun x hx=>(by simp at hx)⟩,Below.refl _ _⟩
 case round=>
  obtain⟨k,hk,rfl,⟨ks,HO,HE,HLL,HK2⟩,HW⟩:=hrel;have hll:=HLL.out;have hszr:=HW.out.size;by_cases hlt:k<len
  ·have hxl:k<ts.length:=by have:=HLEN.out;omega
   obtain⟨g1,o1,s1,hi1,hx0,hx1,hg1,_⟩:=(HT.out.up HW.out).at Tryz.underlying22 q1G k hlt;have hidx:=fun w'=>hi1 len w' hlt
   clear hi1;have HNX:Hid (kiS (ts.take (k+1)) []=kiStep ks ts[k]):=qgG hxl HE.out;obtain⟨b,hfa⟩:=qfl hxl HF.out;have HOFF:Hid (kiS (ts.take (k+1)) []=none->kiOk ts=false):=fun h=>qhX h
   generalize ts[k]=q at *;obtain⟨op,p⟩:=q;dsimp only at hx0 hx1 HNX hfa
   obtain⟨_,h23,n3,n9,n10,n13,n14,_⟩:=q62 hfa;clear hfa;have hTk:=fun w'=>q7Q op w' h23
   have hb1:=qc wr (.cells #[.int .u8 (op:Int),.int .u8 (p:Int)] 90);have HB1:Hid (Below w.heap.size w (wr.alloc (.cells #[.int .u8 (op:Int),.int .u8 (p:Int)] 90))):=qd HW.out hb1;have hz1:(wr.alloc (.cells #[.int .u8 (op:Int),.int .u8 (p:Int)] 90)).heap.size=wr.heap.size+1:=by simp
   have hTn:takO op=takO op:=rfl;obtain⟨n,hn⟩:∃n,n=takO op:=⟨_,rfl⟩
   have hn2:n<=2:=by rw[hn];exact q6t op
   have HS:Hid (kiStep ks (op,p)=if ks.length<n then none else if kiFit op (ks.drop (ks.length-n))=true then some (ks.take (ks.length-n)++[kiMade op (ks.drop (ks.length-n))]) else none):=by show _=_;rw[hn];rfl
   rw[<-hn]at hTk;have HN:=hiq hn;clear hn hTn;by_cases hs:ks.length<n
   ·have HZ:Hid (kiOk ts=false):=HOFF.out (by rw[HNX.out,HS.out,if_pos hs])
    have hs':(ks.length:Int)<(n:Int):=by omega
    obtain⟨av,cv,rfl,_⟩:=q4M HO.out nlr;clear HS HNX hb1 HOFF
    go_wp2_with (go_at_call 46;refine (hTk _).mono ?_;rintro e w' ⟨rfl,rfl⟩)
    go_ret
    exact⟨by rw[HZ.out];rfl,HB1.out⟩
   ·have hs':¬(ks.length:Int)<(n:Int):=by omega
    obtain⟨M,hM⟩:∃M,M=ks.length-n:=⟨_,rfl⟩
    rw[if_neg hs,<-hM]at HS;obtain⟨av,cv,bv,rfl,hpre,hown,hcut,hkd⟩:=qfs HO.out (m:=M) (by omega)
    rw[show ks.length-M=n by omega]at hcut hkd
    have hdl:(ks.drop M).length=n:=by simp;omega
    have hdk:∀x∈ks.drop M,x<=2:=fun x hx=>HK2.out x (List.mem_of_mem_drop hx)
    have htk:∀x∈ks.take M,x<=2:=fun x hx=>HK2.out x (List.mem_of_mem_take hx)
    have htl:(ks.take M).length=M:=by simp;omega
    have hkd1:KdSl (wr.alloc (.cells #[.int .u8 (op:Int),.int .u8 (p:Int)] 90)) bv n (cv-M) (ks.drop M):=IntSl.up hkd hb1;have hput:∀m,Calls Tryz.prog 47 #[.int .u8 (op:Int),.slice bv n (cv-M)] ((wr.alloc (.cells #[.int .u8 (op:Int),.int .u8 (p:Int)] 90)).drewN m) (fun e w'=>e=.returned (.tuple #[.int .u8 (kiMade op (ks.drop M):Int),.bool (kiFit op (ks.drop M))])/\∃m',w'=((wr.alloc (.cells #[.int .u8 (op:Int),.int .u8 (p:Int)] 90)).drewN m).drewN m'):=fun m=>qb2 op bv (cv-M) n (ks.drop M) _ h23 n3 n9 n10 n13 n14 HN.out hdl hdk (IntSl.drewN hkd1 m)
    have hml:=qft op (ks.drop M);have HNXT:Hid _:=HNX.out.trans HS.out;have HTK:Hid _:=htk;have HTL:Hid _:=htl;have hwr:IntKind.i64.wrap ((ks.length:Int)-(n:Int))=(M:Int):=by rw[IntKind.wrap_i64];omega
    have hown1:=q1b hown hb1;have HO1:Hid _:=hown1;have hML:M<=ks.length:=by omega
    have HGE:Hid (∀j,(Value.slice av M cv).ownBlock=some j->w.heap.size<=j):=q3o hown1;have hcw0:(wr.alloc (.cells #[.int .u8 (op:Int),.int .u8 (p:Int)] 90)).cell? ⟨wr.heap.size,0,none⟩=some (.int .u8 (op:Int)):=qb (mha wr _).1 0;clear HNX HS hown hown1 hkd hkd1 hdk htk htl hdl hb1 HO HE HK2 hM;generalize ks.drop M=dk at *;generalize ks.take M=tk at *;generalize kiMade op dk=md at *;generalize kiFit op dk=ft at *;generalize ks.length=L at *
    go_wp2_with (go_at_call 46;refine (hTk _).mono ?_;rintro e w' ⟨rfl,rfl⟩)
    generalize hW1:wr.alloc (.cells #[.int .u8 (op:Int),.int .u8 (p:Int)] 90)=w1 at *
    go_quiet ((go_at_call 47;exact Calls.quiet_of (hput _)))
    cases ft with
    |false=>
     have HZ:Hid (kiOk ts=false):=HOFF.out (by rw[HNXT.out];rfl)
     go_wp2;go_ret
     exact⟨by rw[HZ.out];rfl,qd HB1.out (below_drewN (Below.refl _ _) _)⟩
    |true=>
     have HB2:Hid (Below w.heap.size w (w1.drewN nq)):=qd HB1.out (below_drewN (Below.refl _ _) _);have HO2:Hid ((w1.drewN nq).ownsRow w.heap.size 92 1 (.slice av M cv) M (encN tk)):=qfM HO1.out nq;have hz2:(w1.drewN nq).heap.size=wr.heap.size+1:=hz1;clear hput hcw0 HO1 HB1;generalize w1.drewN nq=w2 at *;have HO3:Hid ((w2.alloc (.cells #[.int .u8 (md:Int)] 92)).ownsRow w.heap.size 92 1 (.slice av M cv) M (encN tk)):=World.ownsRow.alloc HO2.out _;have hc3:(w2.alloc (.cells #[.int .u8 (md:Int)] 92)).cell? ⟨wr.heap.size+1,0,none⟩=some (.int .u8 (md:Int)):=by rw[<-hz2];exact qb (mha w2 _).1 0
     have hz3:(w2.alloc (.cells #[.int .u8 (md:Int)] 92)).heap.size=w2.heap.size+1:=by simp
     have HB3:Hid (Below w.heap.size w (w2.alloc (.cells #[.int .u8 (md:Int)] 92))):=qd HB2.out (qc _ _)
     go_wp2_with (at_builtin;refine q8K rfl _ _ rfl w.heap.size _ M tk rfl HO3.out (wr.heap.size+1) md rfl hc3 (by omega) (by rw[hz3];omega) ?_)
     intro v4 w4 hown4 hgr4;have HB4:Hid (Below w.heap.size w w4):=HB3.out.grown hgr4 (by rw[hz3];omega) HGE.out
     have HO4:Hid (w4.ownsRow w.heap.size 92 1 v4 (tk++[md]).length (encN (tk++[md]))):=by
      show World.ownsRow _ _ _ _ _ _ _
      rw[List.length_append,HTL.out];exact hown4
     clear hown4 hgr4 hc3 HO3;go_wp2
     go_roundw
     case rel=>
      refine⟨k+1,by omega,by go_num,⟨tk++[md],HO4,?_,?_,?_⟩,HB4⟩
      ·show _=_
       rw[HNXT.out];rfl
      ·show _<=_
       rw[List.length_append,HTL.out];simp;omega
      ·intro x hx
       rcases List.mem_append.1 hx with hx|hx
       ·exact HTK.out x hx
       ·simp at hx;omega
     case measure=>simp[intOf]<;>omega
  ·obtain rfl:k=len:=by omega
   have HKO:Hid (kiOk ts=oneN ks):=by
    show _=_
    have:=HE.out
    rw[List.take_of_length_le (by have:=HLEN.out;omega)]at this
    exact qhW this
   obtain⟨av,cv,rfl,_⟩:=q4M HO.out nlr;by_cases h1:ks.length=1
   ·obtain⟨x,rfl⟩:∃x,ks=[x]:=by
     match ks,h1 with
     | [x],_=>exact⟨x,rfl⟩
    obtain⟨a',c',b',e',_,_,_,_⟩:=qfs HO.out (m:=0) (Nat.zero_le _);obtain⟨a2,c2,e2,hI,_⟩:=q5C (P:=Tryz.prog) (T:=91) HO.out Tryz.underlying91 q2q;injection e2 with e2 _ e3;subst e2 e3;obtain⟨⟨g0,o0,s0⟩,i0,c0⟩:=q1I (n:=0) hI;have hx2:x<=2:=HK2.out x (by simp)
    have his:=fun w'=>qX x w' hx2
    have HKO2:Hid (kiOk ts=isN x 0):=HKO.out;clear HKO hI e' HK2 HE HO HLL hll h1 hx2
    go_wp2_with (go_at_call 48;refine (his _).mono ?_;rintro e w' ⟨rfl,rfl⟩)
    go_ret
    exact⟨by rw[HKO2.out];rfl,HW.out⟩
   ·have h1':((ks.length:Int)==1)=false:=by rw[bqn];omega
    have HZ:Hid (kiOk ts=false):=by
     show _=_
     rw[HKO.out]
     match ks,h1 with
     | [],_=>rfl
     | [_],h=>exact absurd rfl h
     |_::_::_,_=>rfl
    clear HKO;go_wp2;go_ret
    exact⟨by rw[HZ.out];rfl,HW.out⟩
theorem q2M(a:Option Addr)(len cap:Nat)(ts:List Tk)(w:World)(hT:TkSl w a len cap ts):Calls Tryz.prog 9 #[.slice a len cap] w fun e w'=>e=.returned (.int .i64 (chkE ts:Int))/\Below w.heap.size w w':=by
 have hlen:=hT.hlen;by_cases hl:2048<len
 ·have HC:Hid (chkE ts=3):=by show _=_;unfold chkE;rw[if_pos (by omega)]
  have hl':(2048:Int)<(len:Int):=by omega
  clear hT hlen;go_enter Tryz.func9,Tryz.ntmps9
  go_wp2;go_ret
  exact⟨by rw[HC.out];rfl,Below.refl _ _⟩
 ·have hl':¬(2048:Int)<(len:Int):=by omega
  have h1:=qb0 a len cap ts w hT (by omega)
  cases hf:fewL false ts with
  |false=>
   have HC:Hid (chkE ts=7):=by
    refine qcn (by omega) (fun h=>?_)
    rw[((q4c ts).1 h).1]at hf;cases hf
   rw[hf]at h1;clear hT hlen hf;go_enter Tryz.func9,Tryz.ntmps9
   go_wp2_with (go_at_call 26;refine h1.mono ?_;rintro e w1 ⟨rfl,hb1⟩)
   go_ret
   exact⟨by rw[HC.out];rfl,hb1⟩
  |true=>
   have HT:Hid _:=hT;have HF:Hid _:=hf;rw[hf]at h1
   cases hk:kiOk ts with
   |false=>
    have HC:Hid (chkE ts=7):=by
     refine qcn (by omega) (fun h=>?_)
     rw[((q4c ts).1 h).2]at hk;cases hk
    have HK:Hid _:=hk;clear hT hlen hf hk;go_enter Tryz.func9,Tryz.ntmps9
    go_wp2_with (go_at_call 26;refine h1.mono ?_;rintro e w1 ⟨rfl,hb1⟩;have h2:=q4u a len cap ts w1 (HT.out.up hb1) (by omega) HF.out;rw[HK.out]at h2)
    go_wp2_with (go_at_call 27;refine h2.mono ?_;rintro e w2 ⟨rfl,hb2⟩)
    go_ret
    exact⟨by rw[HC.out];rfl,qd hb1 hb2⟩
   |true=>
    have HC:Hid (chkE ts=0):=q34.2 ⟨by omega,(q4c ts).2 ⟨hf,hk⟩⟩
    have HK:Hid _:=hk;clear hT hlen hf hk;go_enter Tryz.func9,Tryz.ntmps9
    go_wp2_with (go_at_call 26;refine h1.mono ?_;rintro e w1 ⟨rfl,hb1⟩;have h2:=q4u a len cap ts w1 (HT.out.up hb1) (by omega) HF.out;rw[HK.out]at h2)
    go_wp2_with (go_at_call 27;refine h2.mono ?_;rintro e w2 ⟨rfl,hb2⟩)
    go_ret
    exact⟨by rw[HC.out];rfl,qd hb1 hb2⟩
end Go.Proofs.YtailhklbmenaoaaGreatDoor
