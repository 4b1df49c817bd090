import Derived.Deep.DeepCutAuto
import Derived.BigQuiet
import Derived.Deep.AppendLies
import Derived.Sort.AssemblyPlain
import Derived.Deep.QuietTactic
import Derived.BigRegion
import Derived.Test.YtoioiellaomonaaGreatDoorZ03
set_option maxRecDepth 100000
set_option maxHeartbeats 16000000
namespace Go.Proofs.YtoioiellaomonaaGreatDoor
open Go.RowKit Go.Maps Proofs.Tryz
variable {a g i j k hi first r:Nat}{b:List Nat}{w w':World}{d:Array Int}{t:List Int}{row:Option Nat}
theorem gx{l:List Nat}(h:Sm l):Sm (aJ l):=fun x hx=>h x (LP hx)
theorem gA{a:List Nat}(h:Sm a)(k:Sm b):Sm (a++b):=fun x hx=>(List.mem_append.1 hx).elim (h x) (k x)
theorem WW{a:List Nat}(h:Sm a)(k:Sm b):Sm (dI a b):=fun x hx=>by
 unfold dI at hx;obtain⟨y,hy,hx⟩:=List.mem_flatMap.1 hx;obtain⟨z,hz,rfl⟩:=List.mem_map.1 hx;exact Ot (h y hy) (k z hz)
theorem gC{P:Program}{T e:TypeId}{base n:Nat}{v:Value}{zs:List Int}(h:w.ownsRow base e 1 v n (zs.map (Value.int .u64)))(hu:P.underlying T=some (.slice e))(hs:(P.info? e).map (·.size)=some 1):
  ∃a cap,v=.slice a n cap/\dh P T .u64 w a n cap zs/\(∀k,k<n->base<=(aG a k).block)/\∀x,a=some x->x.block<w.heap.size:=by
 obtain⟨hl,h⟩:=h;simp at hl
 rcases h with⟨rfl,rfl⟩|⟨g,cap,cur,rfl,hg,hcell,hnc,hcm,hsz,htk⟩
 ·have:zs=[]:=List.eq_nil_of_length_eq_zero hl
  subst this;exact⟨none,0,rfl,⟨rfl,bZ,Nat.zero_le _,fun m k w hk hm=>absurd hk (by omega),fun k hk=>absurd hk (by omega),fun k hk=>absurd hk (by omega),fun _=>rfl⟩,fun k hk=>absurd hk (by omega),fun x hx=>by cases hx⟩
 ·have had:∀k,aG (some ⟨g,0,none⟩) k=⟨g,k,none⟩:=fun k=>by simp[aG,qi]
  have hlt:g<w.heap.size:=(lC hcell).1
  refine⟨some ⟨g,0,none⟩,cap,rfl,⟨hl,hnc,hcm,fun m k w hk hm=>yK hu hs (by simp) k w hk,fun k hk=>?_,fun k hk=>by rw[had];exact hlt,by simp⟩,fun k hk=>by rw[had];exact hg,fun x hx=>by injection hx with hx;rw[<-hx];exact hlt⟩
  rw[had]
  have hk2:(cur.toList.take (n*1))[k]? =some (.int .u64 (zs.getD k 0)):=by
   rw[htk];simp[List.getD_eq_getElem?_getD,List.getElem?_eq_getElem (show k<zs.length by omega)]
  rw[List.getElem?_take,if_pos (by omega)]at hk2
  simp[World.cell?,hcell]
  simpa using hk2
theorem L9:(prog.info? 37).map (fun i=>(i.zero,i.size,i.bytes))=some (some (.int .u64 0),1,8):=by kernel_rfl
theorem J2(w:World)(e:TypeId):(w.alloc (.cells #[] e)).ownsRow w.heap.size e 1 (.slice (some ⟨w.heap.size,0,none⟩) 0 0) 0 [] :=
 ⟨rfl,Or.inr ⟨w.heap.size,0,#[],rfl,bZ,(dO w _).1,bZ,Nat.zero_le _,rfl,rfl⟩⟩
abbrev aF:Int->Int->Bool:=Go.Sort.ltInt
theorem oI:Go.Sort.SWO aF:=⟨fun x=>by simp[aF,Go.Sort.ltInt],fun x y z=>by simp[aF,Go.Sort.ltInt];omega,fun x y z=>by simp[aF,Go.Sort.ltInt];omega⟩
def aA(w:World)(g:Nat)(d:Array Int)(t:List Int):Prop:=w.heap[g]? =some (.cells ((d.toList++t).map (Value.int .u64)).toArray 37 (0,0))
theorem aA.lt(h:aA w g d t):g<w.heap.size:=(lC h).1
theorem aA.cell(h:aA w g d t)(hi:i<d.size):w.cell? ⟨g,i,none⟩=some (.int .u64 d[i]!):=by
 rw[qc h];simp[List.getElem?_append_left,hi]
theorem aA.fz(h:aA w g d t)(i:Nat):w.frozen? ⟨g,i,none⟩=false:=frozen_of_row w g i _ _ h
theorem aA.set(h:aA w g d t)(hi:i<d.size)(x:Int):aA (w.setCell ⟨g,i,none⟩ (.int .u64 x)) g (d.setIfInBounds i x) t:=by
 unfold aA;rw[heap_setCell_same w g i _ _ (.int .u64 x) h];refine congrArg some (congrArg (fun c=>Obj.cells c 37 (0,0)) (Array.toList_inj.1 ?_))
 simp only[Array.toList_setIfInBounds,List.map_append,List.map_set]
 rw[List.set_append_left _ _ (by simpa using hi)]
theorem aA.swap(h:aA w g d t)(hi:i<d.size)(hj:j<d.size):aA ((w.setCell ⟨g,i,none⟩ (.int .u64 d[j]!)).setCell ⟨g,j,none⟩ (.int .u64 d[i]!)) g (Go.Sort.swp d i j) t :=
 (h.set hi d[j]!).set (by simpa using hj) d[i]!
theorem Ks:(prog.info? 37).map (·.size)=some 1:=by kernel_rfl
theorem qh(g n c k:Nat)(w:World)(hk:k<n):(Instr.indexAt 36 (.slice (some ⟨g,0,none⟩) n c) (.int .i64 k)).run prog w=.ok (.pointer (some ⟨g,k,none⟩)) w:=by
 have:=yK (P:=prog) (T:=36) (e:=37) underlying36 Ks (a:=some ⟨g,0,none⟩) (cap:=c) (n:=n) (by simp) k w hk
 simpa [aG,qi] using this
theorem ql(h:w.grownBy w' (some g))(v:Value):w.grownBy (w'.setCell ⟨g,i,none⟩ v) (some g) :=
 ⟨h.os,h.tape,h.output,by have:=h.size;simpa using this,fun k hk hne=>(Below.heap_setCell _ _ _ _ (fun e=>hne (by rw[e]))).trans (h.block k hk hne)⟩
theorem qk(h:w.grownBy w' row)(n:Nat):w.grownBy (w'.drewN n) row:=by
 have hb:=below_drewN (Below.refl w'.heap.size w') n;exact⟨hb.os.trans h.os,hb.tape.trans h.tape,hb.output.trans h.output,Nat.le_trans h.size hb.size,fun k hk hne=>(hb.block k (Nat.lt_of_lt_of_le hk h.size)).trans (h.block k hk hne)⟩
theorem aA.drewN{w:World}{g:Nat}{d:Array Int}{t:List Int}(h:aA w g d t)(n:Nat):aA (w.drewN n) g d t:=(below_drewN (Below.refl w.heap.size w) n).block g h.lt |>.trans h
theorem aA.drew{w:World}{g:Nat}{d:Array Int}{t:List Int}(h:aA w g d t):aA w.drew g d t:=h
theorem qA(h:w.grownBy w' row):w.grownBy w'.drew row:=⟨h.os,h.tape,h.output,h.size,h.block⟩
theorem Kx(x:Int)(w:World):Calls prog 166 #[.int .u64 x] w fun e w'=>e=.returned (.bool false)/\w'=w:=by
 go_enter func166,ntmps166
 go_wp2;go_ret
 exact⟨by simp,rfl⟩
theorem qp(x y:Int)(w:World):Calls prog 156 #[.int .u64 x,.int .u64 y] w fun e w'=>e=.returned (.bool (aF x y))/\w'=w:=by
 have h1:=Kx x w;go_enter func156,ntmps156
 go_wp2_with fail
 refine h1.mono ?_
 rintro e w1 ⟨rfl,hw1⟩
 obtain rfl:=hw1.symm
 go_wp2;go_ret
 exact⟨rfl,rfl⟩
theorem KB(h:¬a<j):Go.Sort.insInner aF a j d=d:=by
 cases j with
 |zero=>rfl
 |succ j=>
  unfold Go.Sort.insInner;rw[if_neg];simp;intro h2;omega
theorem K1(hl:aF d[j+1]! d[j]! = false):Go.Sort.insInner aF a (j+1) d=d:=by
 unfold Go.Sort.insInner;rw[if_neg];rw[hl];simp
theorem K2(h:a<j+1)(hl:aF d[j+1]! d[j]! = true):Go.Sort.insInner aF a (j+1) d=Go.Sort.insInner aF a j (Go.Sort.swp d (j+1) j):=by
 conv=>lhs;unfold Go.Sort.insInner
 rw[if_pos];rw[hl];simp;omega
theorem K3{b:Nat}(h:k<b):Go.Sort.insOuter aF a b k d=Go.Sort.insOuter aF a b (k+1) (Go.Sort.insInner aF a k d):=by
 conv=>lhs;unfold Go.Sort.insOuter
 rw[if_pos h]
theorem K4{b:Nat}(h:¬k<b):Go.Sort.insOuter aF a b k d=d:=by
 unfold Go.Sort.insOuter;rw[if_neg h]
def Ui(w:World)(g:Nat)(t:List Int)(d':Array Int)(e:Ending)(w':World):Prop:=e=.returned (.tuple #[])/\aA w' g d' t/\w.grownBy w' (some g)
theorem K5(g c a b:Nat)(d:Array Int)(t:List Int)(w:World)(h:aA w g d t)(hab:a<=b)(hb:b<=d.size)(hn:d.size<=1000000):
  Calls prog 150 #[.slice (some ⟨g,0,none⟩) d.size c,.int .i64 a,.int .i64 b] w (Ui w g t (Go.Sort.insertionSort aF d a b)):=by
 obtain⟨N,hN⟩:∃N,d.size=N:=⟨_,rfl⟩
 obtain⟨R,hR⟩:∃R,Go.Sort.insertionSort aF d a b=R:=⟨_,rfl⟩
 have HI0:=aX hR;have ou:=aX h;have HD0:=aX hN;rw[hN]at hb hn ⊢;rw[hR];clear h hN hR;go_enter func150,ntmps150
 go_wp2
 go_loopw [6] (fun iv wr=>∃k:Nat,a+1<=k/\k<=N+1/\iv=.int .i64 k/\∃dk:Array Int,Hid (dk.size=N)/\Hid (aA wr g dk t)/\Hid (Go.Sort.insOuter aF a b k dk=R)/\Hid (w.grownBy wr (some g))) (fun iv _=>N+1-(intOf iv).toNat)
 case atStart=>exact⟨a+1,bZ,by omega,by go_num,d,HD0,ou,HI0,World.grownBy.refl _ _⟩
 case round=>
  obtain⟨k,hak,hkN,rfl,dk,HD,HS,HI,HG⟩:=hrel;clear HD0 ou HI0;by_cases hkb:k<b
  ·have Hf:Hid (Go.Sort.insOuter aF a b (k+1) (Go.Sort.insInner aF a k dk)=R):=(K3 hkb).symm.trans HI.out
   clear HI;go_wp2
   go_loopw [7] (fun jv wr=>∃j:Nat,j<=k/\jv=.int .i64 j/\∃dj:Array Int,Hid (dj.size=N)/\Hid (aA wr g dj t)/\Hid (Go.Sort.insOuter aF a b (k+1) (Go.Sort.insInner aF a j dj)=R)/\Hid (w.grownBy wr (some g))) (fun jv _=>(intOf jv).toNat)
   case atStart=>exact⟨k,bZ,rfl,dk,HD,HS,Hf,HG⟩
   case round=>
    obtain⟨j,hjk,rfl,dj,HD2,HS2,HJ,HG2⟩:=hrel;clear HD HS Hf HG;by_cases haj:a<j
    ·obtain⟨m,hm⟩:∃m,j=m+1:=⟨j-1,by omega⟩
     have hd1:decide ((a:Int)<(j:Int))=true:=decide_eq_true (by omega)
     have hi1:=fun w'=>qh g N c j w' (by omega)
     have hi2:=fun w'=>qh g N c m w' (by omega)
     have c1:=HS2.out.cell (i:=j) (by rw[HD2.out];omega)
     have c2:=HS2.out.cell (i:=m) (by rw[HD2.out];omega)
     have hsub:IntKind.i64.wrap ((j:Int)-1)=(m:Int):=by rw[IntKind.wrap_i64];omega
     have hless:=fun w'=>qp dj[j]! dj[m]! w'
     cases hl:aF dj[j]! dj[m]! with
     |false=>
      rw[hl]at hless
      have HK:Hid (Go.Sort.insOuter aF a b (k+1) dj=R):=by
       have:=HJ.out
       rw[hm]at this hl;rw[K1 hl]at this;exact this
      clear hl HJ hm
      go_upto_region 15 with fail
      go_quiet ((go_at_call 156;exact Calls.quiet_of_same (hless _)))
      have lS:Hid _:=HS2.out.drewN nq;have nG:Hid _:=qk HG2.out nq;clear HS2 HG2 hless c1 c2;generalize wr.drewN nq=w3 at *;go_wp2
      go_roundw
      case rel=>exact⟨k+1,by omega,by omega,by go_num,dj,HD2,lS,HK,nG⟩
      case measure=>simp[intOf]<;>omega
     |true=>
      rw[hl]at hless
      have HK:Hid (Go.Sort.insOuter aF a b (k+1) (Go.Sort.insInner aF a m (Go.Sort.swp dj j m))=R):=by
       have:=HJ.out
       rw[hm]at this hl ⊢;rw[K2 (by omega) hl]at this
       exact this
      have HM:=aX hm;have hmj:m<j:=by omega
      clear hl HJ hm
      go_upto_region 15 with fail
      go_quiet ((go_at_call 156;exact Calls.quiet_of_same (hless _)))
      have hs3:=HS2.out.drewN nq;have c3:=hs3.cell (i:=j) (by rw[HD2.out];omega)
      have c4:=hs3.cell (i:=m) (by rw[HD2.out];omega)
      have f3:=hs3.fz j;have f4:=hs3.fz m;have lS:Hid (aA (((wr.drewN nq).setCell ⟨g,j,none⟩ (.int .u64 dj[m]!)).setCell ⟨g,m,none⟩ (.int .u64 dj[j]!)) g (Go.Sort.swp dj j m) t):=hs3.swap (by rw[HD2.out];omega) (by rw[HD2.out];omega)
      have nG:Hid (w.grownBy (((wr.drewN nq).setCell ⟨g,j,none⟩ (.int .u64 dj[m]!)).setCell ⟨g,m,none⟩ (.int .u64 dj[j]!)) (some g)):=ql (ql (qk HG2.out nq) _) _;have HD3:Hid ((Go.Sort.swp dj j m).size=N):=by show _=_;rw[Go.Sort.size_swp];exact HD2.out
      clear HS2 HG2 hless c1 c2 hs3 HD2;generalize dj[j]! = xj at *;generalize dj[m]! = xm at *;generalize Go.Sort.swp dj j m=dn at *;generalize wr.drewN nq=w3 at *
      go_upto_region 15 with fail
      go_region
      all_goals
       have Mc:Hid _:=lS.out.drew;have yZ:Hid _:=qA nG.out;clear lS nG c3 c4 f3 f4;generalize ((w3.setCell ⟨g,j,none⟩ (.int .u64 xm)).setCell ⟨g,m,none⟩ (.int .u64 xj)).drew=w4 at *;go_wp2
       go_roundw
       case rel=>exact⟨m,by omega,rfl,dn,HD3,Mc,HK,yZ⟩
       case measure=>simp[intOf];omega
    ·have HK:Hid (Go.Sort.insOuter aF a b (k+1) dj=R):=by
      have:=HJ.out
      rw[KB haj]at this;exact this
     have hd1:decide ((a:Int)<(j:Int))=false:=decide_eq_false (by omega)
     clear HJ
     go_upto_region 15 with fail
     go_quiet (fail)
     have lS:Hid _:=HS2.out.drewN nq;have nG:Hid _:=qk HG2.out nq;clear HS2 HG2;generalize wr.drewN nq=w3 at *;go_wp2
     go_roundw
     case rel=>exact⟨k+1,by omega,by omega,by go_num,dj,HD2,lS,HK,nG⟩
     case measure=>simp[intOf]<;>omega
  ·have HR:Hid (dk=R):=(K4 hkb).symm.trans HI.out
   clear HI;go_wp2
   go_end0
   obtain rfl:=HR.out
   exact⟨rfl,HS.out,HG.out⟩
theorem K6(h:hi<=2*r+1):Go.Sort.siftDown aF hi first r d=d:=by
 unfold Go.Sort.siftDown;rw[dif_pos h]
def fP(hi first r:Nat)(d:Array Int):Nat:=if 2*r+1+1<hi&&aF d[first+(2*r+1)]! d[first+(2*r+1)+1]! then 2*r+2 else 2*r+1
theorem WX(h:2*r+1<hi)(hl:aF d[first+r]! d[first+fP hi first r d]! = false):Go.Sort.siftDown aF hi first r d=d:=by
 unfold Go.Sort.siftDown;rw[dif_neg (by omega)]
 unfold fP at hl
 split at hl
 ·rename_i hc
  rw[if_pos hc,hl];rfl
 ·rename_i hc
  rw[if_neg hc,hl];rfl
theorem WY(h:2*r+1<hi)(hl:aF d[first+r]! d[first+fP hi first r d]! = true):Go.Sort.siftDown aF hi first r d=Go.Sort.siftDown aF hi first (fP hi first r d) (Go.Sort.swp d (first+r) (first+fP hi first r d)):=by
 conv=>lhs;unfold Go.Sort.siftDown
 rw[dif_neg (by omega)]
 unfold fP at hl ⊢
 split at hl
 ·rename_i hc
  have h2:2*r+2<hi:=by simp at hc;omega
  rw[if_pos hc,hl,if_pos hc];simp only[Bool.not_true,Bool.false_eq_true,if_false]
  rw[dif_pos h2]
 ·rename_i hc
  rw[if_neg hc,hl,if_neg hc];simp only[Bool.not_true,Bool.false_eq_true,if_false]
theorem WZ(h:2*r+1<hi):r<fP hi first r d/\fP hi first r d<hi:=by
 unfold fP
 split
 ·rename_i hc;simp at hc;omega
 ·omega
theorem K7(g c a b:Nat)(d:Array Int)(t:List Int)(w:World)(h:aA w g d t)(hab:a<=b)(hb:b<=d.size)(hn:d.size<=1000000):
  Calls prog 154 #[.slice (some ⟨g,0,none⟩) d.size c,.int .i64 a,.int .i64 b] w (Ui w g t (Go.Sort.reverseRange d a b)):=by
 obtain⟨N,hN⟩:∃N,d.size=N:=⟨_,rfl⟩
 obtain⟨R,hR⟩:∃R,Go.Sort.reverseRange d a b=R:=⟨_,rfl⟩
 have HI0:=aX hR;have ou:=aX h;have HD0:=aX hN;rw[hN]at hb hn ⊢;rw[hR];clear h hN hR;go_enter func154,ntmps154
 go_wp2
 go_loopw [6,7] (fun iv jv wr=>∃(i:Nat) (j:Int),i<=N/\-1<=j/\j<N/\iv=.int .i64 i/\jv=.int .i64 j/\∃dk:Array Int,Hid (dk.size=N)/\Hid (aA wr g dk t)/\Hid (Go.Sort.reverseLoop i j.toNat dk=R)/\Hid (w.grownBy wr (some g))) (fun iv jv _=>(intOf jv+1-intOf iv).toNat)
 case atStart=>exact⟨a,(b:Int)-1,by omega,by omega,by omega,rfl,by go_num,d,HD0,ou,by show _=_;rw[show ((b:Int)-1).toNat=b-1 by omega];exact HI0.out,World.grownBy.refl _ _⟩
 case round=>
  obtain⟨i,j,hiN,hj1,hj2,rfl,rfl,dk,HD,HS,HI,HG⟩:=hrel;clear HD0 ou HI0;by_cases hij:(i:Int)<j
  ·obtain⟨m,rfl⟩:=Int.eq_ofNat_of_zero_le (show 0<=j by omega)
   have HK:Hid (Go.Sort.reverseLoop (i+1) ((m:Int)-1).toNat (Go.Sort.swp dk i m)=R):=by
    have:=HI.out
    unfold Go.Sort.reverseLoop at this;rw[Int.toNat_natCast,if_pos (by omega)]at this
    show _=_
    rw[show ((m:Int)-1).toNat=m-1 by omega]
    exact this
   have hi1:=fun w'=>qh g N c i w' (by omega)
   have hi2:=fun w'=>qh g N c m w' (by omega)
   have hs3:=HS.out;have c3:=hs3.cell (i:=i) (by rw[HD.out];omega)
   have c4:=hs3.cell (i:=m) (by rw[HD.out];omega)
   have f3:=hs3.fz i;have f4:=hs3.fz m;have lS:Hid (aA ((wr.setCell ⟨g,i,none⟩ (.int .u64 dk[m]!)).setCell ⟨g,m,none⟩ (.int .u64 dk[i]!)) g (Go.Sort.swp dk i m) t):=hs3.swap (by rw[HD.out];omega) (by rw[HD.out];omega)
   have nG:Hid (w.grownBy ((wr.setCell ⟨g,i,none⟩ (.int .u64 dk[m]!)).setCell ⟨g,m,none⟩ (.int .u64 dk[i]!)) (some g)):=ql (ql HG.out _) _;have HD3:Hid ((Go.Sort.swp dk i m).size=N):=by show _=_;rw[Go.Sort.size_swp];exact HD.out
   have hdec:IntKind.i64.wrap ((m:Int)-1)=(m:Int)-1:=by rw[IntKind.wrap_i64];omega
   clear HS HG hs3 HD HI;generalize dk[i]! = xi at *;generalize dk[m]! = xm at *;generalize Go.Sort.swp dk i m=dn at *;go_wp2
   go_upto_region 15 with fail
   go_region
   all_goals
    have Mc:Hid _:=lS.out.drew;have yZ:Hid _:=qA nG.out;clear lS nG c3 c4 f3 f4;generalize ((wr.setCell ⟨g,i,none⟩ (.int .u64 xm)).setCell ⟨g,m,none⟩ (.int .u64 xi)).drew=w4 at *;go_wp2
    go_roundw
    case rel=>exact⟨i+1,(m:Int)-1,by omega,by omega,by omega,by go_num,rfl,dn,HD3,Mc,HK,yZ⟩
    case measure=>simp[intOf];omega
  ·have HR:Hid (dk=R):=by
    have:=HI.out
    unfold Go.Sort.reverseLoop at this;rw[if_neg (by omega)]at this
    exact this
   clear HI;go_wp2
   go_end0
   obtain rfl:=HR.out
   exact⟨rfl,HS.out,HG.out⟩
theorem gP(g c lo hi first:Nat)(d:Array Int)(t:List Int)(w:World)(h:aA w g d t)(hlo:lo<=d.size)(hb:first+hi<=d.size)(hn:d.size<=1000000):
  Calls prog 161 #[.slice (some ⟨g,0,none⟩) d.size c,.int .i64 lo,.int .i64 hi,.int .i64 first] w (Ui w g t (Go.Sort.siftDown aF hi first lo d)):=by
 obtain⟨N,hN⟩:∃N,d.size=N:=⟨_,rfl⟩
 obtain⟨R,hR⟩:∃R,Go.Sort.siftDown aF hi first lo d=R:=⟨_,rfl⟩
 have HI0:=aX hR;have ou:=aX h;have HD0:=aX hN;rw[hN]at hb hn hlo ⊢;rw[hR];clear h hN hR;go_enter func161,ntmps161
 go_wp2
 go_loopw [8] (fun iv wr=>∃r:Nat,r<=N/\iv=.int .i64 r/\∃dk:Array Int,Hid (dk.size=N)/\Hid (aA wr g dk t)/\Hid (Go.Sort.siftDown aF hi first r dk=R)/\Hid (w.grownBy wr (some g))) (fun iv _=>N-(intOf iv).toNat)
 case atStart=>exact⟨lo,hlo,rfl,d,HD0,ou,HI0,World.grownBy.refl _ _⟩
 case round=>
  obtain⟨r,hrN,rfl,dk,HD,HS,HI,HG⟩:=hrel;clear HD0 ou HI0;obtain⟨E,hE⟩:∃E,E=2*r:=⟨_,rfl⟩
  obtain⟨C,hC⟩:∃C,C=2*r+1:=⟨_,rfl⟩
  have wE:IntKind.i64.wrap (2*(r:Int))=(E:Int):=by rw[IntKind.wrap_i64];omega
  have wC:IntKind.i64.wrap ((E:Int)+1)=(C:Int):=by rw[IntKind.wrap_i64];omega
  have HC:=aX hC;have hC2:C<=2000001:=by omega
  clear hE;by_cases hge:hi<=C
  ·have HR:Hid (dk=R):=(K6 (by omega)).symm.trans HI.out
   have hge':(hi:Int)<=(C:Int):=by omega
   clear HI hC;go_wp2;refine bodyPost_ret (results_none rfl _ _ _) rfl ?_
   obtain rfl:=HR.out
   exact⟨rfl,HS.out,HG.out⟩
  ·have hge':¬(hi:Int)<=(C:Int):=by omega
   obtain⟨C1,Md⟩:∃C1,C1=C+1:=⟨_,rfl⟩
   have wC1:IntKind.i64.wrap ((C:Int)+1)=(C1:Int):=by rw[IntKind.wrap_i64];omega
   have gR:=aX Md;by_cases hc1:C1<hi
   ·have hd1:decide ((C1:Int)<(hi:Int))=true:=decide_eq_true (by omega)
    obtain⟨P,hP⟩:∃P,P=first+C:=⟨_,rfl⟩
    obtain⟨P1,hP1⟩:∃P1,P1=first+C+1:=⟨_,rfl⟩
    have wP:IntKind.i64.wrap ((first:Int)+(C:Int))=(P:Int):=by rw[IntKind.wrap_i64];omega
    have wP1:IntKind.i64.wrap ((P:Int)+1)=(P1:Int):=by rw[IntKind.wrap_i64];omega
    have hi1:=fun w'=>qh g N c P w' (by omega)
    have hi2:=fun w'=>qh g N c P1 w' (by omega)
    have q1:=HS.out.cell (i:=P) (by rw[HD.out];omega)
    have q2:=HS.out.cell (i:=P1) (by rw[HD.out];omega)
    have hless:=fun w'=>qp dk[P]! dk[P1]! w'
    have HP:Hid (P=first+C/\P1=first+C+1):=⟨hP,hP1⟩
    cases hl:aF dk[P]! dk[P1]! with
    |false=>
     rw[hl]at hless
     have OH:Hid (fP hi first r dk=C):=by
      show _=_
      unfold fP;rw[<-hC,<-hP,show P+1=P1 by omega,hl]
      simp
     clear hl hC Md hP hP1;go_wp2
     go_upto_region 15 with fail
     go_quiet ((go_at_call 156;exact Calls.quiet_of_same (hless _)))
     have xO:Hid (aA (wr.drewN nq) g dk t):=aA.drewN HS.out nq;have zY:Hid _:=qk HG.out nq;clear HS HG hless q1 q2;generalize wr.drewN nq=wX at *;have hch:fP hi first r dk=C:=OH.out;have uh:Hid (r<C/\C<hi):=by have:=WZ (first:=first) (d:=dk) (show 2*r+1<hi by have:=HC.out;omega);rw[hch]at this;exact this
     have hrc:=uh.out;obtain⟨S,hS⟩:∃S,S=first+r:=⟨_,rfl⟩
     obtain⟨Q,hQ⟩:∃Q,Q=first+C:=⟨_,rfl⟩
     have wS:IntKind.i64.wrap ((first:Int)+(r:Int))=(S:Int):=by rw[IntKind.wrap_i64];omega
     have wQ:IntKind.i64.wrap ((first:Int)+(C:Int))=(Q:Int):=by rw[IntKind.wrap_i64];omega
     have ie:S<N:=by omega
     have Uj:Q<N:=by omega
     have eS:(first:Int)+(r:Int)=(S:Int):=by omega
     have eQ:(first:Int)+(C:Int)=(Q:Int):=by omega
     have jS:=fun w'=>qh g N c S w' (by omega)
     have jQ:=fun w'=>qh g N c Q w' (by omega)
     have hs3:aA wX g dk t:=xO.out;have k3:=hs3.cell (i:=S) (by rw[HD.out];omega)
     have k4:=hs3.cell (i:=Q) (by rw[HD.out];omega)
     have eX:=fun w'=>qp dk[S]! dk[Q]! w'
     cases hl2:aF dk[S]! dk[Q]! with
     |false=>
      rw[hl2]at eX
      have HR:Hid (dk=R):=by
       have h0:=WX (hi:=hi) (first:=first) (r:=r) (d:=dk) (by have:=HC.out;omega) (by rw[hch,<-hS,<-hQ];exact hl2)
       exact h0.symm.trans HI.out
      clear hl2 hch hS hQ HI hs3
      go_upto_region 15 with fail
      go_quiet ((go_at_call 156;exact Calls.quiet_of_same (eX _)))
      have nH:Hid (aA (wX.drewN nq) g dk t):=aA.drewN xO.out nq;have nI:Hid _:=qk zY.out nq;clear xO zY eX k3 k4;generalize wX.drewN nq=w5 at *;go_wp2;refine bodyPost_ret (results_none rfl _ _ _) rfl ?_
      obtain rfl:=HR.out
      exact⟨rfl,nH.out,nI.out⟩
     |true=>
      rw[hl2]at eX
      have HK:Hid (Go.Sort.siftDown aF hi first C (Go.Sort.swp dk S Q)=R):=by
       have h0:=WY (hi:=hi) (first:=first) (r:=r) (d:=dk) (by have:=HC.out;omega) (by rw[hch,<-hS,<-hQ];exact hl2)
       rw[hch,<-hS,<-hQ]at h0;exact h0.symm.trans HI.out
      clear hl2 hch hS hQ HI hs3
      go_upto_region 15 with fail
      go_quiet ((go_at_call 156;exact Calls.quiet_of_same (eX _)))
      have hs5:aA (wX.drewN nq) g dk t:=aA.drewN xO.out nq;have c3:=hs5.cell (i:=S) (by rw[HD.out];omega)
      have c4:=hs5.cell (i:=Q) (by rw[HD.out];omega)
      have f3:=hs5.fz S;have f4:=hs5.fz Q;have nH:Hid (aA (((wX.drewN nq).setCell ⟨g,S,none⟩ (.int .u64 dk[Q]!)).setCell ⟨g,Q,none⟩ (.int .u64 dk[S]!)) g (Go.Sort.swp dk S Q) t):=hs5.swap (by rw[HD.out];omega) (by rw[HD.out];omega)
      have nI:Hid (w.grownBy (((wX.drewN nq).setCell ⟨g,S,none⟩ (.int .u64 dk[Q]!)).setCell ⟨g,Q,none⟩ (.int .u64 dk[S]!)) (some g)):=ql (ql (qk zY.out nq) _) _;have HD5:Hid ((Go.Sort.swp dk S Q).size=N):=by show _=_;rw[Go.Sort.size_swp];exact HD.out
      clear xO zY eX k3 k4 hs5 HD;generalize dk[S]! = xS at *;generalize dk[Q]! = xQ at *;generalize Go.Sort.swp dk S Q=dn at *;generalize wX.drewN nq=w5 at *;go_wp2
      go_upto_region 15 with fail
      go_region
      all_goals
       have uj:Hid _:=nH.out.drew;have rP:Hid _:=qA nI.out;clear nH nI c3 c4 f3 f4;generalize ((w5.setCell ⟨g,S,none⟩ (.int .u64 xQ)).setCell ⟨g,Q,none⟩ (.int .u64 xS)).drew=w6 at *;go_wp2
       go_roundw
       case rel=>exact⟨C,by omega,rfl,dn,HD5,uj,HK,rP⟩
       case measure=>simp[intOf];omega
    |true=>
     rw[hl]at hless
     have OH:Hid (fP hi first r dk=C1):=by
      show _=_
      unfold fP;rw[<-hC,<-hP,show P+1=P1 by omega,hl,if_pos (by simp;omega)]
      omega
     clear hl hC Md hP hP1;go_wp2
     go_upto_region 15 with fail
     go_quiet ((go_at_call 156;exact Calls.quiet_of_same (hless _)))
     have xO:Hid (aA (wr.drewN nq) g dk t):=aA.drewN HS.out nq;have zY:Hid _:=qk HG.out nq;clear HS HG hless q1 q2;generalize wr.drewN nq=wX at *;go_wp2;have hch:fP hi first r dk=C1:=OH.out;have uh:Hid (r<C1/\C1<hi):=by have:=WZ (first:=first) (d:=dk) (show 2*r+1<hi by have:=HC.out;omega);rw[hch]at this;exact this
     have hrc:=uh.out;obtain⟨S,hS⟩:∃S,S=first+r:=⟨_,rfl⟩
     obtain⟨Q,hQ⟩:∃Q,Q=first+C1:=⟨_,rfl⟩
     have wS:IntKind.i64.wrap ((first:Int)+(r:Int))=(S:Int):=by rw[IntKind.wrap_i64];omega
     have wQ:IntKind.i64.wrap ((first:Int)+(C1:Int))=(Q:Int):=by rw[IntKind.wrap_i64];omega
     have ie:S<N:=by omega
     have Uj:Q<N:=by omega
     have eS:(first:Int)+(r:Int)=(S:Int):=by omega
     have eQ:(first:Int)+(C1:Int)=(Q:Int):=by omega
     have jS:=fun w'=>qh g N c S w' (by omega)
     have jQ:=fun w'=>qh g N c Q w' (by omega)
     have hs3:aA wX g dk t:=xO.out;have k3:=hs3.cell (i:=S) (by rw[HD.out];omega)
     have k4:=hs3.cell (i:=Q) (by rw[HD.out];omega)
     have eX:=fun w'=>qp dk[S]! dk[Q]! w'
     cases hl2:aF dk[S]! dk[Q]! with
     |false=>
      rw[hl2]at eX
      have HR:Hid (dk=R):=by
       have h0:=WX (hi:=hi) (first:=first) (r:=r) (d:=dk) (by have:=HC.out;omega) (by rw[hch,<-hS,<-hQ];exact hl2)
       exact h0.symm.trans HI.out
      clear hl2 hch hS hQ HI hs3
      go_upto_region 15 with fail
      go_quiet ((go_at_call 156;exact Calls.quiet_of_same (eX _)))
      have nH:Hid (aA (wX.drewN nq) g dk t):=aA.drewN xO.out nq;have nI:Hid _:=qk zY.out nq;clear xO zY eX k3 k4;generalize wX.drewN nq=w5 at *;go_wp2;refine bodyPost_ret (results_none rfl _ _ _) rfl ?_
      obtain rfl:=HR.out
      exact⟨rfl,nH.out,nI.out⟩
     |true=>
      rw[hl2]at eX
      have HK:Hid (Go.Sort.siftDown aF hi first C1 (Go.Sort.swp dk S Q)=R):=by
       have h0:=WY (hi:=hi) (first:=first) (r:=r) (d:=dk) (by have:=HC.out;omega) (by rw[hch,<-hS,<-hQ];exact hl2)
       rw[hch,<-hS,<-hQ]at h0;exact h0.symm.trans HI.out
      clear hl2 hch hS hQ HI hs3
      go_upto_region 15 with fail
      go_quiet ((go_at_call 156;exact Calls.quiet_of_same (eX _)))
      have hs5:aA (wX.drewN nq) g dk t:=aA.drewN xO.out nq;have c3:=hs5.cell (i:=S) (by rw[HD.out];omega)
      have c4:=hs5.cell (i:=Q) (by rw[HD.out];omega)
      have f3:=hs5.fz S;have f4:=hs5.fz Q;have nH:Hid (aA (((wX.drewN nq).setCell ⟨g,S,none⟩ (.int .u64 dk[Q]!)).setCell ⟨g,Q,none⟩ (.int .u64 dk[S]!)) g (Go.Sort.swp dk S Q) t):=hs5.swap (by rw[HD.out];omega) (by rw[HD.out];omega)
      have nI:Hid (w.grownBy (((wX.drewN nq).setCell ⟨g,S,none⟩ (.int .u64 dk[Q]!)).setCell ⟨g,Q,none⟩ (.int .u64 dk[S]!)) (some g)):=ql (ql (qk zY.out nq) _) _;have HD5:Hid ((Go.Sort.swp dk S Q).size=N):=by show _=_;rw[Go.Sort.size_swp];exact HD.out
      clear xO zY eX k3 k4 hs5 HD;generalize dk[S]! = xS at *;generalize dk[Q]! = xQ at *;generalize Go.Sort.swp dk S Q=dn at *;generalize wX.drewN nq=w5 at *;go_wp2
      go_upto_region 15 with fail
      go_region
      all_goals
       have uj:Hid _:=nH.out.drew;have rP:Hid _:=qA nI.out;clear nH nI c3 c4 f3 f4;generalize ((w5.setCell ⟨g,S,none⟩ (.int .u64 xQ)).setCell ⟨g,Q,none⟩ (.int .u64 xS)).drew=w6 at *;go_wp2
       go_roundw
       case rel=>exact⟨C1,by omega,rfl,dn,HD5,uj,HK,rP⟩
       case measure=>simp[intOf];omega
   ·have hd1:decide ((C1:Int)<(hi:Int))=false:=decide_eq_false (by omega)
    have OH:Hid (fP hi first r dk=C):=by
     show _=_
     unfold fP;rw[<-hC,if_neg];simp
     intro h0
     omega
    clear hC Md;go_wp2
    go_upto_region 15 with fail
    go_quiet (fail)
    have xO:Hid (aA (wr.drewN nq) g dk t):=aA.drewN HS.out nq;have zY:Hid _:=qk HG.out nq;clear HS HG;generalize wr.drewN nq=wX at *;have hch:fP hi first r dk=C:=OH.out;have uh:Hid (r<C/\C<hi):=by have:=WZ (first:=first) (d:=dk) (show 2*r+1<hi by have:=HC.out;omega);rw[hch]at this;exact this
    have hrc:=uh.out;obtain⟨S,hS⟩:∃S,S=first+r:=⟨_,rfl⟩
    obtain⟨Q,hQ⟩:∃Q,Q=first+C:=⟨_,rfl⟩
    have wS:IntKind.i64.wrap ((first:Int)+(r:Int))=(S:Int):=by rw[IntKind.wrap_i64];omega
    have wQ:IntKind.i64.wrap ((first:Int)+(C:Int))=(Q:Int):=by rw[IntKind.wrap_i64];omega
    have ie:S<N:=by omega
    have Uj:Q<N:=by omega
    have eS:(first:Int)+(r:Int)=(S:Int):=by omega
    have eQ:(first:Int)+(C:Int)=(Q:Int):=by omega
    have jS:=fun w'=>qh g N c S w' (by omega)
    have jQ:=fun w'=>qh g N c Q w' (by omega)
    have hs3:aA wX g dk t:=xO.out;have k3:=hs3.cell (i:=S) (by rw[HD.out];omega)
    have k4:=hs3.cell (i:=Q) (by rw[HD.out];omega)
    have eX:=fun w'=>qp dk[S]! dk[Q]! w'
    cases hl2:aF dk[S]! dk[Q]! with
    |false=>
     rw[hl2]at eX
     have HR:Hid (dk=R):=by
      have h0:=WX (hi:=hi) (first:=first) (r:=r) (d:=dk) (by have:=HC.out;omega) (by rw[hch,<-hS,<-hQ];exact hl2)
      exact h0.symm.trans HI.out
     clear hl2 hch hS hQ HI hs3
     go_upto_region 15 with fail
     go_quiet ((go_at_call 156;exact Calls.quiet_of_same (eX _)))
     have nH:Hid (aA (wX.drewN nq) g dk t):=aA.drewN xO.out nq;have nI:Hid _:=qk zY.out nq;clear xO zY eX k3 k4;generalize wX.drewN nq=w5 at *;go_wp2;refine bodyPost_ret (results_none rfl _ _ _) rfl ?_
     obtain rfl:=HR.out
     exact⟨rfl,nH.out,nI.out⟩
    |true=>
     rw[hl2]at eX
     have HK:Hid (Go.Sort.siftDown aF hi first C (Go.Sort.swp dk S Q)=R):=by
      have h0:=WY (hi:=hi) (first:=first) (r:=r) (d:=dk) (by have:=HC.out;omega) (by rw[hch,<-hS,<-hQ];exact hl2)
      rw[hch,<-hS,<-hQ]at h0;exact h0.symm.trans HI.out
     clear hl2 hch hS hQ HI hs3
     go_upto_region 15 with fail
     go_quiet ((go_at_call 156;exact Calls.quiet_of_same (eX _)))
     have hs5:aA (wX.drewN nq) g dk t:=aA.drewN xO.out nq;have c3:=hs5.cell (i:=S) (by rw[HD.out];omega)
     have c4:=hs5.cell (i:=Q) (by rw[HD.out];omega)
     have f3:=hs5.fz S;have f4:=hs5.fz Q;have nH:Hid (aA (((wX.drewN nq).setCell ⟨g,S,none⟩ (.int .u64 dk[Q]!)).setCell ⟨g,Q,none⟩ (.int .u64 dk[S]!)) g (Go.Sort.swp dk S Q) t):=hs5.swap (by rw[HD.out];omega) (by rw[HD.out];omega)
     have nI:Hid (w.grownBy (((wX.drewN nq).setCell ⟨g,S,none⟩ (.int .u64 dk[Q]!)).setCell ⟨g,Q,none⟩ (.int .u64 dk[S]!)) (some g)):=ql (ql (qk zY.out nq) _) _;have HD5:Hid ((Go.Sort.swp dk S Q).size=N):=by show _=_;rw[Go.Sort.size_swp];exact HD.out
     clear xO zY eX k3 k4 hs5 HD;generalize dk[S]! = xS at *;generalize dk[Q]! = xQ at *;generalize Go.Sort.swp dk S Q=dn at *;generalize wX.drewN nq=w5 at *;go_wp2
     go_upto_region 15 with fail
     go_region
     all_goals
      have uj:Hid _:=nH.out.drew;have rP:Hid _:=qA nI.out;clear nH nI c3 c4 f3 f4;generalize ((w5.setCell ⟨g,S,none⟩ (.int .u64 xQ)).setCell ⟨g,Q,none⟩ (.int .u64 xS)).drew=w6 at *;go_wp2
      go_roundw
      case rel=>exact⟨C,by omega,rfl,dn,HD5,uj,HK,rP⟩
      case measure=>simp[intOf];omega
theorem qI{w1 w2:World}(h:w.grownBy w1 row)(k:w1.grownBy w2 row):w.grownBy w2 row :=
 ⟨k.os.trans h.os,k.tape.trans h.tape,k.output.trans h.output,Nat.le_trans h.size k.size,fun j hj hne=>(k.block j (Nat.lt_of_lt_of_le hj h.size) hne).trans (h.block j hj hne)⟩
theorem ig(hi first r:Nat)(d:Array Int):(Go.Sort.siftDown aF hi first r d).size=d.size:=by
 fun_induction Go.Sort.siftDown aF hi first r d<;>simp_all [Go.Sort.size_swp]
theorem K8(g c a b:Nat)(d:Array Int)(t:List Int)(w:World)(h:aA w g d t)(hab:a<b)(hb:b<=d.size)(hn:d.size<=1000000):
  Calls prog 151 #[.slice (some ⟨g,0,none⟩) d.size c,.int .i64 a,.int .i64 b] w (Ui w g t (Go.Sort.heapSort aF d a b)):=by
 obtain⟨N,hN⟩:∃N,d.size=N:=⟨_,rfl⟩
 obtain⟨R,hR⟩:∃R,Go.Sort.heapSort aF d a b=R:=⟨_,rfl⟩
 obtain⟨H,hH⟩:∃H,H=b-a:=⟨_,rfl⟩
 obtain⟨K0,hK0⟩:∃K0,K0=(H-1) / 2:=⟨_,rfl⟩
 have HI0:Hid (Go.Sort.heapPop aF a H (Go.Sort.heapBuild aF H a (K0+1) d)=R):=by
  show _=_
  rw[hK0,hH];exact hR
 have ou:=aX h;have HD0:=aX hN;rw[hN]at hb hn ⊢;rw[hR];have wH:IntKind.i64.wrap ((b:Int)-(a:Int))=(H:Int):=by rw[IntKind.wrap_i64];omega
 have eH:(b:Int)-(a:Int)=(H:Int):=by omega
 have wK:IntKind.i64.wrap ((H:Int)-1)=(H:Int)-1:=by rw[IntKind.wrap_i64];omega
 have tK:((H:Int)-1).tdiv 2=(K0:Int):=by rw[Int.tdiv_eq_ediv_of_nonneg (by omega)];omega
 have hHN:a+H<=N:=by omega
 have K9:K0<=H:=by omega
 have hH1:1<=H:=by omega
 clear h hN hR hH hK0;go_enter func151,ntmps151
 go_wp2
 go_loopw [9] (fun iv wr=>∃(i:Int) (k:Nat),iv=.int .i64 i/\i=(k:Int)-1/\k<=K0+1/\∃dk:Array Int,Hid (dk.size=N)/\Hid (aA wr g dk t)/\Hid (Go.Sort.heapPop aF a H (Go.Sort.heapBuild aF H a k dk)=R)/\Hid (w.grownBy wr (some g))) (fun iv _=>(intOf iv+1).toNat)
 case atStart=>exact⟨(K0:Int),K0+1,rfl,by omega,bZ,d,HD0,ou,HI0,World.grownBy.refl _ _⟩
 case round=>
  obtain⟨i,k,rfl,hik,hk,dk,HD,HS,HI,HG⟩:=hrel;clear HD0 ou HI0 wH eH wK tK
  cases k with
  |zero=>
   obtain rfl:i=-1:=by omega
   have Ln:IntKind.i64.wrap ((H:Int)-1)=(H:Int)-1:=by rw[IntKind.wrap_i64];omega
   have HI2:Hid (Go.Sort.heapPop aF a H dk=R):=HI.out;clear HI hik;go_wp2
   go_loopw [10] (fun iv wr=>∃(i:Int) (k:Nat),iv=.int .i64 i/\i=(k:Int)-1/\k<=H/\∃dk:Array Int,Hid (dk.size=N)/\Hid (aA wr g dk t)/\Hid (Go.Sort.heapPop aF a k dk=R)/\Hid (w.grownBy wr (some g))) (fun iv _=>(intOf iv+1).toNat)
   case atStart=>exact⟨(H:Int)-1,H,rfl,rfl,bZ,dk,HD,HS,HI2,HG⟩
   case round=>
    obtain⟨i,k,rfl,hik,hk,dk,HD3,lS,HI3,nG⟩:=hrel;clear HD HS HI2 HG Ln
    cases k with
    |zero=>
     obtain rfl:i=-1:=by omega
     have HR:Hid (dk=R):=HI3.out;clear HI3 hik;go_wp2
     go_end0
     obtain rfl:=HR.out
     exact⟨rfl,lS.out,nG.out⟩
    |succ m=>
     obtain rfl:i=(m:Int):=by omega
     obtain⟨Q,hQ⟩:∃Q,Q=a+m:=⟨_,rfl⟩
     have HK:Hid (Go.Sort.heapPop aF a m (Go.Sort.siftDown aF m a 0 (Go.Sort.swp dk a Q))=R):=by
      show _=_
      rw[hQ];exact HI3.out
     have wQ:IntKind.i64.wrap ((a:Int)+(m:Int))=(Q:Int):=by rw[IntKind.wrap_i64];omega
     have eQ:(a:Int)+(m:Int)=(Q:Int):=by omega
     have Uj:Q<N:=by omega
     have hmQ:a+m<=N:=by omega
     have hdec:IntKind.i64.wrap ((m:Int)-1)=(m:Int)-1:=by rw[IntKind.wrap_i64];omega
     have hi1:=fun w'=>qh g N c a w' (by omega)
     have hi2:=fun w'=>qh g N c Q w' Uj
     have hs5:aA wr g dk t:=lS.out;have c3:=hs5.cell (i:=a) (by rw[HD3.out];omega)
     have c4:=hs5.cell (i:=Q) (by rw[HD3.out];omega)
     have f3:=hs5.fz a;have f4:=hs5.fz Q;have Jg:aA (wr.setCell ⟨g,a,none⟩ (.int .u64 dk[Q]!)) g (dk.setIfInBounds a dk[Q]!) t:=hs5.set (by rw[HD3.out];omega) _
     have f5:=Jg.fz Q;have c5:=Jg.cell (i:=Q) (by rw[Array.size_setIfInBounds,HD3.out];omega)
     have nH:Hid (aA ((wr.setCell ⟨g,a,none⟩ (.int .u64 dk[Q]!)).setCell ⟨g,Q,none⟩ (.int .u64 dk[a]!)) g (Go.Sort.swp dk a Q) t):=hs5.swap (by rw[HD3.out];omega) (by rw[HD3.out];omega)
     have nI:Hid (w.grownBy ((wr.setCell ⟨g,a,none⟩ (.int .u64 dk[Q]!)).setCell ⟨g,Q,none⟩ (.int .u64 dk[a]!)) (some g)):=ql (ql nG.out _) _;have HD5:Hid ((Go.Sort.swp dk a Q).size=N):=by show _=_;rw[Go.Sort.size_swp];exact HD3.out
     clear lS nG hs5 Jg HD3 HI3 hik hQ;generalize (dk.setIfInBounds a dk[Q]!)[Q]! = yQ at *;generalize dk[a]! = xa at *;generalize dk[Q]! = xQ at *;generalize Go.Sort.swp dk a Q=dn at *;go_wp2
     go_upto_region 15 with fail
     go_region
     all_goals
      have uj:Hid (aA ((wr.setCell ⟨g,a,none⟩ (.int .u64 xQ)).setCell ⟨g,Q,none⟩ (.int .u64 xa)).drew g dn t):=aA.drew nH.out;have rP:Hid _:=qA nI.out;clear nH nI c3 c4 f3 f4 f5 c5;generalize ((wr.setCell ⟨g,a,none⟩ (.int .u64 xQ)).setCell ⟨g,Q,none⟩ (.int .u64 xa)).drew=w6 at *;have hsf:=gP g c 0 m a dn t w6 uj.out (Nat.zero_le _) (by rw[HD5.out];omega) (by rw[HD5.out];omega)
      rw[HD5.out,show ((0:Nat):Int)=0 from rfl]at hsf
      go_wp2_with fail
      refine hsf.mono ?_
      rintro e w7 ⟨rfl,hs7,uS⟩
      have zZ:=aX hs7;have wR:Hid (w.grownBy w7 (some g)):=qI rP.out uS;have HD7:Hid ((Go.Sort.siftDown aF m a 0 dn).size=N):=by show _=_;rw[ig];exact HD5.out
      clear hsf hs7 uS uj rP;go_wp2
      go_roundw
      case rel=>exact⟨(m:Int)-1,m,rfl,rfl,by omega,_,HD7,zZ,HK,wR⟩
      case measure=>simp[intOf]
  |succ m=>
   obtain rfl:i=(m:Int):=by omega
   have HK:Hid (Go.Sort.heapPop aF a H (Go.Sort.heapBuild aF H a m (Go.Sort.siftDown aF H a m dk))=R):=HI.out;have hdec:IntKind.i64.wrap ((m:Int)-1)=(m:Int)-1:=by rw[IntKind.wrap_i64];omega
   have hsf:=gP g c m H a dk t wr HS.out (by rw[HD.out];omega) (by rw[HD.out];omega) (by rw[HD.out];omega)
   rw[HD.out]at hsf;clear HI hik
   go_wp2_with fail
   refine hsf.mono ?_
   rintro e w7 ⟨rfl,hs7,uS⟩
   have zZ:=aX hs7;have wR:Hid (w.grownBy w7 (some g)):=qI HG.out uS;have HD7:Hid ((Go.Sort.siftDown aF H a m dk).size=N):=by show _=_;rw[ig];exact HD.out
   clear hsf hs7 uS HS HG;go_wp2
   go_roundw
   case rel=>exact⟨(m:Int)-1,m,rfl,rfl,by omega,_,HD7,zZ,HK,wR⟩
   case measure=>simp[intOf]
end Go.Proofs.YtoioiellaomonaaGreatDoor
namespace Go.Proofs.YtoioiellaomonaaGreatDoor
open Go.RowKit Go.Maps Proofs.Tryz
open Go.Sort (swp PermIn SortedIn)
variable {d0 d:Array Int}{a b i j q:Nat}{p:Int}
structure PI(d0:Array Int)(a b i j:Nat)(d:Array Int)(p:Int):Prop where
 sz:d.size=d0.size
 perm:PermIn a b d0 d
 piv:d[a]! = p
 ia:a+1<=i
 ij:i<=j+1
 jb:j<b
 lo:∀x,a<x->x<i->aF d[x]! p=true
 hi:∀x,j<x->x<b->aF d[x]! p=false
theorem PI.up(h:PI d0 a b i j d p)(hij:i<=j)(hl:aF d[i]! p=true):PI d0 a b (i+1) j d p :=
 ⟨h.sz,h.perm,h.piv,by have:=h.ia;omega,by omega,h.jb,fun x h1 h2=>by
  by_cases e:x=i
  ·subst e;exact hl
  ·exact h.lo x h1 (by omega),h.hi⟩
theorem PI.down(h:PI d0 a b i (j+1) d p)(hij:i<=j+1)(hl:aF d[j+1]! p=false):PI d0 a b i j d p :=
 ⟨h.sz,h.perm,h.piv,h.ia,hij,by have:=h.jb;omega,h.lo,fun x h1 h2=>by
  by_cases e:x=j+1
  ·subst e;exact hl
  ·exact h.hi x (by omega) h2⟩
theorem PI.swap(h:PI d0 a b i (j+1) d p)(hb:b<=d0.size)(hij:i<=j+1)(h1:aF d[i]! p=false)(h2:aF d[j+1]! p=true):PI d0 a b (i+1) j (swp d i (j+1)) p:=by
 have hne:i≠j+1:=fun e=>by subst e;rw[h1]at h2;cases h2
 have hia:=h.ia;have hjb:=h.jb;have hsz:=h.sz;refine⟨by rw[Go.Sort.size_swp,hsz],Go.Sort.permIn_trans _ _ _ _ _ h.perm (Go.Sort.swp_permIn d a b i (j+1) (by omega) (by omega) (by omega) hjb (by omega)),?_,by omega,by omega,by omega,fun x k1 k2=>?_,fun x k1 k2=>?_⟩
 ·rw[Go.Sort.swp_other _ _ _ _ (by omega) (by omega)];exact h.piv
 ·by_cases e:x=i
  ·subst e
   rw[Go.Sort.swp_left _ _ _ (by omega) hne];exact h2
  ·rw[Go.Sort.swp_other _ _ _ _ e (by omega)];exact h.lo x k1 (by omega)
 ·by_cases e:x=j+1
  ·subst e
   rw[Go.Sort.swp_right _ _ _ (by omega)];exact h1
  ·rw[Go.Sort.swp_other _ _ _ _ (by omega) e];exact h.hi x (by omega) k2
structure pI(d0:Array Int)(a b m:Nat)(d:Array Int):Prop where
 sz:d.size=d0.size
 ma:a<=m
 mb:m<b
 perm:PermIn a b d0 d
 lo:∀x,a<=x->x<m->aF d[x]! d[m]! = true
 hi:∀x,m<x->x<b->aF d[x]! d[m]! = false
theorem PI.fin(h:PI d0 a b i j d p)(hb:b<=d0.size)(hij:¬i<=j):pI d0 a b j (swp d j a):=by
 have hia:=h.ia;have h0:=h.ij;have hjb:=h.jb;have hsz:=h.sz;have e0:i=j+1:=by omega
 subst e0
 have hj:(swp d j a)[j]! = p:=by
  by_cases e:j=a
  ·subst e;rw[Go.Sort.swp_right _ _ _ (by omega)];exact h.piv
  ·rw[Go.Sort.swp_left _ _ _ (by omega) e];exact h.piv
 refine⟨by rw[Go.Sort.size_swp,hsz],by omega,hjb,Go.Sort.permIn_trans _ _ _ _ _ h.perm (Go.Sort.swp_permIn d a b j a (by omega) hjb bZ (by omega) (by omega)),fun x k1 k2=>?_,fun x k1 k2=>?_⟩
 ·rw[hj]
  by_cases e:x=a
  ·subst e
   rw[Go.Sort.swp_right _ _ _ (by omega)]
   exact h.lo j (by omega) (by omega)
  ·rw[Go.Sort.swp_other _ _ _ _ (by omega) e]
   exact h.lo x (by omega) (by omega)
 ·rw[hj,Go.Sort.swp_other _ _ _ _ (by omega) (by omega)]
  exact h.hi x k1 k2
theorem Lq(hab:a<b)(hb:b<=d0.size)(hq1:a<=q)(hq2:q<b):PI d0 a b (a+1) (b-1) (swp d0 a q) (swp d0 a q)[a]! :=
 ⟨Go.Sort.size_swp _ _ _,Go.Sort.swp_permIn d0 a b a q bZ hab hq1 hq2 hb,rfl,bZ,by omega,by omega,fun x h1 h2=>by omega,fun x h1 h2=>by omega⟩
theorem Lt(g c a b q0:Nat)(d0:Array Int)(t:List Int)(w:World)(h:aA w g d0 t)(hab:a<b)(hb:b<=d0.size)(hq1:a<=q0)(hq2:q0<b)(hn:d0.size<=1000000):
  Calls prog 158 #[.slice (some ⟨g,0,none⟩) d0.size c,.int .i64 a,.int .i64 b,.int .i64 q0] w fun e w'=>∃(m:Nat) (f:Bool) (d1:Array Int),e=.returned (.tuple #[.int .i64 m,.bool f])/\pI d0 a b m d1/\aA w' g d1 t/\w.grownBy w' (some g):=by
 obtain⟨N,hN⟩:∃N,d0.size=N:=⟨_,rfl⟩
 have ou:=aX h;have HD0:=aX hN;have vS:Hid (w.grownBy w (some g)):=World.grownBy.refl _ _;have Fb:Hid _:=Lq hab hb hq1 hq2;obtain⟨J,hJ⟩:∃J,b-1=J:=⟨_,rfl⟩
 rw[hJ]at Fb;have HB:=aX hb;rw[hN]at hb hn ⊢;clear h hN;go_enter func158,ntmps158
 have wi:IntKind.i64.wrap ((a:Int)+1)=((a+1:Nat):Int):=by rw[IntKind.wrap_i64];omega
 have wj:IntKind.i64.wrap ((b:Int)-1)=(J:Int):=by rw[IntKind.wrap_i64];omega
 have ej:(b:Int)-1=(J:Int):=by omega
 clear hJ;go_wp2;obtain⟨p,hp⟩:∃p,(swp d0 a q0)[a]! = p:=⟨_,rfl⟩
 rw[hp]at Fb;clear hp;have hi1:=fun w'=>qh g N c a w' (by omega)
 have hi2:=fun w'=>qh g N c q0 w' (by omega)
 have hsw:aA w g d0 t:=ou.out;have c3:=hsw.cell (i:=a) (by rw[HD0.out];omega)
 have c4:=hsw.cell (i:=q0) (by rw[HD0.out];omega)
 have f3:=hsw.fz a;have f4:=hsw.fz q0;have dK:aA (w.setCell ⟨g,a,none⟩ (.int .u64 d0[q0]!)) g (d0.setIfInBounds a d0[q0]!) t:=hsw.set (by rw[HD0.out];omega) _
 have f5:=dK.fz q0;have c5:=dK.cell (i:=q0) (by rw[Array.size_setIfInBounds,HD0.out];omega)
 have CQ:Hid (aA ((w.setCell ⟨g,a,none⟩ (.int .u64 d0[q0]!)).setCell ⟨g,q0,none⟩ (.int .u64 d0[a]!)) g (swp d0 a q0) t):=hsw.swap (by rw[HD0.out];omega) (by rw[HD0.out];omega)
 have CS:Hid (w.grownBy ((w.setCell ⟨g,a,none⟩ (.int .u64 d0[q0]!)).setCell ⟨g,q0,none⟩ (.int .u64 d0[a]!)) (some g)):=ql (ql vS.out _) _;have HD1:Hid ((swp d0 a q0).size=N):=by show _=_;rw[Go.Sort.size_swp];exact HD0.out
 clear hsw dK;generalize (d0.setIfInBounds a d0[q0]!)[q0]! = AA at *;generalize d0[a]! = xi at *;generalize d0[q0]! = xj at *
 go_upto_region 15 with fail
 go_region
 all_goals
  have uo:Hid (aA ((w.setCell ⟨g,a,none⟩ (.int .u64 xj)).setCell ⟨g,q0,none⟩ (.int .u64 xi)).drew g (swp d0 a q0) t):=aA.drew CQ.out;have uq:Hid (w.grownBy ((w.setCell ⟨g,a,none⟩ (.int .u64 xj)).setCell ⟨g,q0,none⟩ (.int .u64 xi)).drew (some g)):=qA CS.out;clear CQ CS c3 c4 f3 f4 f5 c5 hi1 hi2;generalize ((w.setCell ⟨g,a,none⟩ (.int .u64 xj)).setCell ⟨g,q0,none⟩ (.int .u64 xi)).drew=w1 at *;generalize swp d0 a q0=d1 at *;go_wp2;clear wi wj ej
  go_loopw [10] (fun sv wr=>∃i:Nat,sv=.int .i64 i/\Hid (PI d0 a b i J d1 p)/\Hid (aA wr g d1 t)/\Hid (w.grownBy wr (some g))/\Hid (a+1<=i)) (fun sv _=>N+1-(intOf sv).toNat)
  case atStart=>exact⟨a+1,by first|rfl|go_num,Fb,uo,uq,bZ⟩
  case round=>
   obtain⟨i,rfl,HP2,Fe,Jh,HL2⟩:=hrel;have bL:=HL2.out;clear Fb uo uq;have b1:=HP2.out.ia;have b2:=HP2.out.ij;have b3:=HP2.out.jb;obtain⟨q,hq⟩:∃q:Bool,q=(decide (i<=J)&&aF d1[i]! d1[a]!):=⟨_,rfl⟩
   have HQ:=aX hq;clear hq
   go_upto_region 15 with fail
   go_cut [43] (fun cv wx=>cv=.bool q/\Hid (aA wx g d1 t)/\Hid (w.grownBy wx (some g)))
   case first=>
    by_cases hij:i<=J
    ·have hd:decide ((i:Int)<=(J:Int))=true:=decide_eq_true (by omega)
     have hi1:=fun w'=>qh g N c i w' (by omega)
     have hi2:=fun w'=>qh g N c a w' (by omega)
     have hsw:aA wr g d1 t:=Fe.out;have c3:=hsw.cell (i:=i) (by rw[HD1.out];omega)
     have c4:=hsw.cell (i:=a) (by rw[HD1.out];omega)
     have hless:=fun w'=>qp d1[i]! d1[a]! w'
     have mG:Hid (q=(aF d1[i]! d1[a]!)):=by
      show _=_
      rw[HQ.out,decide_eq_true hij];rfl
     clear hsw HQ;generalize aF d1[i]! d1[a]! = lv at *;generalize d1[i]! = xv at *;generalize d1[a]! = xa at *;obtain rfl:=mG.out
     go_quiet ((go_at_call 156;exact Calls.quiet_of_same (hless _)))
     go_wp2
     go_meet
     case rel=>exact⟨rfl,aA.drewN Fe.out _,qk Jh.out _⟩
    ·have hd:decide ((i:Int)<=(J:Int))=false:=decide_eq_false (by omega)
     have mG:Hid (q=false):=by
      show _=_
      rw[HQ.out,decide_eq_false hij];rfl
     clear HQ;obtain rfl:=mG.out
     go_quiet (fail)
     go_wp2
     go_meet
     case rel=>exact⟨rfl,aA.drewN Fe.out _,qk Jh.out _⟩
   case rest=>
    obtain⟨rfl,HS2,HG2⟩:=hcut;clear Fe Jh
    cases q with
    |true=>
     have hq:=HQ.out.symm;rw[Bool.and_eq_true,decide_eq_true_eq]at hq;have AB:Hid (PI d0 a b (i+1) J d1 p):=HP2.out.up hq.1 (by have h2:=hq.2;have h3:=HP2.out.piv;rw[<-h3];simpa using h2)
     clear HQ HP2;go_wp2
     go_roundw
     case rel=>exact⟨i+1,by go_num,AB,HS2,HG2,by show _<=_;omega⟩
     case measure=>simp[intOf];omega
    |false=>
     have Uk:Hid (i<=J->aF d1[i]! d1[a]! = false):=fun h=>by
      have:=HQ.out
      rw[decide_eq_true h]at this;simpa using this.symm
     clear HQ;generalize wc=w2 at *;go_wp2
     go_loopw [11] (fun sv wr=>∃j:Nat,sv=.int .i64 j/\Hid (PI d0 a b i j d1 p)/\Hid (aA wr g d1 t)/\Hid (w.grownBy wr (some g))/\Hid (j<=J)) (fun sv _=>(intOf sv).toNat)
     case atStart=>exact⟨J,by first|rfl|go_num,HP2,HS2,HG2,bZ⟩
     case round=>
      obtain⟨j,rfl,CU,Fg,Ji,Lx⟩:=hrel;have bL:=Lx.out;clear HP2 HS2 HG2;have b1:=CU.out.ia;have b2:=CU.out.ij;have b3:=CU.out.jb;obtain⟨q,hq⟩:∃q:Bool,q=(decide (i<=j) && !aF d1[j]! d1[a]!):=⟨_,rfl⟩
      have HQ:=aX hq;clear hq
      go_upto_region 15 with fail
      go_cut [60] (fun cv wx=>cv=.bool q/\Hid (aA wx g d1 t)/\Hid (w.grownBy wx (some g)))
      case first=>
       by_cases hij:i<=j
       ·have hd:decide ((i:Int)<=(j:Int))=true:=decide_eq_true (by omega)
        have hi1:=fun w'=>qh g N c j w' (by omega)
        have hi2:=fun w'=>qh g N c a w' (by omega)
        have hsw:aA wr g d1 t:=Fg.out;have c3:=hsw.cell (i:=j) (by rw[HD1.out];omega)
        have c4:=hsw.cell (i:=a) (by rw[HD1.out];omega)
        have hless:=fun w'=>qp d1[j]! d1[a]! w'
        have mG:Hid (q=!(aF d1[j]! d1[a]!)):=by
         show _=_
         rw[HQ.out,decide_eq_true hij];rfl
        clear hsw HQ;generalize aF d1[j]! d1[a]! = lv at *;generalize d1[j]! = xv at *;generalize d1[a]! = xa at *;obtain rfl:=mG.out
        go_quiet ((go_at_call 156;exact Calls.quiet_of_same (hless _)))
        go_wp2
        go_meet
        case rel=>exact⟨rfl,aA.drewN Fg.out _,qk Ji.out _⟩
       ·have hd:decide ((i:Int)<=(j:Int))=false:=decide_eq_false (by omega)
        have mG:Hid (q=false):=by
         show _=_
         rw[HQ.out,decide_eq_false hij];rfl
        clear HQ;obtain rfl:=mG.out
        go_quiet (fail)
        go_wp2
        go_meet
        case rel=>exact⟨rfl,aA.drewN Fg.out _,qk Ji.out _⟩
      case rest=>
       obtain⟨rfl,lS,nG⟩:=hcut;clear Fg Ji
       cases q with
       |true=>
        have hq:=HQ.out.symm;rw[Bool.and_eq_true,decide_eq_true_eq]at hq;obtain⟨jm,hjm⟩:∃jm,j=jm+1:=⟨j-1,by omega⟩
        have hdec:IntKind.i64.wrap ((j:Int)-1)=(jm:Int):=by rw[IntKind.wrap_i64];omega
        have AB:Hid (PI d0 a b i jm d1 p):=by
         subst hjm;exact CU.out.down hq.1 (by have h2:=hq.2;have h3:=CU.out.piv;rw[<-h3];simpa using h2)
        have hlt:jm<j:=by omega
        clear HQ CU hjm hq;go_wp2
        go_roundw
        case rel=>exact⟨jm,rfl,AB,lS,nG,by show _<=_;omega⟩
        case measure=>simp[intOf];omega
       |false=>
        have OI:Hid (i<=j->aF d1[j]! d1[a]! = true):=fun h=>by
         have:=HQ.out
         rw[decide_eq_true h]at this;simpa using this.symm
        clear HQ;generalize wc=w3 at *;by_cases hij:i<=j
        ·have hij2:¬(j:Int)<(i:Int):=by omega
         obtain⟨jm,hjm⟩:∃jm,j=jm+1:=⟨j-1,by omega⟩
         have hdec:IntKind.i64.wrap ((j:Int)-1)=(jm:Int):=by rw[IntKind.wrap_i64];omega
         have CV:(j:Int)-1=(jm:Int):=by omega
         have Eu:Hid (PI d0 a b (i+1) jm (swp d1 i j) p):=by
          have h1:=Uk.out (by omega)
          have h2:=OI.out hij;rw[CU.out.piv]at h1 h2;subst hjm;exact CU.out.swap HB.out hij h1 h2
         clear Uk OI CU hjm;go_wp2;have hi1:=fun w'=>qh g N c i w' (by omega)
         have hi2:=fun w'=>qh g N c j w' (by omega)
         have hsw:aA w3 g d1 t:=lS.out;have c3:=hsw.cell (i:=i) (by rw[HD1.out];omega)
         have c4:=hsw.cell (i:=j) (by rw[HD1.out];omega)
         have f3:=hsw.fz i;have f4:=hsw.fz j;have dK:aA (w3.setCell ⟨g,i,none⟩ (.int .u64 d1[j]!)) g (d1.setIfInBounds i d1[j]!) t:=hsw.set (by rw[HD1.out];omega) _
         have f5:=dK.fz j;have c5:=dK.cell (i:=j) (by rw[Array.size_setIfInBounds,HD1.out];omega)
         have OJ:Hid (aA ((w3.setCell ⟨g,i,none⟩ (.int .u64 d1[j]!)).setCell ⟨g,j,none⟩ (.int .u64 d1[i]!)) g (swp d1 i j) t):=hsw.swap (by rw[HD1.out];omega) (by rw[HD1.out];omega)
         have OL:Hid (w.grownBy ((w3.setCell ⟨g,i,none⟩ (.int .u64 d1[j]!)).setCell ⟨g,j,none⟩ (.int .u64 d1[i]!)) (some g)):=ql (ql nG.out _) _;have HD4:Hid ((swp d1 i j).size=N):=by show _=_;rw[Go.Sort.size_swp];exact HD1.out
         clear hsw dK;generalize (d1.setIfInBounds i d1[j]!)[j]! = AA at *;generalize d1[i]! = xi at *;generalize d1[j]! = xj at *
         go_upto_region 15 with fail
         go_region
         all_goals
          have Mc:Hid (aA ((w3.setCell ⟨g,i,none⟩ (.int .u64 xj)).setCell ⟨g,j,none⟩ (.int .u64 xi)).drew g (swp d1 i j) t):=aA.drew OJ.out;have yZ:Hid (w.grownBy ((w3.setCell ⟨g,i,none⟩ (.int .u64 xj)).setCell ⟨g,j,none⟩ (.int .u64 xi)).drew (some g)):=qA OL.out;clear OJ OL c3 c4 f3 f4 f5 c5 hi1 hi2;generalize ((w3.setCell ⟨g,i,none⟩ (.int .u64 xj)).setCell ⟨g,j,none⟩ (.int .u64 xi)).drew=w4 at *;generalize swp d1 i j=d4 at *;go_wp2;clear hdec CV
          go_loopw [10,11] (fun iv jv wr=>∃i j:Nat,iv=.int .i64 i/\jv=.int .i64 j/\∃dm:Array Int,Hid (dm.size=N)/\Hid (PI d0 a b i j dm p)/\Hid (aA wr g dm t)/\Hid (w.grownBy wr (some g))) (fun iv jv _=>(intOf jv+1-intOf iv).toNat)
          case atStart=>exact⟨i+1,jm,by go_num,rfl,d4,HD4,Eu,Mc,yZ⟩
          case round=>
           obtain⟨i0,j0,rfl,rfl,dm,oz,CW,OM,OO⟩:=hrel;clear HD4 Eu Mc yZ hij hij2 b1 b2 b3 bL;have a1:=CW.out.ia;have a2:=CW.out.ij;have a3:=CW.out.jb;go_wp2
           go_loopw [10] (fun sv wr=>∃i:Nat,sv=.int .i64 i/\Hid (PI d0 a b i j0 dm p)/\Hid (aA wr g dm t)/\Hid (w.grownBy wr (some g))/\Hid (i0<=i)) (fun sv _=>N+1-(intOf sv).toNat)
           case atStart=>exact⟨i0,by first|rfl|go_num,CW,OM,OO,bZ⟩
           case round=>
            obtain⟨i,rfl,xP,vT,zh,Jj⟩:=hrel;have bL:=Jj.out;clear CW OM OO;have b1:=xP.out.ia;have b2:=xP.out.ij;have b3:=xP.out.jb;obtain⟨q,hq⟩:∃q:Bool,q=(decide (i<=j0)&&aF dm[i]! dm[a]!):=⟨_,rfl⟩
            have HQ:=aX hq;clear hq
            go_upto_region 15 with fail
            go_cut [112] (fun cv wx=>cv=.bool q/\Hid (aA wx g dm t)/\Hid (w.grownBy wx (some g)))
            case first=>
             by_cases hij:i<=j0
             ·have hd:decide ((i:Int)<=(j0:Int))=true:=decide_eq_true (by omega)
              have hi1:=fun w'=>qh g N c i w' (by omega)
              have hi2:=fun w'=>qh g N c a w' (by omega)
              have hsw:aA wr g dm t:=vT.out;have c3:=hsw.cell (i:=i) (by rw[oz.out];omega)
              have c4:=hsw.cell (i:=a) (by rw[oz.out];omega)
              have hless:=fun w'=>qp dm[i]! dm[a]! w'
              have mG:Hid (q=(aF dm[i]! dm[a]!)):=by
               show _=_
               rw[HQ.out,decide_eq_true hij];rfl
              clear hsw HQ;generalize aF dm[i]! dm[a]! = lv at *;generalize dm[i]! = xv at *;generalize dm[a]! = xa at *;obtain rfl:=mG.out
              go_quiet ((go_at_call 156;exact Calls.quiet_of_same (hless _)))
              go_wp2
              go_meet
              case rel=>exact⟨rfl,aA.drewN vT.out _,qk zh.out _⟩
             ·have hd:decide ((i:Int)<=(j0:Int))=false:=decide_eq_false (by omega)
              have mG:Hid (q=false):=by
               show _=_
               rw[HQ.out,decide_eq_false hij];rfl
              clear HQ;obtain rfl:=mG.out
              go_quiet (fail)
              go_wp2
              go_meet
              case rel=>exact⟨rfl,aA.drewN vT.out _,qk zh.out _⟩
            case rest=>
             obtain⟨rfl,nH,nI⟩:=hcut;clear vT zh
             cases q with
             |true=>
              have hq:=HQ.out.symm;rw[Bool.and_eq_true,decide_eq_true_eq]at hq;have AB:Hid (PI d0 a b (i+1) j0 dm p):=xP.out.up hq.1 (by have h2:=hq.2;have h3:=xP.out.piv;rw[<-h3];simpa using h2)
              clear HQ xP;go_wp2
              go_roundw
              case rel=>exact⟨i+1,by go_num,AB,nH,nI,by show _<=_;omega⟩
              case measure=>simp[intOf];omega
             |false=>
              have AL:Hid (i<=j0->aF dm[i]! dm[a]! = false):=fun h=>by
               have:=HQ.out
               rw[decide_eq_true h]at this;simpa using this.symm
              clear HQ;generalize wc=w5 at *;go_wp2
              go_loopw [11] (fun sv wr=>∃j:Nat,sv=.int .i64 j/\Hid (PI d0 a b i j dm p)/\Hid (aA wr g dm t)/\Hid (w.grownBy wr (some g))/\Hid (j<=j0)) (fun sv _=>(intOf sv).toNat)
              case atStart=>exact⟨j0,by first|rfl|go_num,xP,nH,nI,bZ⟩
              case round=>
               obtain⟨j,rfl,sF,vU,zi,Fh⟩:=hrel;have bL:=Fh.out;clear xP nH nI;have b1:=sF.out.ia;have b2:=sF.out.ij;have b3:=sF.out.jb;obtain⟨q,hq⟩:∃q:Bool,q=(decide (i<=j) && !aF dm[j]! dm[a]!):=⟨_,rfl⟩
               have HQ:=aX hq;clear hq
               go_upto_region 15 with fail
               go_cut [129] (fun cv wx=>cv=.bool q/\Hid (aA wx g dm t)/\Hid (w.grownBy wx (some g)))
               case first=>
                by_cases hij:i<=j
                ·have hd:decide ((i:Int)<=(j:Int))=true:=decide_eq_true (by omega)
                 have hi1:=fun w'=>qh g N c j w' (by omega)
                 have hi2:=fun w'=>qh g N c a w' (by omega)
                 have hsw:aA wr g dm t:=vU.out;have c3:=hsw.cell (i:=j) (by rw[oz.out];omega)
                 have c4:=hsw.cell (i:=a) (by rw[oz.out];omega)
                 have hless:=fun w'=>qp dm[j]! dm[a]! w'
                 have mG:Hid (q=!(aF dm[j]! dm[a]!)):=by
                  show _=_
                  rw[HQ.out,decide_eq_true hij];rfl
                 clear hsw HQ;generalize aF dm[j]! dm[a]! = lv at *;generalize dm[j]! = xv at *;generalize dm[a]! = xa at *;obtain rfl:=mG.out
                 go_quiet ((go_at_call 156;exact Calls.quiet_of_same (hless _)))
                 go_wp2
                 go_meet
                 case rel=>exact⟨rfl,aA.drewN vU.out _,qk zi.out _⟩
                ·have hd:decide ((i:Int)<=(j:Int))=false:=decide_eq_false (by omega)
                 have mG:Hid (q=false):=by
                  show _=_
                  rw[HQ.out,decide_eq_false hij];rfl
                 clear HQ;obtain rfl:=mG.out
                 go_quiet (fail)
                 go_wp2
                 go_meet
                 case rel=>exact⟨rfl,aA.drewN vU.out _,qk zi.out _⟩
               case rest=>
                obtain⟨rfl,uj,rP⟩:=hcut;clear vU zi
                cases q with
                |true=>
                 have hq:=HQ.out.symm;rw[Bool.and_eq_true,decide_eq_true_eq]at hq;obtain⟨jm,hjm⟩:∃jm,j=jm+1:=⟨j-1,by omega⟩
                 have hdec:IntKind.i64.wrap ((j:Int)-1)=(jm:Int):=by rw[IntKind.wrap_i64];omega
                 have AB:Hid (PI d0 a b i jm dm p):=by
                  subst hjm;exact sF.out.down hq.1 (by have h2:=hq.2;have h3:=sF.out.piv;rw[<-h3];simpa using h2)
                 have hlt:jm<j:=by omega
                 clear HQ sF hjm hq;go_wp2
                 go_roundw
                 case rel=>exact⟨jm,rfl,AB,uj,rP,by show _<=_;omega⟩
                 case measure=>simp[intOf];omega
                |false=>
                 have OQ:Hid (i<=j->aF dm[j]! dm[a]! = true):=fun h=>by
                  have:=HQ.out
                  rw[decide_eq_true h]at this;simpa using this.symm
                 clear HQ;generalize wc=w6 at *;by_cases hij:i<=j
                 ·have hij2:¬(j:Int)<(i:Int):=by omega
                  obtain⟨jm,hjm⟩:∃jm,j=jm+1:=⟨j-1,by omega⟩
                  have hdec:IntKind.i64.wrap ((j:Int)-1)=(jm:Int):=by rw[IntKind.wrap_i64];omega
                  have CV:(j:Int)-1=(jm:Int):=by omega
                  have Eu:Hid (PI d0 a b (i+1) jm (swp dm i j) p):=by
                   have h1:=AL.out (by omega)
                   have h2:=OQ.out hij;rw[sF.out.piv]at h1 h2;subst hjm;exact sF.out.swap HB.out hij h1 h2
                  have hi0:i0<=i:=Jj.out;have hjj:jm<j0:=by omega
                  clear AL OQ sF hjm;go_wp2;have hi1:=fun w'=>qh g N c i w' (by omega)
                  have hi2:=fun w'=>qh g N c j w' (by omega)
                  have hsw:aA w6 g dm t:=uj.out;have c3:=hsw.cell (i:=i) (by rw[oz.out];omega)
                  have c4:=hsw.cell (i:=j) (by rw[oz.out];omega)
                  have f3:=hsw.fz i;have f4:=hsw.fz j;have dK:aA (w6.setCell ⟨g,i,none⟩ (.int .u64 dm[j]!)) g (dm.setIfInBounds i dm[j]!) t:=hsw.set (by rw[oz.out];omega) _
                  have f5:=dK.fz j;have c5:=dK.cell (i:=j) (by rw[Array.size_setIfInBounds,oz.out];omega)
                  have sG:Hid (aA ((w6.setCell ⟨g,i,none⟩ (.int .u64 dm[j]!)).setCell ⟨g,j,none⟩ (.int .u64 dm[i]!)) g (swp dm i j) t):=hsw.swap (by rw[oz.out];omega) (by rw[oz.out];omega)
                  have sH:Hid (w.grownBy ((w6.setCell ⟨g,i,none⟩ (.int .u64 dm[j]!)).setCell ⟨g,j,none⟩ (.int .u64 dm[i]!)) (some g)):=ql (ql rP.out _) _;have HD7:Hid ((swp dm i j).size=N):=by show _=_;rw[Go.Sort.size_swp];exact oz.out
                  clear hsw dK;generalize (dm.setIfInBounds i dm[j]!)[j]! = AA at *;generalize dm[i]! = xi at *;generalize dm[j]! = xj at *
                  go_upto_region 15 with fail
                  go_region
                  all_goals
                   have zZ:Hid (aA ((w6.setCell ⟨g,i,none⟩ (.int .u64 xj)).setCell ⟨g,j,none⟩ (.int .u64 xi)).drew g (swp dm i j) t):=aA.drew sG.out;have wR:Hid (w.grownBy ((w6.setCell ⟨g,i,none⟩ (.int .u64 xj)).setCell ⟨g,j,none⟩ (.int .u64 xi)).drew (some g)):=qA sH.out;clear sG sH c3 c4 f3 f4 f5 c5 hi1 hi2;generalize ((w6.setCell ⟨g,i,none⟩ (.int .u64 xj)).setCell ⟨g,j,none⟩ (.int .u64 xi)).drew=w7 at *;generalize swp dm i j=d7 at *;go_wp2
                   go_roundw
                   case rel=>exact⟨i+1,jm,by go_num,rfl,d7,HD7,Eu,zZ,wR⟩
                   case measure=>simp[intOf];omega
                 ·skip
                  have Me:Hid (pI d0 a b j (swp dm j a)):=sF.out.fin HB.out hij;have hij':(j:Int)<(i:Int):=by omega
                  clear sF;go_wp2;have hi1:=fun w'=>qh g N c j w' (by omega)
                  have hi2:=fun w'=>qh g N c a w' (by omega)
                  have hsw:aA w6 g dm t:=uj.out;have c3:=hsw.cell (i:=j) (by rw[oz.out];omega)
                  have c4:=hsw.cell (i:=a) (by rw[oz.out];omega)
                  have f3:=hsw.fz j;have f4:=hsw.fz a;have dK:aA (w6.setCell ⟨g,j,none⟩ (.int .u64 dm[a]!)) g (dm.setIfInBounds j dm[a]!) t:=hsw.set (by rw[oz.out];omega) _
                  have f5:=dK.fz a;have c5:=dK.cell (i:=a) (by rw[Array.size_setIfInBounds,oz.out];omega)
                  have OT:Hid (aA ((w6.setCell ⟨g,j,none⟩ (.int .u64 dm[a]!)).setCell ⟨g,a,none⟩ (.int .u64 dm[j]!)) g (swp dm j a) t):=hsw.swap (by rw[oz.out];omega) (by rw[oz.out];omega)
                  have OU:Hid (w.grownBy ((w6.setCell ⟨g,j,none⟩ (.int .u64 dm[a]!)).setCell ⟨g,a,none⟩ (.int .u64 dm[j]!)) (some g)):=ql (ql rP.out _) _;have Ul:Hid ((swp dm j a).size=N):=by show _=_;rw[Go.Sort.size_swp];exact oz.out
                  clear hsw dK;generalize (dm.setIfInBounds j dm[a]!)[a]! = AA at *;generalize dm[j]! = xi at *;generalize dm[a]! = xj at *
                  go_upto_region 15 with fail
                  go_region
                  all_goals
                   have OV:Hid (aA ((w6.setCell ⟨g,j,none⟩ (.int .u64 xj)).setCell ⟨g,a,none⟩ (.int .u64 xi)).drew g (swp dm j a) t):=aA.drew OT.out;have OW:Hid (w.grownBy ((w6.setCell ⟨g,j,none⟩ (.int .u64 xj)).setCell ⟨g,a,none⟩ (.int .u64 xi)).drew (some g)):=qA OU.out;clear OT OU c3 c4 f3 f4 f5 c5 hi1 hi2;generalize ((w6.setCell ⟨g,j,none⟩ (.int .u64 xj)).setCell ⟨g,a,none⟩ (.int .u64 xi)).drew=w8 at *;generalize swp dm j a=d8 at *;go_wp2;go_ret2
                   exact⟨j,false,d8,rfl,Me.out,OV.out,OW.out⟩
        ·skip
         have Me:Hid (pI d0 a b j (swp d1 j a)):=CU.out.fin HB.out hij;have hij':(j:Int)<(i:Int):=by omega
         clear CU;go_wp2;have hi1:=fun w'=>qh g N c j w' (by omega)
         have hi2:=fun w'=>qh g N c a w' (by omega)
         have hsw:aA w3 g d1 t:=lS.out;have c3:=hsw.cell (i:=j) (by rw[HD1.out];omega)
         have c4:=hsw.cell (i:=a) (by rw[HD1.out];omega)
         have f3:=hsw.fz j;have f4:=hsw.fz a;have dK:aA (w3.setCell ⟨g,j,none⟩ (.int .u64 d1[a]!)) g (d1.setIfInBounds j d1[a]!) t:=hsw.set (by rw[HD1.out];omega) _
         have f5:=dK.fz a;have c5:=dK.cell (i:=a) (by rw[Array.size_setIfInBounds,HD1.out];omega)
         have OX:Hid (aA ((w3.setCell ⟨g,j,none⟩ (.int .u64 d1[a]!)).setCell ⟨g,a,none⟩ (.int .u64 d1[j]!)) g (swp d1 j a) t):=hsw.swap (by rw[HD1.out];omega) (by rw[HD1.out];omega)
         have OY:Hid (w.grownBy ((w3.setCell ⟨g,j,none⟩ (.int .u64 d1[a]!)).setCell ⟨g,a,none⟩ (.int .u64 d1[j]!)) (some g)):=ql (ql nG.out _) _;have HD9:Hid ((swp d1 j a).size=N):=by show _=_;rw[Go.Sort.size_swp];exact HD1.out
         clear hsw dK;generalize (d1.setIfInBounds j d1[a]!)[a]! = AA at *;generalize d1[j]! = xi at *;generalize d1[a]! = xj at *
         go_upto_region 15 with fail
         go_region
         all_goals
          have Ly:Hid (aA ((w3.setCell ⟨g,j,none⟩ (.int .u64 xj)).setCell ⟨g,a,none⟩ (.int .u64 xi)).drew g (swp d1 j a) t):=aA.drew OX.out;have LA:Hid (w.grownBy ((w3.setCell ⟨g,j,none⟩ (.int .u64 xj)).setCell ⟨g,a,none⟩ (.int .u64 xi)).drew (some g)):=qA OY.out;clear OX OY c3 c4 f3 f4 f5 c5 hi1 hi2;generalize ((w3.setCell ⟨g,j,none⟩ (.int .u64 xj)).setCell ⟨g,a,none⟩ (.int .u64 xi)).drew=w9 at *;generalize swp d1 j a=d9 at *;go_wp2;go_ret2
          exact⟨j,true,d9,rfl,Me.out,Ly.out,LA.out⟩
structure PE(d0:Array Int)(a b i j:Nat)(d:Array Int)(p:Int):Prop where
 sz:d.size=d0.size
 perm:PermIn a b d0 d
 piv:d[a]! = p
 ia:a+1<=i
 ij:i<=j+1
 jb:j<b
 lo:∀x,a<=x->x<i->aF p d[x]! = false
 hi:∀x,j<x->x<b->aF p d[x]! = true
theorem PE.up(h:PE d0 a b i j d p)(hij:i<=j)(hl:aF p d[i]! = false):PE d0 a b (i+1) j d p :=
 ⟨h.sz,h.perm,h.piv,by have:=h.ia;omega,by omega,h.jb,fun x h1 h2=>by
  by_cases e:x=i
  ·subst e;exact hl
  ·exact h.lo x h1 (by omega),h.hi⟩
theorem PE.down(h:PE d0 a b i (j+1) d p)(hij:i<=j+1)(hl:aF p d[j+1]! = true):PE d0 a b i j d p :=
 ⟨h.sz,h.perm,h.piv,h.ia,hij,by have:=h.jb;omega,h.lo,fun x h1 h2=>by
  by_cases e:x=j+1
  ·subst e;exact hl
  ·exact h.hi x (by omega) h2⟩
theorem PE.swap(h:PE d0 a b i (j+1) d p)(hb:b<=d0.size)(hij:i<=j+1)(h1:aF p d[i]! = true)(h2:aF p d[j+1]! = false):PE d0 a b (i+1) j (swp d i (j+1)) p:=by
 have hne:i≠j+1:=fun e=>by subst e;rw[h1]at h2;cases h2
 have hia:=h.ia;have hjb:=h.jb;have hsz:=h.sz;refine⟨by rw[Go.Sort.size_swp,hsz],Go.Sort.permIn_trans _ _ _ _ _ h.perm (Go.Sort.swp_permIn d a b i (j+1) (by omega) (by omega) (by omega) hjb (by omega)),?_,by omega,by omega,by omega,fun x k1 k2=>?_,fun x k1 k2=>?_⟩
 ·rw[Go.Sort.swp_other _ _ _ _ (by omega) (by omega)];exact h.piv
 ·by_cases e:x=i
  ·subst e
   rw[Go.Sort.swp_left _ _ _ (by omega) hne];exact h2
  ·rw[Go.Sort.swp_other _ _ _ _ e (by omega)];exact h.lo x k1 (by omega)
 ·by_cases e:x=j+1
  ·subst e
   rw[Go.Sort.swp_right _ _ _ (by omega)];exact h1
  ·rw[Go.Sort.swp_other _ _ _ _ (by omega) e];exact h.hi x (by omega) k2
structure oJ(d0:Array Int)(a b m:Nat)(p:Int)(d:Array Int):Prop where
 sz:d.size=d0.size
 ma:a<m
 mb:m<=b
 perm:PermIn a b d0 d
 lo:∀x,a<=x->x<m->aF p d[x]! = false
 hi:∀x,m<=x->x<b->aF p d[x]! = true
theorem PE.fin(h:PE d0 a b i j d p)(hij:¬i<=j):oJ d0 a b i p d:=by
 have hia:=h.ia;have h0:=h.ij;have hjb:=h.jb;exact⟨h.sz,by omega,by omega,h.perm,h.lo,fun x k1 k2=>h.hi x (by omega) k2⟩
theorem LI(hab:a<b)(hb:b<=d0.size)(hq1:a<=q)(hq2:q<b):PE d0 a b (a+1) (b-1) (swp d0 a q) d0[q]! := by
 have hp:(swp d0 a q)[a]! = d0[q]! := by
  by_cases e:a=q
  ·subst e;rw[Go.Sort.swp_right _ _ _ (by omega)]
  ·rw[Go.Sort.swp_left _ _ _ (by omega) e]
 refine⟨Go.Sort.size_swp _ _ _,Go.Sort.swp_permIn d0 a b a q bZ hab hq1 hq2 hb,hp,bZ,by omega,by omega,fun x h1 h2=>?_,fun x h1 h2=>by omega⟩
 obtain rfl:x=a:=by omega
 rw[hp];exact oI.irrefl _
theorem LL(g c a b q0:Nat)(d0:Array Int)(t:List Int)(w:World)(h:aA w g d0 t)(hab:a<b)(hb:b<=d0.size)(hq1:a<=q0)(hq2:q0<b)(hn:d0.size<=1000000):
  Calls prog 157 #[.slice (some ⟨g,0,none⟩) d0.size c,.int .i64 a,.int .i64 b,.int .i64 q0] w fun e w'=>∃(m:Nat) (d1:Array Int),e=.returned (.int .i64 m)/\oJ d0 a b m d0[q0]! d1/\aA w' g d1 t/\w.grownBy w' (some g):=by
 obtain⟨N,hN⟩:∃N,d0.size=N:=⟨_,rfl⟩
 have ou:=aX h;have HD0:=aX hN;have vS:Hid (w.grownBy w (some g)):=World.grownBy.refl _ _;have Fb:Hid _:=LI hab hb hq1 hq2;obtain⟨J,hJ⟩:∃J,b-1=J:=⟨_,rfl⟩
 rw[hJ]at Fb;have HB:=aX hb;rw[hN]at hb hn ⊢;clear h hN;go_enter func157,ntmps157
 have wi:IntKind.i64.wrap ((a:Int)+1)=((a+1:Nat):Int):=by rw[IntKind.wrap_i64];omega
 have wj:IntKind.i64.wrap ((b:Int)-1)=(J:Int):=by rw[IntKind.wrap_i64];omega
 have ej:(b:Int)-1=(J:Int):=by omega
 clear hJ;obtain⟨p,hp⟩:∃p,p=d0[q0]! := ⟨_,rfl⟩
 rw[<-hp]at Fb ⊢;have HPP:=aX hp;clear hp;go_wp2;have hi1:=fun w'=>qh g N c a w' (by omega)
 have hi2:=fun w'=>qh g N c q0 w' (by omega)
 have hsw:aA w g d0 t:=ou.out;have c3:=hsw.cell (i:=a) (by rw[HD0.out];omega)
 have c4:=hsw.cell (i:=q0) (by rw[HD0.out];omega)
 have f3:=hsw.fz a;have f4:=hsw.fz q0;have dK:aA (w.setCell ⟨g,a,none⟩ (.int .u64 d0[q0]!)) g (d0.setIfInBounds a d0[q0]!) t:=hsw.set (by rw[HD0.out];omega) _
 have f5:=dK.fz q0;have c5:=dK.cell (i:=q0) (by rw[Array.size_setIfInBounds,HD0.out];omega)
 have CQ:Hid (aA ((w.setCell ⟨g,a,none⟩ (.int .u64 d0[q0]!)).setCell ⟨g,q0,none⟩ (.int .u64 d0[a]!)) g (swp d0 a q0) t):=hsw.swap (by rw[HD0.out];omega) (by rw[HD0.out];omega)
 have CS:Hid (w.grownBy ((w.setCell ⟨g,a,none⟩ (.int .u64 d0[q0]!)).setCell ⟨g,q0,none⟩ (.int .u64 d0[a]!)) (some g)):=ql (ql vS.out _) _;have HD1:Hid ((swp d0 a q0).size=N):=by show _=_;rw[Go.Sort.size_swp];exact HD0.out
 clear hsw dK;generalize (d0.setIfInBounds a d0[q0]!)[q0]! = AA at *;generalize d0[a]! = xi at *;generalize d0[q0]! = xj at *
 go_upto_region 15 with fail
 go_region
 all_goals
  have uo:Hid (aA ((w.setCell ⟨g,a,none⟩ (.int .u64 xj)).setCell ⟨g,q0,none⟩ (.int .u64 xi)).drew g (swp d0 a q0) t):=aA.drew CQ.out;have uq:Hid (w.grownBy ((w.setCell ⟨g,a,none⟩ (.int .u64 xj)).setCell ⟨g,q0,none⟩ (.int .u64 xi)).drew (some g)):=qA CS.out;clear CQ CS c3 c4 f3 f4 f5 c5 hi1 hi2;generalize ((w.setCell ⟨g,a,none⟩ (.int .u64 xj)).setCell ⟨g,q0,none⟩ (.int .u64 xi)).drew=w1 at *;generalize swp d0 a q0=d1 at *;go_wp2;clear wi wj ej
  go_loopw [9,10] (fun iv jv wr=>∃i j:Nat,iv=.int .i64 i/\jv=.int .i64 j/\∃dm:Array Int,Hid (dm.size=N)/\Hid (PE d0 a b i j dm p)/\Hid (aA wr g dm t)/\Hid (w.grownBy wr (some g))) (fun iv jv _=>(intOf jv+1-intOf iv).toNat)
  case atStart=>exact⟨a+1,J,by go_num,rfl,d1,HD1,Fb,uo,uq⟩
  case round=>
   obtain⟨i0,j0,rfl,rfl,dm,oz,CW,OM,OO⟩:=hrel;clear HD1 Fb uo uq;have a1:=CW.out.ia;have a2:=CW.out.ij;have a3:=CW.out.jb;go_wp2
   go_loopw [9] (fun sv wr=>∃i:Nat,sv=.int .i64 i/\Hid (PE d0 a b i j0 dm p)/\Hid (aA wr g dm t)/\Hid (w.grownBy wr (some g))/\Hid (i0<=i)) (fun sv _=>N+1-(intOf sv).toNat)
   case atStart=>exact⟨i0,by first|rfl|go_num,CW,OM,OO,bZ⟩
   case round=>
    obtain⟨i,rfl,xP,vT,zh,Jj⟩:=hrel;have bL:=Jj.out;clear CW OM OO;have b1:=xP.out.ia;have b2:=xP.out.ij;have b3:=xP.out.jb;obtain⟨q,hq⟩:∃q:Bool,q=(decide (i<=j0) && !aF dm[a]! dm[i]!):=⟨_,rfl⟩
    have HQ:=aX hq;clear hq
    go_upto_region 15 with fail
    go_cut [43] (fun cv wx=>cv=.bool q/\Hid (aA wx g dm t)/\Hid (w.grownBy wx (some g)))
    case first=>
     by_cases hij:i<=j0
     ·have hd:decide ((i:Int)<=(j0:Int))=true:=decide_eq_true (by omega)
      have hi1:=fun w'=>qh g N c i w' (by omega)
      have hi2:=fun w'=>qh g N c a w' (by omega)
      have hsw:aA wr g dm t:=vT.out;have c3:=hsw.cell (i:=i) (by rw[oz.out];omega)
      have c4:=hsw.cell (i:=a) (by rw[oz.out];omega)
      have hless:=fun w'=>qp dm[a]! dm[i]! w'
      have mG:Hid (q=!(aF dm[a]! dm[i]!)):=by
       show _=_
       rw[HQ.out,decide_eq_true hij];rfl
      clear hsw HQ;generalize aF dm[a]! dm[i]! = lv at *;generalize dm[i]! = xv at *;generalize dm[a]! = xa at *;obtain rfl:=mG.out
      go_quiet ((go_at_call 156;exact Calls.quiet_of_same (hless _)))
      go_wp2
      go_meet
      case rel=>exact⟨rfl,aA.drewN vT.out _,qk zh.out _⟩
     ·have hd:decide ((i:Int)<=(j0:Int))=false:=decide_eq_false (by omega)
      have mG:Hid (q=false):=by
       show _=_
       rw[HQ.out,decide_eq_false hij];rfl
      clear HQ;obtain rfl:=mG.out
      go_quiet (fail)
      go_wp2
      go_meet
      case rel=>exact⟨rfl,aA.drewN vT.out _,qk zh.out _⟩
    case rest=>
     obtain⟨rfl,nH,nI⟩:=hcut;clear vT zh
     cases q with
     |true=>
      have hq:=HQ.out.symm;rw[Bool.and_eq_true,decide_eq_true_eq]at hq;have AB:Hid (PE d0 a b (i+1) j0 dm p):=xP.out.up hq.1 (by have h2:=hq.2;have h3:=xP.out.piv;rw[<-h3];simpa using h2)
      clear HQ xP;go_wp2
      go_roundw
      case rel=>exact⟨i+1,by go_num,AB,nH,nI,by show _<=_;omega⟩
      case measure=>simp[intOf];omega
     |false=>
      have AL:Hid (i<=j0->aF dm[a]! dm[i]! = true):=fun h=>by
       have:=HQ.out
       rw[decide_eq_true h]at this;simpa using this.symm
      clear HQ;generalize wc=w5 at *;go_wp2
      go_loopw [10] (fun sv wr=>∃j:Nat,sv=.int .i64 j/\Hid (PE d0 a b i j dm p)/\Hid (aA wr g dm t)/\Hid (w.grownBy wr (some g))/\Hid (j<=j0)) (fun sv _=>(intOf sv).toNat)
      case atStart=>exact⟨j0,by first|rfl|go_num,xP,nH,nI,bZ⟩
      case round=>
       obtain⟨j,rfl,sF,vU,zi,Fh⟩:=hrel;have bL:=Fh.out;clear xP nH nI;have b1:=sF.out.ia;have b2:=sF.out.ij;have b3:=sF.out.jb;obtain⟨q,hq⟩:∃q:Bool,q=(decide (i<=j)&&aF dm[a]! dm[j]!):=⟨_,rfl⟩
       have HQ:=aX hq;clear hq
       go_upto_region 15 with fail
       go_cut [59] (fun cv wx=>cv=.bool q/\Hid (aA wx g dm t)/\Hid (w.grownBy wx (some g)))
       case first=>
        by_cases hij:i<=j
        ·have hd:decide ((i:Int)<=(j:Int))=true:=decide_eq_true (by omega)
         have hi1:=fun w'=>qh g N c j w' (by omega)
         have hi2:=fun w'=>qh g N c a w' (by omega)
         have hsw:aA wr g dm t:=vU.out;have c3:=hsw.cell (i:=j) (by rw[oz.out];omega)
         have c4:=hsw.cell (i:=a) (by rw[oz.out];omega)
         have hless:=fun w'=>qp dm[a]! dm[j]! w'
         have mG:Hid (q=(aF dm[a]! dm[j]!)):=by
          show _=_
          rw[HQ.out,decide_eq_true hij];rfl
         clear hsw HQ;generalize aF dm[a]! dm[j]! = lv at *;generalize dm[j]! = xv at *;generalize dm[a]! = xa at *;obtain rfl:=mG.out
         go_quiet ((go_at_call 156;exact Calls.quiet_of_same (hless _)))
         go_wp2
         go_meet
         case rel=>exact⟨rfl,aA.drewN vU.out _,qk zi.out _⟩
        ·have hd:decide ((i:Int)<=(j:Int))=false:=decide_eq_false (by omega)
         have mG:Hid (q=false):=by
          show _=_
          rw[HQ.out,decide_eq_false hij];rfl
         clear HQ;obtain rfl:=mG.out
         go_quiet (fail)
         go_wp2
         go_meet
         case rel=>exact⟨rfl,aA.drewN vU.out _,qk zi.out _⟩
       case rest=>
        obtain⟨rfl,uj,rP⟩:=hcut;clear vU zi
        cases q with
        |true=>
         have hq:=HQ.out.symm;rw[Bool.and_eq_true,decide_eq_true_eq]at hq;obtain⟨jm,hjm⟩:∃jm,j=jm+1:=⟨j-1,by omega⟩
         have hdec:IntKind.i64.wrap ((j:Int)-1)=(jm:Int):=by rw[IntKind.wrap_i64];omega
         have AB:Hid (PE d0 a b i jm dm p):=by
          subst hjm;exact sF.out.down hq.1 (by have h2:=hq.2;have h3:=sF.out.piv;rw[<-h3];simpa using h2)
         have hlt:jm<j:=by omega
         clear HQ sF hjm hq;go_wp2
         go_roundw
         case rel=>exact⟨jm,rfl,AB,uj,rP,by show _<=_;omega⟩
         case measure=>simp[intOf];omega
        |false=>
         have OQ:Hid (i<=j->aF dm[a]! dm[j]! = false):=fun h=>by
          have:=HQ.out
          rw[decide_eq_true h]at this;simpa using this.symm
         clear HQ;generalize wc=w6 at *;by_cases hij:i<=j
         ·have hij2:¬(j:Int)<(i:Int):=by omega
          obtain⟨jm,hjm⟩:∃jm,j=jm+1:=⟨j-1,by omega⟩
          have hdec:IntKind.i64.wrap ((j:Int)-1)=(jm:Int):=by rw[IntKind.wrap_i64];omega
          have CV:(j:Int)-1=(jm:Int):=by omega
          have Eu:Hid (PE d0 a b (i+1) jm (swp dm i j) p):=by
           have h1:=AL.out (by omega)
           have h2:=OQ.out hij;rw[sF.out.piv]at h1 h2;subst hjm;exact sF.out.swap HB.out hij h1 h2
          have hi0:i0<=i:=Jj.out;have hjj:jm<j0:=by omega
          clear AL OQ sF hjm;go_wp2;have hi1:=fun w'=>qh g N c i w' (by omega)
          have hi2:=fun w'=>qh g N c j w' (by omega)
          have hsw:aA w6 g dm t:=uj.out;have c3:=hsw.cell (i:=i) (by rw[oz.out];omega)
          have c4:=hsw.cell (i:=j) (by rw[oz.out];omega)
          have f3:=hsw.fz i;have f4:=hsw.fz j;have dK:aA (w6.setCell ⟨g,i,none⟩ (.int .u64 dm[j]!)) g (dm.setIfInBounds i dm[j]!) t:=hsw.set (by rw[oz.out];omega) _
          have f5:=dK.fz j;have c5:=dK.cell (i:=j) (by rw[Array.size_setIfInBounds,oz.out];omega)
          have sG:Hid (aA ((w6.setCell ⟨g,i,none⟩ (.int .u64 dm[j]!)).setCell ⟨g,j,none⟩ (.int .u64 dm[i]!)) g (swp dm i j) t):=hsw.swap (by rw[oz.out];omega) (by rw[oz.out];omega)
          have sH:Hid (w.grownBy ((w6.setCell ⟨g,i,none⟩ (.int .u64 dm[j]!)).setCell ⟨g,j,none⟩ (.int .u64 dm[i]!)) (some g)):=ql (ql rP.out _) _;have HD7:Hid ((swp dm i j).size=N):=by show _=_;rw[Go.Sort.size_swp];exact oz.out
          clear hsw dK;generalize (dm.setIfInBounds i dm[j]!)[j]! = AA at *;generalize dm[i]! = xi at *;generalize dm[j]! = xj at *
          go_upto_region 15 with fail
          go_region
          all_goals
           have zZ:Hid (aA ((w6.setCell ⟨g,i,none⟩ (.int .u64 xj)).setCell ⟨g,j,none⟩ (.int .u64 xi)).drew g (swp dm i j) t):=aA.drew sG.out;have wR:Hid (w.grownBy ((w6.setCell ⟨g,i,none⟩ (.int .u64 xj)).setCell ⟨g,j,none⟩ (.int .u64 xi)).drew (some g)):=qA sH.out;clear sG sH c3 c4 f3 f4 f5 c5 hi1 hi2;generalize ((w6.setCell ⟨g,i,none⟩ (.int .u64 xj)).setCell ⟨g,j,none⟩ (.int .u64 xi)).drew=w7 at *;generalize swp dm i j=d7 at *;go_wp2
           go_roundw
           case rel=>exact⟨i+1,jm,by go_num,rfl,d7,HD7,Eu,zZ,wR⟩
           case measure=>simp[intOf];omega
         ·have Me:Hid (oJ d0 a b i p dm):=sF.out.fin hij
          have hij':(j:Int)<(i:Int):=by omega
          clear sF;go_wp2;go_ret
          exact⟨i,dm,rfl,Me.out,uj.out,rP.out⟩
end Go.Proofs.YtoioiellaomonaaGreatDoor
