import Derived.Deep.DeepCutAuto
import Derived.Lib.AppendZerosOnto
import Derived.OwnWalk
import Derived.Deep.QuietTactic
import Derived.BigQuiet
import Derived.Test.YtoioiellaomonaaGreatDoorZ00
import Derived.Test.YtoioiellaomonaaGreatDoorZ03
import Derived.Test.YtoioiellaomonaaGreatDoorZ04
import Derived.Test.YtoioiellaomonaaGreatDoorZ05
set_option maxRecDepth 100000
set_option maxHeartbeats 16000000
namespace Go.Proofs.YtoioiellaomonaaGreatDoor
open Go.RowKit Go.Maps Proofs.Tryz
open Go.Sort (swp PermIn SortedIn)
variable {w w':World}{g sb b i j:Nat}{d:Array Int}{t:List Int}
def CB(w:World)(sb s:Nat):Prop:=w.heap[sb]? =some (.cells #[.int .i64 s] 3 (0,0))
theorem CB.ne{s:Nat}(h:CB w sb s)(k:aA w g d t):g≠sb:=fun e=>by
 unfold CB at h;unfold aA at k;rw[<-e,k]at h;injection h with h;injection h with _ h _;exact absurd h (by decide)
theorem aA.grown(h:aA w g d t)(hg:w.grownBy w' (some sb))(hne:g≠sb):aA w' g d t:=(hg.block g h.lt (fun e=>hne (by injection e))).trans h
theorem Xa(g c x y sb s:Nat)(d:Array Int)(t:List Int)(w:World)(h:aA w g d t)(hc:CB w sb s)(hx:x<d.size)(hy:y<d.size)(hs:s<=1000):
  Calls prog 167 #[.slice (some ⟨g,0,none⟩) d.size c,.int .i64 x,.int .i64 y,.pointer (some ⟨sb,0,none⟩)] w fun e w'=>
   ∃x' y' s':Nat,e=.returned (.tuple #[.int .i64 x',.int .i64 y'])/\(x'=x/\y'=y\/x'=y/\y'=x)/\s'<=s+1/\CB w' sb s'/\w.grownBy w' (some sb):=by
 have hi1:=fun w'=>qh g d.size c x w' hx
 have hi2:=fun w'=>qh g d.size c y w' hy
 have c1:=h.cell hx;have c2:=h.cell hy;have hless:=fun w'=>qp d[y]! d[x]! w'
 have HC:=aX hc;clear h hc;generalize d.size=N at *;generalize d[x]! = vx at *;generalize d[y]! = vy at *
 cases hl:aF vy vx with
 |false=>
  rw[hl]at hless;clear hl;go_enter func167,ntmps167
  go_upto_region 15 with fail
  go_quiet ((go_at_call 156;exact Calls.quiet_of_same (hless _)))
  go_wp2;go_ret2
  exact⟨x,y,s,rfl,Or.inl ⟨rfl,rfl⟩,by omega,(below_drewN (Below.refl w.heap.size w) _).block sb (lC HC.out).1 |>.trans HC.out,qk (World.grownBy.refl _ _) _⟩
 |true=>
  rw[hl]at hless;clear hl;go_enter func167,ntmps167
  go_upto_region 15 with fail
  go_quiet ((go_at_call 156;exact Calls.quiet_of_same (hless _)))
  have hcb:CB (w.drewN nq) sb s:=(below_drewN (Below.refl w.heap.size w) _).block sb (lC HC.out).1 |>.trans HC.out
  have q0:(w.drewN nq).cell? ⟨sb,0,none⟩=some (.int .i64 s):=qc hcb 0;have z0:(w.drewN nq).frozen? ⟨sb,0,none⟩=false:=frozen_of_row _ sb 0 _ _ hcb;have wS:IntKind.i64.wrap ((s:Int)+1)=((s+1:Nat):Int):=by rw[IntKind.wrap_i64];omega
  have HC2:Hid (CB ((w.drewN nq).setCell ⟨sb,0,none⟩ (.int .i64 (s+1:Nat))) sb (s+1)):=by
   show CB _ _ _
   unfold CB;rw[heap_setCell_same _ sb 0 _ _ _ hcb];rfl
  have HG2:Hid (w.grownBy ((w.drewN nq).setCell ⟨sb,0,none⟩ (.int .i64 (s+1:Nat))) (some sb)):=ql (qk (World.grownBy.refl _ _) _) _;obtain⟨S1,hS1⟩:∃S1,s+1=S1:=⟨_,rfl⟩
  rw[hS1]at wS HC2 HG2;have uo:=aX hS1;clear hcb c1 c2 hS1;have eS:(s:Int)+1=(S1:Int):=by have:=uo.out;omega
  go_wp2;go_ret2
  exact⟨y,x,S1,rfl,Or.inr ⟨rfl,rfl⟩,by have:=uo.out;omega,HC2.out,HG2.out⟩
theorem Xb(g c x y z sb s:Nat)(d:Array Int)(t:List Int)(w:World)(h:aA w g d t)(hc:CB w sb s)(hx:x<d.size)(hy:y<d.size)(hz:z<d.size)(hs:s<=100):
  Calls prog 165 #[.slice (some ⟨g,0,none⟩) d.size c,.int .i64 x,.int .i64 y,.int .i64 z,.pointer (some ⟨sb,0,none⟩)] w fun e w'=>
   ∃m s':Nat,e=.returned (.int .i64 m)/\(m=x\/m=y\/m=z)/\s'<=s+3/\CB w' sb s'/\w.grownBy w' (some sb):=by
 have hne:=hc.ne h;have j1:=Xa g c x y sb s d t w h hc hx hy (by omega)
 have HS:Hid _:=h;go_enter func165,ntmps165
 go_wp2_with fail
 refine j1.mono ?_
 rintro e w1 ⟨x1,y1,s1,rfl,hp1,hs1,hc1,hg1⟩
 have j2:=Xa g c y1 z sb s1 d t w1 (aA.grown HS.out hg1 hne) hc1 (by omega) hz (by omega)
 clear j1
 go_wp2_with fail
 refine j2.mono ?_
 rintro e w2 ⟨y2,z2,s2,rfl,hp2,hs2,hc2,hg2⟩
 have Jl:=qI hg1 hg2;have j3:=Xa g c x1 y2 sb s2 d t w2 (aA.grown HS.out Jl hne) hc2 (by omega) (by omega) (by omega)
 clear j2
 go_wp2_with fail
 refine j3.mono ?_
 rintro e w3 ⟨x3,y3,s3,rfl,hp3,hs3,hc3,hg3⟩
 have HF:Hid (CB w3 sb s3/\w.grownBy w3 (some sb)/\(y3=x\/y3=y\/y3=z)/\s3<=s+3):=⟨hc3,qI Jl hg3,by omega,by omega⟩
 clear j3 hc1 hc2 hc3 hg1 hg2 hg3 Jl hp1 hp2 hp3 hs1 hs2 hs3;go_wp2;go_ret
 exact⟨y3,s3,rfl,HF.out.2.2.1,HF.out.2.2.2,HF.out.1,HF.out.2.1⟩
theorem Xc(g c x sb s:Nat)(d:Array Int)(t:List Int)(w:World)(h:aA w g d t)(hc:CB w sb s)(h1:1<=x)(hx:x+1<d.size)(hs:s<=100)(hn:d.size<=1000000):
  Calls prog 164 #[.slice (some ⟨g,0,none⟩) d.size c,.int .i64 x,.pointer (some ⟨sb,0,none⟩)] w fun e w'=>
   ∃m s':Nat,e=.returned (.int .i64 m)/\x-1<=m/\m<=x+1/\s'<=s+3/\CB w' sb s'/\w.grownBy w' (some sb):=by
 obtain⟨x0,hx0⟩:∃x0,x0=x-1:=⟨_,rfl⟩
 obtain⟨x1,hx1⟩:∃x1,x1=x+1:=⟨_,rfl⟩
 have j1:=Xb g c x0 x x1 sb s d t w h hc (by omega) (by omega) (by omega) hs
 have w0:IntKind.i64.wrap ((x:Int)-1)=(x0:Int):=by rw[IntKind.wrap_i64];omega
 have e0:(x:Int)-1=(x0:Int):=by omega
 have w1:IntKind.i64.wrap ((x:Int)+1)=(x1:Int):=by rw[IntKind.wrap_i64];omega
 have e1:(x:Int)+1=(x1:Int):=by omega
 have HX:Hid (x0=x-1/\x1=x+1):=⟨hx0,hx1⟩;clear h hc hx0 hx1;go_enter func164,ntmps164
 go_wp2_with fail
 refine j1.mono ?_
 rintro e w2 ⟨m,s',rfl,hm,hs',hc',hg'⟩
 have HF:Hid (CB w2 sb s'/\w.grownBy w2 (some sb)/\x-1<=m/\m<=x+1):=⟨hc',hg',by have:=HX.out;omega,by have:=HX.out;omega⟩
 clear j1 hc' hg' hm;go_wp2;go_ret
 exact⟨m,s',rfl,HF.out.2.2.1,HF.out.2.2.2,hs',HF.out.1,HF.out.2.1⟩
theorem jz{o:Obj}(h:(w.alloc o).grownBy w' (some w.heap.size)):w.grownBy w' none:=by
 have hb:=qd w o;exact⟨h.os.trans hb.os,h.tape.trans hb.tape,h.output.trans hb.output,Nat.le_trans hb.size h.size,fun j hj _=>(h.block j (Nat.lt_of_lt_of_le hj hb.size) (fun e=>by injection e with e;omega)).trans (hb.block j hj)⟩
theorem aA.Jm(h:aA w g d t)(hg:w.grownBy w' none):aA w' g d t:=(hg.block g h.lt (fun e=>by cases e)).trans h
theorem NL(g c a b:Nat)(d:Array Int)(t:List Int)(w:World)(h:aA w g d t)(hab:a+12<b)(hb:b<=d.size)(hn:d.size<=1000000):
  Calls prog 153 #[.slice (some ⟨g,0,none⟩) d.size c,.int .i64 a,.int .i64 b] w fun e w'=>
   ∃m k:Nat,e=.returned (.tuple #[.int .i64 m,.int .i64 k])/\a<=m/\m<b/\k<=2/\aA w' g d t/\w.grownBy w' none:=by
 obtain⟨L,hL⟩:∃L,L=b-a:=⟨_,rfl⟩
 obtain⟨T,hT⟩:∃T,T=L / 4:=⟨_,rfl⟩
 obtain⟨T2,hT2⟩:∃T2,T2=T*2:=⟨_,rfl⟩
 obtain⟨T3,N2⟩:∃T3,T3=T*3:=⟨_,rfl⟩
 obtain⟨I,hI⟩:∃I,I=a+T:=⟨_,rfl⟩
 obtain⟨J,hJ⟩:∃J,J=a+T2:=⟨_,rfl⟩
 obtain⟨K,hK⟩:∃K,K=a+T3:=⟨_,rfl⟩
 have wL:IntKind.i64.wrap ((b:Int)-(a:Int))=(L:Int):=by rw[IntKind.wrap_i64];omega
 have eL:(b:Int)-(a:Int)=(L:Int):=by omega
 have tT:((L:Int)).tdiv 4=(T:Int):=by rw[Int.tdiv_eq_ediv_of_nonneg (by omega)];omega
 have N3:IntKind.i64.wrap ((T:Int)*2)=(T2:Int):=by rw[IntKind.wrap_i64];omega
 have N4:(T:Int)*2=(T2:Int):=by omega
 have wT3:IntKind.i64.wrap ((T:Int)*3)=(T3:Int):=by rw[IntKind.wrap_i64];omega
 have eT3:(T:Int)*3=(T3:Int):=by omega
 have wI:IntKind.i64.wrap ((a:Int)+(T:Int))=(I:Int):=by rw[IntKind.wrap_i64];omega
 have eI:(a:Int)+(T:Int)=(I:Int):=by omega
 have wJ:IntKind.i64.wrap ((a:Int)+(T2:Int))=(J:Int):=by rw[IntKind.wrap_i64];omega
 have eJ:(a:Int)+(T2:Int)=(J:Int):=by omega
 have wK:IntKind.i64.wrap ((a:Int)+(T3:Int))=(K:Int):=by rw[IntKind.wrap_i64];omega
 have eK:(a:Int)+(T3:Int)=(K:Int):=by omega
 have h8:((8:Int)<=(L:Int)):=by omega
 have N5:Hid (a<=I/\a<=J/\a<=K/\K+1<b/\J+1<b/\I+1<b/\(50<=L->a+1<=I/\a+1<=J/\a+1<=K)):=by
  refine⟨by omega,by omega,by omega,by omega,by omega,by omega,fun _=>⟨by omega,by omega,by omega⟩⟩
 have hb1:=qd w (.cells #[.int .i64 0] 3);have hs1:aA (w.alloc (.cells #[.int .i64 0] 3)) g d t:=(hb1.block g h.lt).trans h;have hc1:CB (w.alloc (.cells #[.int .i64 0] 3)) w.heap.size 0:=(dO w _).1;have hne:=hc1.ne hs1;have ou:Hid _:=h;have HF:Hid (∀(w':World)(m k:Nat),(w.alloc (.cells #[.int .i64 0] 3)).grownBy w' (some w.heap.size)->a<=m->m<b->k<=2->∃m' k':Nat,Ending.returned (.tuple #[.int .i64 m,.int .i64 k])=.returned (.tuple #[.int .i64 m',.int .i64 k'])/\a<=m'/\m'<b/\k'<=2/\aA w' g d t/\w.grownBy w' none):=fun w' m k hg h1 h2 h3=>⟨m,k,rfl,h1,h2,h3,h.Jm (jz hg),jz hg⟩
 clear hL hT hT2 N2 hI hJ hK;have N6:=N5.out;by_cases h50:50<=L
 ·have Jo:((50:Int)<=(L:Int)):=by omega
  have j1:=Xc g c I w.heap.size 0 d t _ hs1 hc1 (by omega) (by omega) (by omega) hn
  have uo:=aX hs1;clear hs1 hc1 hb1 h;go_enter func153,ntmps153
  go_wp2_with fail
  generalize w.alloc (.cells #[.int .i64 0] 3)=w1 at *;refine j1.mono ?_
  rintro e w2 ⟨m2,s2,rfl,p2,q2,hs2,hc2,hg2⟩
  have j2:=Xc g c J w.heap.size s2 d t w2 (aA.grown uo.out hg2 hne) hc2 (by omega) (by omega) (by omega) hn
  clear j1
  go_wp2_with fail
  refine j2.mono ?_
  rintro e w3 ⟨m3,s3,rfl,p3,q3,hs3,hc3,hg3⟩
  have Jp:=qI hg2 hg3;have j3:=Xc g c K w.heap.size s3 d t w3 (aA.grown uo.out Jp hne) hc3 (by omega) (by omega) (by omega) hn
  clear j2
  go_wp2_with fail
  refine j3.mono ?_
  rintro e w4 ⟨m4,s4,rfl,p4,q4,hs4,hc4,hg4⟩
  have Jq:=qI Jp hg4;have j4:=Xb g c m2 m3 m4 w.heap.size s4 d t w4 (aA.grown uo.out Jq hne) hc4 (by omega) (by omega) (by omega) (by omega)
  clear j3
  go_wp2_with fail
  refine j4.mono ?_
  rintro e w5 ⟨m5,s5,rfl,p5,hs5,hc5,hg5⟩
  have HZ:Hid (CB w5 w.heap.size s5/\w1.grownBy w5 (some w.heap.size)/\a<=m5/\m5<b):=⟨hc5,qI Jq hg5,by omega,by omega⟩
  clear j4 hc2 hc3 hc4 hc5 hg2 hg3 hg4 hg5 Jp Jq p2 p3 p4 p5 q2 q3 q4;have q0:w5.cell? ⟨w.heap.size,0,none⟩=some (.int .i64 s5):=qc HZ.out.1 0;by_cases z0:s5=0
  ·obtain rfl:=z0
   go_wp2;go_ret2
   exact HF.out w5 m5 1 HZ.out.2.1 HZ.out.2.2.1 HZ.out.2.2.2 (by omega)
  ·have z0':((s5:Int)==0)=false:=by rw[lu];omega
   by_cases z1:s5=12
   ·obtain rfl:=z1
    go_wp2;go_ret2
    exact HF.out w5 m5 2 HZ.out.2.1 HZ.out.2.2.1 HZ.out.2.2.2 (by omega)
   ·have z1':((s5:Int)==12)=false:=by rw[lu];omega
    go_wp2;go_ret2
    exact HF.out w5 m5 0 HZ.out.2.1 HZ.out.2.2.1 HZ.out.2.2.2 (by omega)
 ·have Jo:¬((50:Int)<=(L:Int)):=by omega
  have j4:=Xb g c I J K w.heap.size 0 d t _ hs1 hc1 (by omega) (by omega) (by omega) (by omega)
  clear hs1 hc1 hb1 h;go_enter func153,ntmps153
  go_wp2_with fail
  generalize w.alloc (.cells #[.int .i64 0] 3)=w1 at *;refine j4.mono ?_
  rintro e w5 ⟨m5,s5,rfl,p5,hs5,hc5,hg5⟩
  have HZ:Hid (CB w5 w.heap.size s5/\w1.grownBy w5 (some w.heap.size)/\a<=m5/\m5<b):=⟨hc5,hg5,by omega,by omega⟩
  clear j4 hc5 hg5 p5;have q0:w5.cell? ⟨w.heap.size,0,none⟩=some (.int .i64 s5):=qc HZ.out.1 0;by_cases z0:s5=0
  ·obtain rfl:=z0
   go_wp2;go_ret2
   exact HF.out w5 m5 1 HZ.out.2.1 HZ.out.2.2.1 HZ.out.2.2.2 (by omega)
  ·have z0':((s5:Int)==0)=false:=by rw[lu];omega
   by_cases z1:s5=12
   ·obtain rfl:=z1
    go_wp2;go_ret2
    exact HF.out w5 m5 2 HZ.out.2.1 HZ.out.2.2.1 HZ.out.2.2.2 (by omega)
   ·have z1':((s5:Int)==12)=false:=by rw[lu];omega
    go_wp2;go_ret2
    exact HF.out w5 m5 0 HZ.out.2.1 HZ.out.2.2.1 HZ.out.2.2.2 (by omega)
def OZ(a i:Nat)(d:Array Int):Array Int:=if i-a ≥ 2 then Go.Sort.shiftDown aF (i-1) d else d
def zk(b i:Nat)(d:Array Int):Array Int:=if b-i ≥ 2 then Go.Sort.shiftUp aF b (i+1) d else d
theorem ON(a b s i:Nat)(d:Array Int):Go.Sort.partialIns aF a b (s+1) i d=if Go.Sort.scanSorted aF d b i=b then (d,true) else if b-a<50 then (d,false) else Go.Sort.partialIns aF a b s (Go.Sort.scanSorted aF d b i) (zk b (Go.Sort.scanSorted aF d b i) (OZ a (Go.Sort.scanSorted aF d b i) (swp d (Go.Sort.scanSorted aF d b i) (Go.Sort.scanSorted aF d b i-1)))):=rfl
theorem OP(h:i<b)(hl:aF d[i]! d[i-1]! = false):Go.Sort.scanSorted aF d b i=Go.Sort.scanSorted aF d b (i+1):=by
 conv=>lhs;unfold Go.Sort.scanSorted
 rw[if_pos];simp[h,hl]
theorem OS(h:i<b->aF d[i]! d[i-1]! = true):Go.Sort.scanSorted aF d b i=i:=by
 unfold Go.Sort.scanSorted;rw[if_neg];intro hc;rw[Bool.and_eq_true,decide_eq_true_eq]at hc;rw[h hc.1]at hc;simp at hc
theorem O1(h:aF d[j+1]! d[j]! = false):Go.Sort.shiftDown aF (j+1) d=d:=by
 unfold Go.Sort.shiftDown;rw[h];rfl
theorem Pe(h:aF d[j+1]! d[j]! = true):Go.Sort.shiftDown aF (j+1) d=Go.Sort.shiftDown aF j (swp d (j+1) j):=by
 conv=>lhs;unfold Go.Sort.shiftDown
 rw[h];rfl
theorem Xd(h:¬j<b):Go.Sort.shiftUp aF b j d=d:=by
 unfold Go.Sort.shiftUp;rw[if_neg h]
theorem CX(hj:j<b)(h:aF d[j]! d[j-1]! = false):Go.Sort.shiftUp aF b j d=d:=by
 unfold Go.Sort.shiftUp;rw[if_pos hj,h];rfl
theorem Xe(hj:j<b)(h:aF d[j]! d[j-1]! = true):Go.Sort.shiftUp aF b j d=Go.Sort.shiftUp aF b (j+1) (swp d j (j-1)):=by
 conv=>lhs;unfold Go.Sort.shiftUp
 rw[if_pos hj,h];rfl
theorem Pl(g c a b:Nat)(d:Array Int)(t:List Int)(w:World)(h:aA w g d t)(hab:a<b)(hb:b<=d.size)(hn:d.size<=1000000):
  Calls prog 155 #[.slice (some ⟨g,0,none⟩) d.size c,.int .i64 a,.int .i64 b] w fun e w'=>e=.returned (.bool (Go.Sort.partialInsertionSort aF d a b).2)/\aA w' g (Go.Sort.partialInsertionSort aF d a b).1 t/\w.grownBy w' (some g):=by
 obtain⟨N,hN⟩:∃N,d.size=N:=⟨_,rfl⟩
 obtain⟨R,hR⟩:∃R,Go.Sort.partialInsertionSort aF d a b=R:=⟨_,rfl⟩
 have HI0:=aX hR;have ou:=aX h;have HD0:=aX hN;have vS:Hid (w.grownBy w (some g)):=World.grownBy.refl _ _;rw[hN]at hb hn ⊢;rw[hR];obtain⟨R1,R2⟩:=R;dsimp only
 clear h hN hR;go_enter func155,ntmps155
 go_wp2
 go_loopw [7,8] (fun iv kv wr=>∃i k:Nat,a+1<=i/\i<=b/\k<=5/\iv=.int .i64 i/\kv=.int .i64 k/\∃dk:Array Int,Hid (dk.size=N)/\Hid (aA wr g dk t)/\Hid (Go.Sort.partialIns aF a b (5-k) i dk=(R1,R2))/\Hid (w.grownBy wr (some g))) (fun _ kv _=>5-(intOf kv).toNat)
 case atStart=>exact⟨a+1,0,bZ,by omega,by omega,by go_num,rfl,d,HD0,ou,HI0,vS⟩
 case round=>
  obtain⟨i0,k,hi1,hi2,hk,rfl,rfl,dk,HD,HS,HI,HG⟩:=hrel;clear HD0 ou HI0 vS;by_cases hk5:k<5
  ·have Xf:(k:Int)<5:=by omega
   obtain⟨I,hI⟩:∃I,Go.Sort.scanSorted aF dk b i0=I:=⟨_,rfl⟩
   have HST:Hid ((if I=b then (dk,true) else if b-a<50 then (dk,false) else Go.Sort.partialIns aF a b (5-(k+1)) I (zk b I (OZ a I (swp dk I (I-1)))))=(R1,R2)):=by
    have h0:=HI.out;rw[show 5-k=(5-(k+1))+1 by omega,ON,hI]at h0
    exact h0
   have jN:=aX hI;clear hI HI;go_wp2
   go_loopw [7] (fun sv wr=>∃i:Nat,i0<=i/\i<=b/\sv=.int .i64 i/\Hid (Go.Sort.scanSorted aF dk b i=I)/\Hid (aA wr g dk t)/\Hid (w.grownBy wr (some g))) (fun sv _=>N+1-(intOf sv).toNat)
   case atStart=>exact⟨i0,bZ,hi2,rfl,jN,HS,HG⟩
   case round=>
    obtain⟨i,ha1,ha2,rfl,Fp,Un,Xg⟩:=hrel;clear jN HS HG;obtain⟨im,him⟩:∃im,im=i-1:=⟨_,rfl⟩
    have wim:IntKind.i64.wrap ((i:Int)-1)=(im:Int):=by rw[IntKind.wrap_i64];omega
    have eim:(i:Int)-1=(im:Int):=by omega
    have Uo:=aX him;have hxm:im<i:=by omega
    clear him;obtain⟨q,hq⟩:∃q:Bool,q=(decide (i<b) && !aF dk[i]! dk[im]!):=⟨_,rfl⟩
    have HQ:=aX hq;clear hq
    go_upto_region 15 with fail
    go_cut [32] (fun cv wx=>cv=.bool q/\Hid (aA wx g dk t)/\Hid (w.grownBy wx (some g)))
    case first=>
     by_cases hij:i<b
     ·have hd:decide ((i:Int)<(b:Int))=true:=decide_eq_true (by omega)
      have j1:=fun w'=>qh g N c i w' (by omega)
      have j2:=fun w'=>qh g N c im w' (by omega)
      have hsw:aA wr g dk t:=Un.out;have c3:=hsw.cell (i:=i) (by rw[HD.out];omega)
      have c4:=hsw.cell (i:=im) (by rw[HD.out];omega)
      have hless:=fun w'=>qp dk[i]! dk[im]! w'
      have mG:Hid (q=!(aF dk[i]! dk[im]!)):=by
       show _=_
       rw[HQ.out,decide_eq_true hij];rfl
      clear hsw HQ;generalize aF dk[i]! dk[im]! = lv at *;generalize dk[i]! = xv at *;generalize dk[im]! = xa at *;obtain rfl:=mG.out
      go_quiet ((go_at_call 156;exact Calls.quiet_of_same (hless _)))
      go_wp2
      go_meet
      case rel=>exact⟨rfl,aA.drewN Un.out _,qk Xg.out _⟩
     ·have hd:decide ((i:Int)<(b:Int))=false:=decide_eq_false (by omega)
      have mG:Hid (q=false):=by
       show _=_
       rw[HQ.out,decide_eq_false hij];rfl
      clear HQ;obtain rfl:=mG.out
      go_quiet (fail)
      go_wp2
      go_meet
      case rel=>exact⟨rfl,aA.drewN Un.out _,qk Xg.out _⟩
    case rest=>
     obtain⟨rfl,nH,nI⟩:=hcut;clear Un Xg
     cases q with
     |true=>
      have hq:=HQ.out.symm;rw[Bool.and_eq_true,decide_eq_true_eq]at hq
      have AB:Hid (Go.Sort.scanSorted aF dk b (i+1)=I):=by
       have h1:=Fp.out;rw[OP hq.1 (by rw[<-Uo.out];simpa using hq.2)]at h1
       exact h1
      clear HQ Fp;go_wp2
      go_roundw
      case rel=>exact⟨i+1,by omega,by omega,by go_num,AB,nH,nI⟩
      case measure=>simp[intOf];omega
     |false=>
      have kg:Hid (i=I):=by
       have h1:=Fp.out
       rw[OS (fun h=>by
        have:=HQ.out
        rw[decide_eq_true h]at this;rw[<-Uo.out];simpa using this.symm)]at h1
       exact h1
      clear HQ Fp;obtain rfl:=kg.out
      clear kg;generalize wc=w5 at *;by_cases hib:i=b
      ·have Xh:((i:Int)==(b:Int))=true:=by rw[beq_iff_eq];omega
       have HR:Hid (dk=R1/\true=R2):=by
        have h0:=HST.out;rw[if_pos hib]at h0;injection h0 with h1 h2;exact⟨h1,h2⟩
       clear HST hib;go_wp2;go_ret
       obtain⟨rfl,rfl⟩:=HR.out;exact⟨rfl,nH.out,nI.out⟩
      ·have Xh:((i:Int)==(b:Int))=false:=by rw[lu];omega
       obtain⟨L,hL⟩:∃L,L=b-a:=⟨_,rfl⟩
       have wL:IntKind.i64.wrap ((b:Int)-(a:Int))=(L:Int):=by rw[IntKind.wrap_i64];omega
       have eL:(b:Int)-(a:Int)=(L:Int):=by omega
       by_cases h50:L<50
       ·have Jo:(L:Int)<50:=by omega
        have HR:Hid (dk=R1/\false=R2):=by
         have h0:=HST.out;rw[if_neg hib,if_pos (by omega)]at h0
         injection h0 with h1 h2;exact⟨h1,h2⟩
        clear HST hL;go_wp2;go_ret
        obtain⟨rfl,rfl⟩:=HR.out;exact⟨rfl,nH.out,nI.out⟩
       ·have Jo:¬(L:Int)<50:=by omega
        have Fq:Hid (Go.Sort.partialIns aF a b (5-(k+1)) i (zk b i (OZ a i (swp dk i im)))=(R1,R2)):=by
         have h0:=HST.out;rw[if_neg hib,if_neg (by omega),<-Uo.out]at h0
         exact h0
        clear HST hL;go_wp2;have hi1:=fun w'=>qh g N c i w' (by omega)
        have hi2:=fun w'=>qh g N c im w' (by omega)
        have hsw:aA w5 g dk t:=nH.out;have c3:=hsw.cell (i:=i) (by rw[HD.out];omega)
        have c4:=hsw.cell (i:=im) (by rw[HD.out];omega)
        have f3:=hsw.fz i;have f4:=hsw.fz im;have dK:aA (w5.setCell ⟨g,i,none⟩ (.int .u64 dk[im]!)) g (dk.setIfInBounds i dk[im]!) t:=hsw.set (by rw[HD.out];omega) _
        have f5:=dK.fz im;have c5:=dK.cell (i:=im) (by rw[Array.size_setIfInBounds,HD.out];omega)
        have O4:Hid (aA ((w5.setCell ⟨g,i,none⟩ (.int .u64 dk[im]!)).setCell ⟨g,im,none⟩ (.int .u64 dk[i]!)) g (swp dk i im) t):=hsw.swap (by rw[HD.out];omega) (by rw[HD.out];omega)
        have O5:Hid (w.grownBy ((w5.setCell ⟨g,i,none⟩ (.int .u64 dk[im]!)).setCell ⟨g,im,none⟩ (.int .u64 dk[i]!)) (some g)):=ql (ql nI.out _) _;have HD6:Hid ((swp dk i im).size=N):=by show _=_;rw[Go.Sort.size_swp];exact HD.out
        clear hsw dK;generalize (dk.setIfInBounds i dk[im]!)[im]! = AA at *;generalize dk[i]! = xi at *;generalize dk[im]! = xj at *
        go_upto_region 15 with fail
        go_region
        all_goals
         have uj:Hid (aA ((w5.setCell ⟨g,i,none⟩ (.int .u64 xj)).setCell ⟨g,im,none⟩ (.int .u64 xi)).drew g (swp dk i im) t):=aA.drew O4.out;have rP:Hid (w.grownBy ((w5.setCell ⟨g,i,none⟩ (.int .u64 xj)).setCell ⟨g,im,none⟩ (.int .u64 xi)).drew (some g)):=qA O5.out;clear O4 O5 c3 c4 f3 f4 f5 c5 hi1 hi2;generalize ((w5.setCell ⟨g,i,none⟩ (.int .u64 xj)).setCell ⟨g,im,none⟩ (.int .u64 xi)).drew=w6 at *;generalize swp dk i im=d6 at *;obtain⟨Ld,kh⟩:∃Ld,Ld=i-a:=⟨_,rfl⟩
         have PH:IntKind.i64.wrap ((i:Int)-(a:Int))=(Ld:Int):=by rw[IntKind.wrap_i64];omega
         have PR:(i:Int)-(a:Int)=(Ld:Int):=by omega
         by_cases hd2:2<=Ld
         ·have Xi:(2:Int)<=(Ld:Int):=by omega
          have Ey:Hid (Go.Sort.partialIns aF a b (5-(k+1)) i (zk b i (Go.Sort.shiftDown aF im d6))=(R1,R2)):=by
           have h0:=Fq.out;unfold OZ at h0;rw[if_pos (by omega),<-Uo.out]at h0
           exact h0
          clear Fq kh;go_wp2;clear PH PR
          go_loopw [9] (fun sv wr=>∃j:Nat,j<=im/\sv=.int .i64 j/\∃dj:Array Int,Hid (dj.size=N)/\Hid (aA wr g dj t)/\Hid (Go.Sort.partialIns aF a b (5-(k+1)) i (zk b i (Go.Sort.shiftDown aF j dj))=(R1,R2))/\Hid (w.grownBy wr (some g))) (fun sv _=>(intOf sv).toNat)
          case atStart=>exact⟨im,bZ,by first|rfl|go_num,d6,HD6,uj,Ey,rP⟩
          case round=>
           obtain⟨j,hj1,rfl,dj,nX,xR,AO,zl⟩:=hrel;clear HD6 uj Ey rP;by_cases hjc:1<=j
           ·have zn:(1:Int)<=(j:Int):=by omega
            obtain⟨jm,hjm⟩:∃jm,j=jm+1:=⟨j-1,by omega⟩
            have Jr:IntKind.i64.wrap ((j:Int)-1)=(jm:Int):=by rw[IntKind.wrap_i64];omega
            have CV:(j:Int)-1=(jm:Int):=by omega
            have hjl:jm<j:=by omega
            have yL:=aX hjm;clear hjm;have j1:=fun w'=>qh g N c j w' (by omega)
            have j2:=fun w'=>qh g N c jm w' (by omega)
            have hsw:aA wr g dj t:=xR.out;have c6:=hsw.cell (i:=j) (by rw[nX.out];omega)
            have c7:=hsw.cell (i:=jm) (by rw[nX.out];omega)
            have hless:=fun w'=>qp dj[j]! dj[jm]! w'
            cases hl:aF dj[j]! dj[jm]! with
            |false=>
             rw[hl]at hless
             have CY:Hid (Go.Sort.partialIns aF a b (5-(k+1)) i (zk b i dj)=(R1,R2)):=by
              have h0:=AO.out;rw[show j=jm+1 from yL.out,O1 (by rw[<-yL.out];exact hl)]at h0
              exact h0
             clear hl hsw AO;go_wp2
             go_upto_region 15 with fail
             go_quiet ((go_at_call 156;exact Calls.quiet_of_same (hless _)))
             have Js:Hid (aA (wr.drewN nq) g dj t):=aA.drewN xR.out nq;have Jt:Hid (w.grownBy (wr.drewN nq) (some g)):=qk zl.out nq;clear xR zl hless c6 c7 j1 j2 Jr CV;generalize wr.drewN nq=Fv at *;obtain⟨Lu,Hl⟩:∃Lu,Lu=b-i:=⟨_,rfl⟩
             have O6:IntKind.i64.wrap ((b:Int)-(i:Int))=(Lu:Int):=by rw[IntKind.wrap_i64];omega
             have O7:(b:Int)-(i:Int)=(Lu:Int):=by omega
             by_cases hu2:2<=Lu
             ·have CZ:(2:Int)<=(Lu:Int):=by omega
              have Fz:Hid (Go.Sort.partialIns aF a b (5-(k+1)) i (Go.Sort.shiftUp aF b (i+1) dj)=(R1,R2)):=by
               have h0:=CY.out;unfold zk at h0;rw[if_pos (by omega)]at h0
               exact h0
              clear CY Hl;go_wp2;clear O6 O7
              go_loopw [10] (fun sv wr=>∃j:Nat,i+1<=j/\j<=b/\sv=.int .i64 j/\∃dj:Array Int,Hid (dj.size=N)/\Hid (aA wr g dj t)/\Hid (Go.Sort.partialIns aF a b (5-(k+1)) i (Go.Sort.shiftUp aF b j dj)=(R1,R2))/\Hid (w.grownBy wr (some g))) (fun sv _=>N+1-(intOf sv).toNat)
              case atStart=>exact⟨i+1,bZ,by omega,by first|rfl|go_num,dj,nX,Js,Fz,Jt⟩
              case round=>
               obtain⟨j,hj1,hj2,rfl,dj,mO,uT,uU,xU⟩:=hrel;clear nX Js Fz Jt;by_cases hjc:j<b
               ·have zn:(j:Int)<(b:Int):=by omega
                obtain⟨jm,hjm⟩:∃jm,j=jm+1:=⟨j-1,by omega⟩
                have Jr:IntKind.i64.wrap ((j:Int)-1)=(jm:Int):=by rw[IntKind.wrap_i64];omega
                have CV:(j:Int)-1=(jm:Int):=by omega
                have hjl:jm<j:=by omega
                have yL:=aX hjm;clear hjm;have j1:=fun w'=>qh g N c j w' (by omega)
                have j2:=fun w'=>qh g N c jm w' (by omega)
                have hsw:aA wr g dj t:=uT.out;have c6:=hsw.cell (i:=j) (by rw[mO.out];omega)
                have c7:=hsw.cell (i:=jm) (by rw[mO.out];omega)
                have hless:=fun w'=>qp dj[j]! dj[jm]! w'
                cases hl:aF dj[j]! dj[jm]! with
                |false=>
                 rw[hl]at hless
                 have C9:Hid (Go.Sort.partialIns aF a b (5-(k+1)) i dj=(R1,R2)):=by
                  have h0:=uU.out;rw[CX hjc (by rw[show j-1=jm by have:=yL.out;omega];exact hl)]at h0
                  exact h0
                 clear hl hsw uU;go_wp2
                 go_upto_region 15 with fail
                 go_quiet ((go_at_call 156;exact Calls.quiet_of_same (hless _)))
                 have O8:Hid (aA (wr.drewN nq) g dj t):=aA.drewN uT.out nq;have O9:Hid (w.grownBy (wr.drewN nq) (some g)):=qk xU.out nq;clear uT xU hless c6 c7 j1 j2 Jr CV;generalize wr.drewN nq=vV at *;go_wp2
                 go_roundw
                 case rel=>exact⟨i,k+1,by omega,by omega,by omega,rfl,by go_num,dj,mO,O8,C9,O9⟩
                 case measure=>simp[intOf];omega
                |true=>
                 rw[hl]at hless
                 have C9:Hid (Go.Sort.partialIns aF a b (5-(k+1)) i (Go.Sort.shiftUp aF b (j+1) (swp dj j jm))=(R1,R2)):=by
                  have h0:=uU.out;rw[Xe hjc (by rw[show j-1=jm by have:=yL.out;omega];exact hl),show j-1=jm by have:=yL.out;omega]at h0
                  exact h0
                 clear hl hsw uU;go_wp2
                 go_upto_region 15 with fail
                 go_quiet ((go_at_call 156;exact Calls.quiet_of_same (hless _)))
                 have Pg:Hid (aA (wr.drewN nq) g dj t):=aA.drewN uT.out nq;have Ph:Hid (w.grownBy (wr.drewN nq) (some g)):=qk xU.out nq;clear uT xU hless c6 c7 j1 j2;generalize wr.drewN nq=vV at *;go_wp2;have hi1:=fun w'=>qh g N c j w' (by omega)
                 have hi2:=fun w'=>qh g N c jm w' (by omega)
                 have hsw:aA vV g dj t:=Pg.out;have c3:=hsw.cell (i:=j) (by rw[mO.out];omega)
                 have c4:=hsw.cell (i:=jm) (by rw[mO.out];omega)
                 have f3:=hsw.fz j;have f4:=hsw.fz jm;have dK:aA (vV.setCell ⟨g,j,none⟩ (.int .u64 dj[jm]!)) g (dj.setIfInBounds j dj[jm]!) t:=hsw.set (by rw[mO.out];omega) _
                 have f5:=dK.fz jm;have c5:=dK.cell (i:=jm) (by rw[Array.size_setIfInBounds,mO.out];omega)
                 have Ho:Hid (aA ((vV.setCell ⟨g,j,none⟩ (.int .u64 dj[jm]!)).setCell ⟨g,jm,none⟩ (.int .u64 dj[j]!)) g (swp dj j jm) t):=hsw.swap (by rw[mO.out];omega) (by rw[mO.out];omega)
                 have Hq:Hid (w.grownBy ((vV.setCell ⟨g,j,none⟩ (.int .u64 dj[jm]!)).setCell ⟨g,jm,none⟩ (.int .u64 dj[j]!)) (some g)):=ql (ql Ph.out _) _;have Xj:Hid ((swp dj j jm).size=N):=by show _=_;rw[Go.Sort.size_swp];exact mO.out
                 clear hsw dK;generalize (dj.setIfInBounds j dj[jm]!)[jm]! = AA at *;generalize dj[j]! = xi at *;generalize dj[jm]! = xj at *
                 go_upto_region 15 with fail
                 go_region
                 all_goals
                  have Xk:Hid (aA ((vV.setCell ⟨g,j,none⟩ (.int .u64 xj)).setCell ⟨g,jm,none⟩ (.int .u64 xi)).drew g (swp dj j jm) t):=aA.drew Ho.out;have Xl:Hid (w.grownBy ((vV.setCell ⟨g,j,none⟩ (.int .u64 xj)).setCell ⟨g,jm,none⟩ (.int .u64 xi)).drew (some g)):=qA Hq.out;clear Ho Hq c3 c4 f3 f4 f5 c5 hi1 hi2;generalize ((vV.setCell ⟨g,j,none⟩ (.int .u64 xj)).setCell ⟨g,jm,none⟩ (.int .u64 xi)).drew=w12 at *;generalize swp dj j jm=d12 at *;go_wp2
                  go_roundw
                  case rel=>exact⟨j+1,by omega,by omega,by go_num,d12,Xj,Xk,C9,Xl⟩
                  case measure=>simp[intOf]<;>omega
               ·have zn:¬(j:Int)<(b:Int):=by omega
                have C9:Hid (Go.Sort.partialIns aF a b (5-(k+1)) i dj=(R1,R2)):=by
                 have h0:=uU.out;rw[Xd hjc]at h0;exact h0
                clear uU;generalize wr=vV at *;go_wp2
                go_roundw
                case rel=>exact⟨i,k+1,by omega,by omega,by omega,rfl,by go_num,dj,mO,uT,C9,xU⟩
                case measure=>simp[intOf];omega
             ·have CZ:¬(2:Int)<=(Lu:Int):=by omega
              have Fz:Hid (Go.Sort.partialIns aF a b (5-(k+1)) i dj=(R1,R2)):=by
               have h0:=CY.out;unfold zk at h0;rw[if_neg (by omega)]at h0
               exact h0
              clear CY Hl;go_wp2
              go_roundw
              case rel=>exact⟨i,k+1,by omega,by omega,by omega,rfl,by go_num,dj,nX,Js,Fz,Jt⟩
              case measure=>simp[intOf];omega
            |true=>
             rw[hl]at hless
             have CY:Hid (Go.Sort.partialIns aF a b (5-(k+1)) i (zk b i (Go.Sort.shiftDown aF jm (swp dj j jm)))=(R1,R2)):=by
              have h0:=AO.out;rw[show Go.Sort.shiftDown aF j dj=Go.Sort.shiftDown aF jm (swp dj j jm) from by rw[yL.out];exact Pe (by rw[<-yL.out];exact hl)]at h0
              exact h0
             clear hl hsw AO;go_wp2
             go_upto_region 15 with fail
             go_quiet ((go_at_call 156;exact Calls.quiet_of_same (hless _)))
             have Xm:Hid (aA (wr.drewN nq) g dj t):=aA.drewN xR.out nq;have Xn:Hid (w.grownBy (wr.drewN nq) (some g)):=qk zl.out nq;clear xR zl hless c6 c7 j1 j2;generalize wr.drewN nq=Fv at *;go_wp2;have hi1:=fun w'=>qh g N c j w' (by omega)
             have hi2:=fun w'=>qh g N c jm w' (by omega)
             have hsw:aA Fv g dj t:=Xm.out;have c3:=hsw.cell (i:=j) (by rw[nX.out];omega)
             have c4:=hsw.cell (i:=jm) (by rw[nX.out];omega)
             have f3:=hsw.fz j;have f4:=hsw.fz jm;have dK:aA (Fv.setCell ⟨g,j,none⟩ (.int .u64 dj[jm]!)) g (dj.setIfInBounds j dj[jm]!) t:=hsw.set (by rw[nX.out];omega) _
             have f5:=dK.fz jm;have c5:=dK.cell (i:=jm) (by rw[Array.size_setIfInBounds,nX.out];omega)
             have Hr:Hid (aA ((Fv.setCell ⟨g,j,none⟩ (.int .u64 dj[jm]!)).setCell ⟨g,jm,none⟩ (.int .u64 dj[j]!)) g (swp dj j jm) t):=hsw.swap (by rw[nX.out];omega) (by rw[nX.out];omega)
             have Ht:Hid (w.grownBy ((Fv.setCell ⟨g,j,none⟩ (.int .u64 dj[jm]!)).setCell ⟨g,jm,none⟩ (.int .u64 dj[j]!)) (some g)):=ql (ql Xn.out _) _;have Xo:Hid ((swp dj j jm).size=N):=by show _=_;rw[Go.Sort.size_swp];exact nX.out
             clear hsw dK;generalize (dj.setIfInBounds j dj[jm]!)[jm]! = AA at *;generalize dj[j]! = xi at *;generalize dj[jm]! = xj at *
             go_upto_region 15 with fail
             go_region
             all_goals
              have Xp:Hid (aA ((Fv.setCell ⟨g,j,none⟩ (.int .u64 xj)).setCell ⟨g,jm,none⟩ (.int .u64 xi)).drew g (swp dj j jm) t):=aA.drew Hr.out;have Xq:Hid (w.grownBy ((Fv.setCell ⟨g,j,none⟩ (.int .u64 xj)).setCell ⟨g,jm,none⟩ (.int .u64 xi)).drew (some g)):=qA Ht.out;clear Hr Ht c3 c4 f3 f4 f5 c5 hi1 hi2;generalize ((Fv.setCell ⟨g,j,none⟩ (.int .u64 xj)).setCell ⟨g,jm,none⟩ (.int .u64 xi)).drew=w13 at *;generalize swp dj j jm=d13 at *;go_wp2
              go_roundw
              case rel=>exact⟨jm,by omega,rfl,d13,Xo,Xp,CY,Xq⟩
              case measure=>simp[intOf]<;>omega
           ·have zn:¬(1:Int)<=(j:Int):=by omega
            have CY:Hid (Go.Sort.partialIns aF a b (5-(k+1)) i (zk b i dj)=(R1,R2)):=by
             have h0:=AO.out;obtain rfl:j=0:=by omega
             exact h0
            clear AO;generalize wr=Fv at *;obtain⟨Lu,Hl⟩:∃Lu,Lu=b-i:=⟨_,rfl⟩
            have O6:IntKind.i64.wrap ((b:Int)-(i:Int))=(Lu:Int):=by rw[IntKind.wrap_i64];omega
            have O7:(b:Int)-(i:Int)=(Lu:Int):=by omega
            by_cases hu2:2<=Lu
            ·have CZ:(2:Int)<=(Lu:Int):=by omega
             have FB:Hid (Go.Sort.partialIns aF a b (5-(k+1)) i (Go.Sort.shiftUp aF b (i+1) dj)=(R1,R2)):=by
              have h0:=CY.out;unfold zk at h0;rw[if_pos (by omega)]at h0
              exact h0
             clear CY Hl;go_wp2;clear O6 O7
             go_loopw [10] (fun sv wr=>∃j:Nat,i+1<=j/\j<=b/\sv=.int .i64 j/\∃dj:Array Int,Hid (dj.size=N)/\Hid (aA wr g dj t)/\Hid (Go.Sort.partialIns aF a b (5-(k+1)) i (Go.Sort.shiftUp aF b j dj)=(R1,R2))/\Hid (w.grownBy wr (some g))) (fun sv _=>N+1-(intOf sv).toNat)
             case atStart=>exact⟨i+1,bZ,by omega,by first|rfl|go_num,dj,nX,xR,FB,zl⟩
             case round=>
              obtain⟨j,hj1,hj2,rfl,dj,mP,uV,uX,xW⟩:=hrel;clear nX xR FB zl;by_cases hjc:j<b
              ·have zn:(j:Int)<(b:Int):=by omega
               obtain⟨jm,hjm⟩:∃jm,j=jm+1:=⟨j-1,by omega⟩
               have Jr:IntKind.i64.wrap ((j:Int)-1)=(jm:Int):=by rw[IntKind.wrap_i64];omega
               have CV:(j:Int)-1=(jm:Int):=by omega
               have hjl:jm<j:=by omega
               have yL:=aX hjm;clear hjm;have j1:=fun w'=>qh g N c j w' (by omega)
               have j2:=fun w'=>qh g N c jm w' (by omega)
               have hsw:aA wr g dj t:=uV.out;have c6:=hsw.cell (i:=j) (by rw[mP.out];omega)
               have c7:=hsw.cell (i:=jm) (by rw[mP.out];omega)
               have hless:=fun w'=>qp dj[j]! dj[jm]! w'
               cases hl:aF dj[j]! dj[jm]! with
               |false=>
                rw[hl]at hless
                have Dc:Hid (Go.Sort.partialIns aF a b (5-(k+1)) i dj=(R1,R2)):=by
                 have h0:=uX.out;rw[CX hjc (by rw[show j-1=jm by have:=yL.out;omega];exact hl)]at h0
                 exact h0
                clear hl hsw uX;go_wp2
                go_upto_region 15 with fail
                go_quiet ((go_at_call 156;exact Calls.quiet_of_same (hless _)))
                have Pj:Hid (aA (wr.drewN nq) g dj t):=aA.drewN uV.out nq;have Pm:Hid (w.grownBy (wr.drewN nq) (some g)):=qk xW.out nq;clear uV xW hless c6 c7 j1 j2 Jr CV;generalize wr.drewN nq=vW at *;go_wp2
                go_roundw
                case rel=>exact⟨i,k+1,by omega,by omega,by omega,rfl,by go_num,dj,mP,Pj,Dc,Pm⟩
                case measure=>simp[intOf];omega
               |true=>
                rw[hl]at hless
                have Dc:Hid (Go.Sort.partialIns aF a b (5-(k+1)) i (Go.Sort.shiftUp aF b (j+1) (swp dj j jm))=(R1,R2)):=by
                 have h0:=uX.out;rw[Xe hjc (by rw[show j-1=jm by have:=yL.out;omega];exact hl),show j-1=jm by have:=yL.out;omega]at h0
                 exact h0
                clear hl hsw uX;go_wp2
                go_upto_region 15 with fail
                go_quiet ((go_at_call 156;exact Calls.quiet_of_same (hless _)))
                have Pn:Hid (aA (wr.drewN nq) g dj t):=aA.drewN uV.out nq;have Po:Hid (w.grownBy (wr.drewN nq) (some g)):=qk xW.out nq;clear uV xW hless c6 c7 j1 j2;generalize wr.drewN nq=vW at *;go_wp2;have hi1:=fun w'=>qh g N c j w' (by omega)
                have hi2:=fun w'=>qh g N c jm w' (by omega)
                have hsw:aA vW g dj t:=Pn.out;have c3:=hsw.cell (i:=j) (by rw[mP.out];omega)
                have c4:=hsw.cell (i:=jm) (by rw[mP.out];omega)
                have f3:=hsw.fz j;have f4:=hsw.fz jm;have dK:aA (vW.setCell ⟨g,j,none⟩ (.int .u64 dj[jm]!)) g (dj.setIfInBounds j dj[jm]!) t:=hsw.set (by rw[mP.out];omega) _
                have f5:=dK.fz jm;have c5:=dK.cell (i:=jm) (by rw[Array.size_setIfInBounds,mP.out];omega)
                have Hu:Hid (aA ((vW.setCell ⟨g,j,none⟩ (.int .u64 dj[jm]!)).setCell ⟨g,jm,none⟩ (.int .u64 dj[j]!)) g (swp dj j jm) t):=hsw.swap (by rw[mP.out];omega) (by rw[mP.out];omega)
                have Hw:Hid (w.grownBy ((vW.setCell ⟨g,j,none⟩ (.int .u64 dj[jm]!)).setCell ⟨g,jm,none⟩ (.int .u64 dj[j]!)) (some g)):=ql (ql Po.out _) _;have Xr:Hid ((swp dj j jm).size=N):=by show _=_;rw[Go.Sort.size_swp];exact mP.out
                clear hsw dK;generalize (dj.setIfInBounds j dj[jm]!)[jm]! = AA at *;generalize dj[j]! = xi at *;generalize dj[jm]! = xj at *
                go_upto_region 15 with fail
                go_region
                all_goals
                 have Xt:Hid (aA ((vW.setCell ⟨g,j,none⟩ (.int .u64 xj)).setCell ⟨g,jm,none⟩ (.int .u64 xi)).drew g (swp dj j jm) t):=aA.drew Hu.out;have Xu:Hid (w.grownBy ((vW.setCell ⟨g,j,none⟩ (.int .u64 xj)).setCell ⟨g,jm,none⟩ (.int .u64 xi)).drew (some g)):=qA Hw.out;clear Hu Hw c3 c4 f3 f4 f5 c5 hi1 hi2;generalize ((vW.setCell ⟨g,j,none⟩ (.int .u64 xj)).setCell ⟨g,jm,none⟩ (.int .u64 xi)).drew=w15 at *;generalize swp dj j jm=PT at *;go_wp2
                 go_roundw
                 case rel=>exact⟨j+1,by omega,by omega,by go_num,PT,Xr,Xt,Dc,Xu⟩
                 case measure=>simp[intOf]<;>omega
              ·have zn:¬(j:Int)<(b:Int):=by omega
               have Dc:Hid (Go.Sort.partialIns aF a b (5-(k+1)) i dj=(R1,R2)):=by
                have h0:=uX.out;rw[Xd hjc]at h0;exact h0
               clear uX;generalize wr=vW at *;go_wp2
               go_roundw
               case rel=>exact⟨i,k+1,by omega,by omega,by omega,rfl,by go_num,dj,mP,uV,Dc,xW⟩
               case measure=>simp[intOf];omega
            ·have CZ:¬(2:Int)<=(Lu:Int):=by omega
             have FB:Hid (Go.Sort.partialIns aF a b (5-(k+1)) i dj=(R1,R2)):=by
              have h0:=CY.out;unfold zk at h0;rw[if_neg (by omega)]at h0
              exact h0
             clear CY Hl;go_wp2
             go_roundw
             case rel=>exact⟨i,k+1,by omega,by omega,by omega,rfl,by go_num,dj,nX,xR,FB,zl⟩
             case measure=>simp[intOf];omega
         ·have Xi:¬(2:Int)<=(Ld:Int):=by omega
          have Ey:Hid (Go.Sort.partialIns aF a b (5-(k+1)) i (zk b i d6)=(R1,R2)):=by
           have h0:=Fq.out;unfold OZ at h0;rw[if_neg (by omega)]at h0
           exact h0
          clear Fq kh;obtain⟨Lu,Hl⟩:∃Lu,Lu=b-i:=⟨_,rfl⟩
          have O6:IntKind.i64.wrap ((b:Int)-(i:Int))=(Lu:Int):=by rw[IntKind.wrap_i64];omega
          have O7:(b:Int)-(i:Int)=(Lu:Int):=by omega
          by_cases hu2:2<=Lu
          ·have CZ:(2:Int)<=(Lu:Int):=by omega
           have FC:Hid (Go.Sort.partialIns aF a b (5-(k+1)) i (Go.Sort.shiftUp aF b (i+1) d6)=(R1,R2)):=by
            have h0:=Ey.out;unfold zk at h0;rw[if_pos (by omega)]at h0
            exact h0
           clear Ey Hl;go_wp2;clear O6 O7
           go_loopw [10] (fun sv wr=>∃j:Nat,i+1<=j/\j<=b/\sv=.int .i64 j/\∃dj:Array Int,Hid (dj.size=N)/\Hid (aA wr g dj t)/\Hid (Go.Sort.partialIns aF a b (5-(k+1)) i (Go.Sort.shiftUp aF b j dj)=(R1,R2))/\Hid (w.grownBy wr (some g))) (fun sv _=>N+1-(intOf sv).toNat)
           case atStart=>exact⟨i+1,bZ,by omega,by first|rfl|go_num,d6,HD6,uj,FC,rP⟩
           case round=>
            obtain⟨j,hj1,hj2,rfl,dj,mQ,uY,uZ,xX⟩:=hrel;clear HD6 uj FC rP;by_cases hjc:j<b
            ·have zn:(j:Int)<(b:Int):=by omega
             obtain⟨jm,hjm⟩:∃jm,j=jm+1:=⟨j-1,by omega⟩
             have Jr:IntKind.i64.wrap ((j:Int)-1)=(jm:Int):=by rw[IntKind.wrap_i64];omega
             have CV:(j:Int)-1=(jm:Int):=by omega
             have hjl:jm<j:=by omega
             have yL:=aX hjm;clear hjm;have j1:=fun w'=>qh g N c j w' (by omega)
             have j2:=fun w'=>qh g N c jm w' (by omega)
             have hsw:aA wr g dj t:=uY.out;have c6:=hsw.cell (i:=j) (by rw[mQ.out];omega)
             have c7:=hsw.cell (i:=jm) (by rw[mQ.out];omega)
             have hless:=fun w'=>qp dj[j]! dj[jm]! w'
             cases hl:aF dj[j]! dj[jm]! with
             |false=>
              rw[hl]at hless
              have Df:Hid (Go.Sort.partialIns aF a b (5-(k+1)) i dj=(R1,R2)):=by
               have h0:=uZ.out;rw[CX hjc (by rw[show j-1=jm by have:=yL.out;omega];exact hl)]at h0
               exact h0
              clear hl hsw uZ;go_wp2
              go_upto_region 15 with fail
              go_quiet ((go_at_call 156;exact Calls.quiet_of_same (hless _)))
              have Pq:Hid (aA (wr.drewN nq) g dj t):=aA.drewN uY.out nq;have Pv:Hid (w.grownBy (wr.drewN nq) (some g)):=qk xX.out nq;clear uY xX hless c6 c7 j1 j2 Jr CV;generalize wr.drewN nq=vX at *;go_wp2
              go_roundw
              case rel=>exact⟨i,k+1,by omega,by omega,by omega,rfl,by go_num,dj,mQ,Pq,Df,Pv⟩
              case measure=>simp[intOf];omega
             |true=>
              rw[hl]at hless
              have Df:Hid (Go.Sort.partialIns aF a b (5-(k+1)) i (Go.Sort.shiftUp aF b (j+1) (swp dj j jm))=(R1,R2)):=by
               have h0:=uZ.out;rw[Xe hjc (by rw[show j-1=jm by have:=yL.out;omega];exact hl),show j-1=jm by have:=yL.out;omega]at h0
               exact h0
              clear hl hsw uZ;go_wp2
              go_upto_region 15 with fail
              go_quiet ((go_at_call 156;exact Calls.quiet_of_same (hless _)))
              have Px:Hid (aA (wr.drewN nq) g dj t):=aA.drewN uY.out nq;have Py:Hid (w.grownBy (wr.drewN nq) (some g)):=qk xX.out nq;clear uY xX hless c6 c7 j1 j2;generalize wr.drewN nq=vX at *;go_wp2;have hi1:=fun w'=>qh g N c j w' (by omega)
              have hi2:=fun w'=>qh g N c jm w' (by omega)
              have hsw:aA vX g dj t:=Px.out;have c3:=hsw.cell (i:=j) (by rw[mQ.out];omega)
              have c4:=hsw.cell (i:=jm) (by rw[mQ.out];omega)
              have f3:=hsw.fz j;have f4:=hsw.fz jm;have dK:aA (vX.setCell ⟨g,j,none⟩ (.int .u64 dj[jm]!)) g (dj.setIfInBounds j dj[jm]!) t:=hsw.set (by rw[mQ.out];omega) _
              have f5:=dK.fz jm;have c5:=dK.cell (i:=jm) (by rw[Array.size_setIfInBounds,mQ.out];omega)
              have Hy:Hid (aA ((vX.setCell ⟨g,j,none⟩ (.int .u64 dj[jm]!)).setCell ⟨g,jm,none⟩ (.int .u64 dj[j]!)) g (swp dj j jm) t):=hsw.swap (by rw[mQ.out];omega) (by rw[mQ.out];omega)
              have Hz:Hid (w.grownBy ((vX.setCell ⟨g,j,none⟩ (.int .u64 dj[jm]!)).setCell ⟨g,jm,none⟩ (.int .u64 dj[j]!)) (some g)):=ql (ql Py.out _) _;have Xv:Hid ((swp dj j jm).size=N):=by show _=_;rw[Go.Sort.size_swp];exact mQ.out
              clear hsw dK;generalize (dj.setIfInBounds j dj[jm]!)[jm]! = AA at *;generalize dj[j]! = xi at *;generalize dj[jm]! = xj at *
              go_upto_region 15 with fail
              go_region
              all_goals
               have Xw:Hid (aA ((vX.setCell ⟨g,j,none⟩ (.int .u64 xj)).setCell ⟨g,jm,none⟩ (.int .u64 xi)).drew g (swp dj j jm) t):=aA.drew Hy.out;have Xx:Hid (w.grownBy ((vX.setCell ⟨g,j,none⟩ (.int .u64 xj)).setCell ⟨g,jm,none⟩ (.int .u64 xi)).drew (some g)):=qA Hz.out;clear Hy Hz c3 c4 f3 f4 f5 c5 hi1 hi2;generalize ((vX.setCell ⟨g,j,none⟩ (.int .u64 xj)).setCell ⟨g,jm,none⟩ (.int .u64 xi)).drew=w17 at *;generalize swp dj j jm=P2 at *;go_wp2
               go_roundw
               case rel=>exact⟨j+1,by omega,by omega,by go_num,P2,Xv,Xw,Df,Xx⟩
               case measure=>simp[intOf]<;>omega
            ·have zn:¬(j:Int)<(b:Int):=by omega
             have Df:Hid (Go.Sort.partialIns aF a b (5-(k+1)) i dj=(R1,R2)):=by
              have h0:=uZ.out;rw[Xd hjc]at h0;exact h0
             clear uZ;generalize wr=vX at *;go_wp2
             go_roundw
             case rel=>exact⟨i,k+1,by omega,by omega,by omega,rfl,by go_num,dj,mQ,uY,Df,xX⟩
             case measure=>simp[intOf];omega
          ·have CZ:¬(2:Int)<=(Lu:Int):=by omega
           have FC:Hid (Go.Sort.partialIns aF a b (5-(k+1)) i d6=(R1,R2)):=by
            have h0:=Ey.out;unfold zk at h0;rw[if_neg (by omega)]at h0
            exact h0
           clear Ey Hl;go_wp2
           go_roundw
           case rel=>exact⟨i,k+1,by omega,by omega,by omega,rfl,by go_num,d6,HD6,uj,FC,rP⟩
           case measure=>simp[intOf];omega
  ·have Xf:¬(k:Int)<5:=by omega
   obtain rfl:k=5:=by omega
   have HR:Hid (dk=R1/\false=R2):=by
    have h0:=HI.out;injection h0 with h1 h2;exact⟨h1,h2⟩
   clear HI;go_wp2;go_ret
   obtain⟨rfl,rfl⟩:=HR.out;exact⟨rfl,HS.out,HG.out⟩
end Go.Proofs.YtoioiellaomonaaGreatDoor
namespace Go.Proofs.YtoioiellaomonaaGreatDoor
open Go.Sort (swp PermIn SortedIn)
variable {a b a0 b0 m:Nat}{d d0 d' d4 d5:Array Int}
structure PQ(a0 b0 a b:Nat)(d0 d:Array Int):Prop where
 a1:a0<=a
 ab:a<=b
 b1:b<=b0
 sz:d.size=d0.size
 perm:PermIn a0 b0 d0 d
 bel:Go.Sort.Below aF a b d
 fin:∀d':Array Int,PermIn a b d d'->SortedIn aF a b d'->SortedIn aF a0 b0 d'
theorem P3(hab:a<=b)(hB:Go.Sort.Below aF a b d):PQ a b a b d d :=
 ⟨bZ,hab,bZ,rfl,Go.Sort.permIn_refl d a b,hB,fun _ _ h=>h⟩
theorem PQ.up(h:PQ a0 b0 a b d0 d)(hb:b0<=d0.size)(hp:PermIn a b d d'):PermIn a0 b0 d0 d' :=
 Go.Sort.permIn_trans _ _ _ _ _ h.perm (Go.Sort.permIn_mono d d' a b a0 b0 h.a1 h.b1 (by rw[h.sz];exact hb) hp)
theorem P4(hb:b<=d.size)(h:Go.Sort.Below aF a b d)(hp:PermIn a b d d'):Go.Sort.Below aF a b d':=by
 rcases h with h|h
 ·exact Or.inl h
 ·by_cases ha:a=0
  ·exact Or.inl ha
  ·right
   rw[hp.2.1 (a-1) (by omega)]
   exact Go.Sort.permIn_all d d' a b (fun x=>aF x d[a-1]! = false) hb hp h
theorem PQ.move(h:PQ a0 b0 a b d0 d)(hb:b0<=d0.size)(hp:PermIn a b d d'):PQ a0 b0 a b d0 d' :=
 ⟨h.a1,h.ab,h.b1,hp.1.trans h.sz,h.up hb hp,P4 (by have:=h.b1;rw[h.sz];omega) h.bel hp,fun e h1 h2=>h.fin e (Go.Sort.permIn_trans _ _ _ _ _ hp h1) h2⟩
theorem km{p:Int}(hp:d[m]! = p)(hl:SortedIn aF a m d)(hr:SortedIn aF (m+1) b d)(h1:∀x,a<=x->x<m->aF d[x]! p=true)(h2:∀x,m<x->x<b->aF d[x]! p=false):SortedIn aF a b d:=by
 have no:∀x y:Int,aF x p=true->aF y p=false->aF y x=false:=fun x y k1 k2=>by
  cases k:aF y x with
  |false=>rfl
  |true=>rw[oI.trans y x p k k1]at k2;cases k2
 intro i j hi hij hj;by_cases c1:j<m
 ·exact hl i j hi hij c1
 ·by_cases c2:j=m
  ·subst c2
   rw[hp];exact no _ _ (h1 i hi hij) (oI.irrefl p)
  ·by_cases c3:i<m
   ·exact no _ _ (h1 i hi c3) (h2 j (by omega) hj)
   ·by_cases c4:i=m
    ·subst c4
     rw[hp];exact h2 j hij hj
    ·exact hr i j (by omega) hij hj
theorem PQ.left(h:PQ a0 b0 a b d0 d)(hb:b0<=d0.size)(hP:pI d a b m d4)(hp:PermIn a m d4 d5)(hs:SortedIn aF a m d5):PQ a0 b0 (m+1) b d0 d5:=by
 have hsz:=h.sz;have Dh:=hP.sz;have hb1:=h.b1;have hma:=hP.ma;have hmb:=hP.mb;have h4:=h.move hb hP.perm;have e5:∀x,m<=x->d5[x]! = d4[x]! := fun x hx=>hp.2.1 x (Or.inr hx)
 have k5:PermIn a b d4 d5:=Go.Sort.permIn_mono d4 d5 a m a b bZ (by omega) (by omega) hp
 have Qf:∀x,a<=x->x<m->aF d5[x]! d4[m]! = true:=Go.Sort.permIn_all d4 d5 a m (fun x=>aF x d4[m]! = true) (by omega) hp hP.lo
 refine⟨by have:=h.a1;omega,by omega,hb1,hp.1.trans (Dh.trans hsz),h4.up hb k5,Or.inr fun i h1 h2=>?_,fun e h1 h2=>?_⟩
 ·rw[show m+1-1=m by omega,e5 i (by omega),e5 m bZ]
  exact hP.hi i (by omega) h2
 ·have kk:PermIn a b d5 e:=Go.Sort.permIn_mono d5 e (m+1) b a b (by omega) bZ (by rw[hp.1];omega) h1
  have ee:∀x,x<m+1->e[x]! = d5[x]! := fun x hx=>h1.2.1 x (Or.inl hx)
  have hie:∀x,m+1<=x->x<b->aF e[x]! d4[m]! = false:=Go.Sort.permIn_all d5 e (m+1) b (fun x=>aF x d4[m]! = false) (by rw[hp.1];omega) h1 (fun i k1 k2=>by rw[e5 i (by omega)];exact hP.hi i (by omega) k2)
  refine h4.fin e (Go.Sort.permIn_trans _ _ _ _ _ k5 kk) (km (m:=m) (p:=d4[m]!) ?_ ?_ h2 ?_ ?_)
  ·rw[ee m (by omega),e5 m bZ]
  ·intro i j hi hij hj
   rw[ee i (by omega),ee j (by omega)]
   exact hs i j hi hij hj
  ·intro x k1 k2
   rw[ee x (by omega)]
   exact Qf x k1 k2
  ·intro x k1 k2
   exact hie x (by omega) k2
theorem PQ.right(h:PQ a0 b0 a b d0 d)(hb:b0<=d0.size)(hP:pI d a b m d4)(hp:PermIn (m+1) b d4 d5)(hs:SortedIn aF (m+1) b d5):PQ a0 b0 a m d0 d5:=by
 have hsz:=h.sz;have Dh:=hP.sz;have hb1:=h.b1;have hma:=hP.ma;have hmb:=hP.mb;have h4:=h.move hb hP.perm;have e5:∀x,x<m+1->d5[x]! = d4[x]! := fun x hx=>hp.2.1 x (Or.inl hx)
 have k5:PermIn a b d4 d5:=Go.Sort.permIn_mono d4 d5 (m+1) b a b (by omega) bZ (by omega) hp
 have hi5:∀x,m+1<=x->x<b->aF d5[x]! d4[m]! = false:=Go.Sort.permIn_all d4 d5 (m+1) b (fun x=>aF x d4[m]! = false) (by omega) hp (fun i k1 k2=>hP.hi i (by omega) k2)
 refine⟨h.a1,hma,by omega,hp.1.trans (Dh.trans hsz),h4.up hb k5,?_,fun e h1 h2=>?_⟩
 ·rcases h4.bel with k|k
  ·exact Or.inl k
  ·right
   intro i h1 h2;rw[e5 i (by omega),e5 (a-1) (by omega)]
   exact k i h1 (by omega)
 ·have kk:PermIn a b d5 e:=Go.Sort.permIn_mono d5 e a m a b bZ (by omega) (by rw[hp.1];omega) h1
  have ee:∀x,m<=x->e[x]! = d5[x]! := fun x hx=>h1.2.1 x (Or.inr hx)
  have QH:∀x,a<=x->x<m->aF e[x]! d4[m]! = true:=Go.Sort.permIn_all d5 e a m (fun x=>aF x d4[m]! = true) (by rw[hp.1];omega) h1 (fun i k1 k2=>by rw[e5 i (by omega)];exact hP.lo i k1 k2)
  refine h4.fin e (Go.Sort.permIn_trans _ _ _ _ _ k5 kk) (km (m:=m) (p:=d4[m]!) ?_ h2 ?_ QH ?_)
  ·rw[ee m bZ,e5 m (by omega)]
  ·intro i j hi hij hj
   rw[ee i (by omega),ee j (by omega)]
   exact hs i j hi hij hj
  ·intro x k1 k2
   rw[ee x (by omega)]
   exact hi5 x (by omega) k2
theorem PQ.eq{q:Nat}(h:PQ a0 b0 a b d0 d)(hb:b0<=d0.size)(ha:0<a)(hl:aF d[a-1]! d[q]! = false)(hP:oJ d a b m d[q]! d4):PQ a0 b0 m b d0 d4:=by
 have hsz:=h.sz;have Dh:=hP.sz;have hb1:=h.b1;have hma:=hP.ma;have hmb:=hP.mb;have h4:=h.move hb hP.perm
 have nl:∀i,a<=i->i<b->aF d[i]! d[q]! = false:=fun i k1 k2=>by
  rcases h.bel with k|k
  ·omega
  ·exact oI.ntrans _ _ _ (k i k1 k2) hl
 have QP:∀i,a<=i->i<b->aF d4[i]! d[q]! = false:=Go.Sort.permIn_all d d4 a b (fun x=>aF x d[q]! = false) (by omega) hP.perm nl
 have no:∀x y:Int,aF d[q]! y=true->aF d[q]! x=false->aF y x=false:=fun x y k1 k2=>by
  cases k:aF y x with
  |false=>rfl
  |true=>rw[oI.trans _ _ _ k1 k]at k2;cases k2
 refine⟨by have:=h.a1;omega,hmb,hb1,Dh.trans hsz,h4.perm,Or.inr fun i h1 h2=>no _ _ (hP.hi i h1 h2) (hP.lo (m-1) (by omega) (by omega)),fun e h1 h2=>?_⟩
 have kk:PermIn a b d4 e:=Go.Sort.permIn_mono d4 e m b a b (by omega) bZ (by omega) h1
 have ee:∀x,x<m->e[x]! = d4[x]! := fun x hx=>h1.2.1 x (Or.inl hx)
 have hie:∀x,m<=x->x<b->aF d[q]! e[x]! = true:=Go.Sort.permIn_all d4 e m b (fun x=>aF d[q]! x=true) (by omega) h1 hP.hi
 refine h4.fin e kk fun i j hi hij hj=>?_
 by_cases c1:j<m
 ·rw[ee i (by omega),ee j c1]
  exact oI.ntrans _ _ _ (QP j (by omega) hj) (hP.lo i hi (by omega))
 ·by_cases c2:i<m
  ·rw[ee i c2]
   exact no _ _ (hie j (by omega) hj) (hP.lo i hi c2)
  ·exact h2 i j (by omega) hij hj
end Go.Proofs.YtoioiellaomonaaGreatDoor
namespace Go.Proofs.YtoioiellaomonaaGreatDoor
open Go.RowKit Go.Maps Proofs.Tryz
variable {t:Tk}{i k s base m:Nat}{w:World}{ts:List Tk}{P:Program}{e T:TypeId}{v:Value}{ks:List Nat}
theorem QR{r:List Tk}{st:List Pt}:dG (t::r) i st=match bI t with|none=>none|some n=>if st.length<n then none else if bT t.1 (st.drop (st.length-n)) then (dG r (i+1) (st.take (st.length-n)++[dZ t (st.drop (st.length-n)) i])).map (fun x=>(dZ t (st.drop (st.length-n)) i::x.1,x.2)) else none:=by
 rw[dG];cases bI t<;>rfl
theorem Q0{a:List Pt}(h:∀x∈a,x.dep<=k):(dZ t a i).dep<=k+1:=by
 show a.foldl _ 1<=k+1
 have key:∀(a:List Pt)(d:Nat),d<=k+1->(∀x∈a,x.dep<=k)->a.foldl (fun d x=>max d (x.dep+1)) d<=k+1:=by
  intro a
  induction a with
  |nil=>intro d hd _;exact hd
  |cons y r ih=>intro d hd hx;exact ih _ (by have:=hx y (by simp);dsimp only;omega) (fun x h=>hx x (List.mem_cons_of_mem _ h))
 exact key a 1 (by omega) h
theorem Ur{g:Nat}{t:TypeId}{a b:Nat}(h:Az w g t a b)(ha:a<256)(hb:b<256):bG w (some ⟨g,0,none⟩) 1 1 [(a,b)]:=by
 refine⟨rfl,bZ,by decide,fun hn=>(nomatch hn),fun x hx k hk=>?_,fun x hx k hk=>?_,fun t ht=>?_⟩
 ·injection hx with hx;subst hx
  obtain rfl:k=0:=by simpa using hk
  exact h.c0
 ·injection hx with hx;subst hx
  obtain rfl:k=0:=by simpa using hk
  exact h.c1
 ·rw[List.mem_singleton.1 ht];exact⟨ha,hb⟩
structure lX(w:World)(a:Option Addr)(len cap:Nat)(zs:List Int):Prop where
 sl:dh prog 23 .u8 w a len cap zs
 ok:∀z∈zs,0<=z/\z<256
theorem lX.up{w w':World}{a:Option Addr}{len cap:Nat}{zs:List Int}(h:lX w a len cap zs)(hb:Below w.heap.size w w'):lX w' a len cap zs:=⟨h.sl.up hb,h.ok⟩
def zN(zs:List Int):List Nat:=zs.map Int.toNat
theorem H9(zs:List Int):(zN zs).length=zs.length:=by simp[zN]
def wU(zs:List Int):Int:=if 1024<zs.length then 3 else 0
theorem Xy(hl:ts.length<=2048)(h:¬oD ts):bM ts=7:=by
 unfold bM;rw[if_neg (by omega),if_neg h]
def Xz(F:FuncId):Prop:=∀(a:Option Addr)(len cap:Nat)(ts:List Tk)(w:World),bG w a len cap ts->Calls prog F #[.slice a len cap] w fun e w'=>e=.returned (.int .i64 (bM ts:Int))/\Below w.heap.size w w'
theorem qZ(h:(P.info? e).map (·.size)=some s)(w:World):(sizeOf e).run P w=.ok s w:=by
 cases hq:P.info? e with
 |none=>simp[hq]at h
 |some i=>simp[hq]at h;simp[sizeOf,typeInfo,hq,h]
theorem xY(hu:P.underlying T=some (.slice e))(hs:(P.info? e).map (·.size)=some s)(a:Option Addr)(n cap lo:Nat)(hl:lo<=n)(hc:n<=cap)(hn:a=none->cap=0):
  ∃a',(∀w,(Instr.sliceAt T (.slice a n cap) (some (.int .i64 lo)) none none).run P w=.ok (.slice a' (n-lo) (cap-lo)) w)/\(a'=none->cap-lo=0)/\(lo<n->∀x,a=some x->a'=some (x.add (lo*s))):=by
 cases a with
 |none=>
  have:=hn rfl
  subst this;obtain rfl:n=0:=by omega
  obtain rfl:lo=0:=by omega
  exact⟨none,fun w=>by simp[Instr.sliceAt,Instr.slice,run_underlying hu,qZ hs,go_sem],fun _=>rfl,fun hk=>absurd hk (by omega)⟩
 |some x=>
  by_cases hz:cap=lo
  ·refine⟨some x,fun w=>?_,(fun h=>by cases h),fun hk=>absurd hk (by omega)⟩
   have hz2:cap-lo=0:=by omega
   simp[Instr.sliceAt,Instr.slice,run_underlying hu,qZ hs,go_sem,hl,hz2]
   exact fun h=>absurd hz h
  ·refine⟨some (x.add (lo*s)),fun w=>?_,(fun h=>by cases h),fun _ y hy=>by injection hy with hy;rw[hy]⟩
   simp[Instr.sliceAt,Instr.slice,run_underlying hu,qZ hs,go_sem,hl]
   exact fun h=>absurd h hz
theorem Aa(hu:P.underlying T=some (.slice e))(hs:(P.info? e).map (·.size)=some s)(a:Option Addr)(n cap m:Nat)(hl:m<=n)(hc:n<=cap)(hn:a=none->cap=0)(w:World):
  (Instr.sliceAt T (.slice a n cap) none (some (.int .i64 m)) none).run P w=.ok (.slice a m cap) w:=by
 cases a with
 |none=>
  have:=hn rfl
  subst this;obtain rfl:n=0:=by omega
  obtain rfl:m=0:=by omega
  simp[Instr.sliceAt,Instr.slice,run_underlying hu,qZ hs,go_sem]
 |some x=>
  have hmc:m<=cap:=by omega
  simp[Instr.sliceAt,Instr.slice,run_underlying hu,qZ hs,go_sem,hmc]
theorem qO{e size n:Nat}{xs:List Value}(h:w.ownsRow base e size v n xs)(hm:m<=n):
  ∃a cap,v=.slice a n cap/\n<=cap/\cap<=maxLen/\(a=none->cap=0)/\w.ownsRow base e size (.slice a m cap) m (xs.take (m*size))/\(Value.slice a m cap).ownBlock=v.ownBlock:=by
 obtain⟨hl,h⟩:=h;have hms:m*size<=n*size:=Nat.mul_le_mul_right _ hm;rcases h with⟨rfl,rfl⟩|⟨g,cap,cur,rfl,hg,hcell,hnc,hcm,hsz,htk⟩
 ·obtain rfl:m=0:=by omega
  exact⟨none,0,rfl,Nat.le_refl _,Nat.zero_le _,fun _=>rfl,⟨by simp,Or.inl ⟨rfl,rfl⟩⟩,rfl⟩
 ·refine⟨some ⟨g,0,none⟩,cap,rfl,hnc,hcm,fun h=>(by cases h),⟨by simp;omega,Or.inr ⟨g,cap,cur,rfl,hg,hcell,by omega,hcm,hsz,?_⟩⟩,rfl⟩
  rw[<-htk,List.take_take,Nat.min_eq_left hms]
def rD(ks:List Nat):List Value:=(ks.map fun o:Nat=>(o:Int)).map (Value.int .u8)
theorem Q6(ks:List Nat)(m:Nat):(rD ks).take (m*1)=rD (ks.take m):=by simp[rD,List.map_take]
theorem Pz:(prog.info? 178).map (·.size)=some 1:=by kernel_rfl
theorem Rb:(prog.info? 178).map (fun i=>(i.zero,i.size,i.bytes))=some (some (.int .u8 0),1,1):=by kernel_rfl
theorem kq{L:Nat}(h:w.ownsRow base 178 1 v L (rD ks))(hm:m<=L):
  ∃a cap b,v=.slice a L cap/\(∀w',(Instr.sliceAt 177 (.slice a L cap) none (some (.int .i64 m)) none).run prog w'=.ok (.slice a m cap) w')/\w.ownsRow base 178 1 (.slice a m cap) m (rD (ks.take m))/\(∀w',(Instr.sliceAt 177 (.slice a L cap) (some (.int .i64 m)) none none).run prog w'=.ok (.slice b (L-m) (cap-m)) w')/\lU w b (L-m) (cap-m) (ks.drop m):=by
 obtain⟨a,cap,rfl,h1,h2,h3,h4,_⟩:=qO h hm;rw[Q6]at h4;obtain⟨b,h5,h6,h7⟩:=xY (P:=prog) (T:=177) underlying177 Pz a L cap m hm h1 h3;refine⟨a,cap,b,rfl,Aa underlying177 Pz a L cap m hm h1 h3,h4,h5,?_⟩
 obtain⟨a',cap',e,hI,_⟩:=fS (P:=prog) (T:=177) h underlying177 Pz;injection e with e1 _ e3;subst e1 e3;have hlen:ks.length=L:=by have:=hI.hlen;simpa using this
 have had:∀k,k<L-m->aG b k=aG a (m+k):=fun k hk=>by
  cases a with
  |none=>have:=h3 rfl;omega
  |some x=>
   rw[h7 (by omega) x rfl]
   show (x.add (m*1)).add k=x.add (m+k)
   rw[Ue,Nat.mul_one]
 refine⟨by simp[hlen],by omega,by omega,fun n k w' hk hn=>?_,fun k hk=>?_,fun k hk=>?_,h6⟩
 ·exact yK underlying177 Pz (fun e=>by have:=h6 e;omega) k w' hk
 ·rw[had k hk,hI.cell (m+k) (by omega)]
  simp[List.getD_eq_getElem?_getD]
 ·rw[had k hk];exact hI.blk (m+k) (by omega)
theorem Rm{w:World}{ops:Array Oper}{rest:List Oper}{o:Oper}{a:Act}{Q:Exit->Act->World->Prop}(hgd:o.guard=none)(s x:Operand)
  (ho:o.op=.call { callee:=.builtin .append,args:=#[s,x],argTypes:=#[177,177] }) (base:Nat)
  (v:Value) (n:Nat) (ks:List Nat) (hs:a.eval s=v) (hown:w.ownsRow base 178 1 v n (rD ks)) (g':Nat) (z:Nat) (hx:a.eval x=.slice (some ⟨g',0,none⟩) 1 1) (hc:w.cell? ⟨g',0,none⟩=some (.int .u8 z))
  (hn:n+1<=140737488355328) (hbase:base<=w.heap.size)
  (h:∀v' w',w'.ownsRow base 178 1 v' (n+1) (rD (ks++[z]))->w.grownBy w' v.ownBlock->wpList prog ops Q rest (a.put o.dst v') w'):wpList prog ops Q (o::rest) a w:=by
 obtain⟨i,hi,hz0,hz1,hz2⟩:=info_parts Rb;refine wpList_append_own w hgd s x 177 ho base 178 i _ 1 1 underlying177 hi hz0 hz1 hz2 rfl (by decide) v n _ hs hown ⟨g',0,none⟩ 1 1 [.int .u8 z] hx rfl ?_ (ints_oneCell .u8 [(z:Int)]) (by unfold maxLen;omega) (by omega) hbase ?_
 ·intro j u hj
  match j with
  | 0=>simp at hj;rw[<-hj,qi];exact hc
  |j+1=>simp at hj
 ·intro v' w' h1 h2 _
  exact h v' w' (by unfold rD;rw[List.map_append,List.map_append];exact h1) h2
theorem Rr(op:Nat)(a:Option Addr)(c n:Nat)(ks:List Nat)(w:World)(h23:op<=23)(n3:op≠3)(n9:op≠9)(n10:op≠10)(n13:op≠13)(n14:op≠14)(hn:n=iH op)(hl:ks.length=n)(hk:∀x∈ks,x<=2)(h:lU w a n c ks):
  Calls prog 140 #[.int .u8 op,.slice a n c] w (lJ op ks w):=by
 subst hl
 match ks,hn,hk,h with
 | [],hn,_,_=>
  rcases NP hn n3 with rfl|rfl|rfl|rfl|rfl
  ·exact GM a _ c w
  ·exact GQ a _ c w
  ·exact G0 a _ c w
  ·exact Ha a _ c w
  ·exact Hh a _ c w
 | [x],hn,hk,h=>
  have hx:=hk x (by simp)
  by_cases e6:op=6
  ·subst e6;exact Hj a c x w hx h
  ·rcases NQ hn e6 n9 n10 with rfl|rfl|rfl|rfl|rfl
   ·exact Hk a c x w hx h
   ·exact Hm a c x w hx h
   ·exact Hn a c x w hx h
   ·exact Hv a c x w hx h
   ·exact Is a c x w hx h
 | [x,y],hn,hk,h=>
  have hx:=hk x (by simp)
  have hy:=hk y (by simp)
  rcases NR hn h23 n13 n14 with rfl|rfl|rfl|rfl|rfl|rfl|rfl|rfl
  ·exact Ix a c x y w hx hy h
  ·exact IA a c x y w hx hy h
  ·exact I0 a c x y w hx hy h
  ·exact I3 a c x y w hx hy h
  ·exact I6 a c x y w hx hy h
  ·exact Jx a c x y w hx hy h
  ·exact JP a c x y w hx hy h
  ·exact JS a c x y w hx hy h
 |_::_::_::_,hn,_,_=>have:=TT op;simp at hn;omega
def nY(st:List Nat)(k:Tk):Option (List Nat):=if st.length<iH k.1 then none else if lI k.1 (st.drop (st.length-iH k.1))=true then some (st.take (st.length-iH k.1)++[iL k.1 (st.drop (st.length-iH k.1))]) else none
theorem XA(k:Tk)(r:List Tk)(st:List Nat):su (k::r) st=(nY st k).bind (su r):=by
 rw[su];unfold nY
 split
 ·rfl
 ·split<;>rfl
theorem XC:∀(l r:List Tk)(st:List Nat),su (l++r) st=(su l st).bind (su r)
 | [],r,st=>rfl
 |k::l,r,st=>by
  show su (k::(l++r)) st=_
  rw[XA,XA]
  cases nY st k with
  |none=>rfl
  |some s=>exact XC l r s
theorem RE(h:k<ts.length)(hs:su (ts.take k) []=some ks):su (ts.take (k+1)) []=nY ks ts[k]:=by
 rw[List.take_add_one,kU h]
 show su (ts.take k++[ts[k]]) []=_
 rw[XC,hs]
 show su [ts[k]] ks=_
 rw[XA]
 cases nY ks ts[k]<;>rfl
theorem RO(h:su (ts.take k) []=none):nV ts=false:=by
 have:su (ts.take k++ts.drop k) []=none:=by rw[XC,h];rfl
 rw[List.take_append_drop]at this;unfold nV;rw[this]
def PD(ks:List Nat):Bool:=match ks with | [x]=>Au x 0|_=>false
theorem RR(h:su ts []=some ks):nV ts=PD ks:=by
 unfold nV;rw[h]
 match ks with
 | []=>rfl
 | [x]=>rfl
 |_::_::_=>rfl
theorem R7(op:Nat)(a:List Nat):iL op a<=2:=by
 unfold iL
 repeat' split
 all_goals omega
theorem kx(h:k<ts.length)(hf:dD false ts=true):∃b,gV b ts[k].1 ts[k].2=true:=by
 have h1:dD false (ts.take k)=true:=by
  cases hc:dD false (ts.take k) with
  |true=>rfl
  |false=>rw[Um hc]at hf;cases hf
 refine⟨gW false (ts.take k),?_⟩
 rw[<-W9 h h1]
 cases hc:dD false (ts.take (k+1)) with
 |true=>rfl
 |false=>rw[Um hc]at hf;cases hf
theorem ky(a:Option Addr)(len cap:Nat)(ts:List Tk)(w:World)(hT:bG w a len cap ts)(hln:len<=1000000)(hF:dD false ts=true):
  Calls prog 119 #[.slice a len cap] w fun e w'=>e=.returned (.bool (nV ts))/\Below w.heap.size w w':=by
 have HT:=aX hT;have HLEN:Hid (ts.length=len):=hT.hlen;have HF:=aX hF;clear hT hF;go_enter func119,ntmps119
 go_wp2
 go_loopw [3,12] (fun v i wr=>∃k:Nat,k<=len/\i=.int .i64 k/\(∃ks:List Nat,Hid (wr.ownsRow w.heap.size 178 1 v ks.length (rD ks))/\Hid (su (ts.take k) []=some ks)/\Hid (ks.length<=k)/\Hid (∀x∈ks,x<=2))/\Hid (Below w.heap.size w wr)) (fun _ i _=>len-(intOf i).toNat)
 case atStart=>exact⟨0,Nat.zero_le _,rfl,⟨[],⟨rfl,Or.inl ⟨rfl,rfl⟩⟩,rfl,Nat.le_refl _,fun x hx=>(by simp at hx)⟩,Below.refl _ _⟩
 case round=>
  obtain⟨k,hk,rfl,⟨ks,HO,HE,rQ,Ju⟩,HW⟩:=hrel;have hll:=rQ.out;have PG:=HW.out.size;by_cases hlt:k<len
  ·have hxl:k<ts.length:=by have:=HLEN.out;omega
   obtain⟨g1,o1,s1,hi1,hx0,hx1,hg1,_⟩:=(HT.out.up HW.out).at underlying22 qD k hlt;have hidx:=fun w'=>hi1 len w' hlt
   clear hi1;have fQ:Hid (su (ts.take (k+1)) []=nY ks ts[k]):=RE hxl HE.out;obtain⟨b,hfa⟩:=kx hxl HF.out;have lV:Hid (su (ts.take (k+1)) []=none->nV ts=false):=fun h=>RO h
   generalize ts[k]=q at *;obtain⟨op,p⟩:=q;dsimp only at hx0 hx1 fQ hfa
   obtain⟨_,h23,n3,n9,n10,n13,n14,_⟩:=VQ hfa;clear hfa;have Di:=fun w'=>GF op w' h23
   have hb1:=qd wr (.cells #[.int .u8 op,.int .u8 p] 42);have HB1:Hid (Below w.heap.size w (wr.alloc (.cells #[.int .u8 op,.int .u8 p] 42))):=qe HW.out hb1;have hz1:(wr.alloc (.cells #[.int .u8 op,.int .u8 p] 42)).heap.size=wr.heap.size+1:=by simp
   have R9:iH op=iH op:=rfl;obtain⟨n,hn⟩:∃n,n=iH op:=⟨_,rfl⟩
   have hn2:n<=2:=by rw[hn];exact TT op
   have HS:Hid (nY ks (op,p)=if ks.length<n then none else if lI op (ks.drop (ks.length-n))=true then some (ks.take (ks.length-n)++[iL op (ks.drop (ks.length-n))]) else none):=by show _=_;rw[hn];rfl
   rw[<-hn]at Di;have HN:=aX hn;clear hn R9;by_cases hs:ks.length<n
   ·have HZ:Hid (nV ts=false):=lV.out (by rw[fQ.out,HS.out,if_pos hs])
    have hs':(ks.length:Int)<(n:Int):=by omega
    obtain⟨av,cv,rfl,_⟩:=qO HO.out bZ;clear HS fQ hb1 lV
    go_wp2_with (go_at_call 139;refine (Di _).mono ?_;rintro e w' ⟨rfl,rfl⟩)
    go_ret
    exact⟨by rw[HZ.out];rfl,HB1.out⟩
   ·have hs':¬(ks.length:Int)<(n:Int):=by omega
    obtain⟨M,hM⟩:∃M,M=ks.length-n:=⟨_,rfl⟩
    rw[if_neg hs,<-hM]at HS;obtain⟨av,cv,bv,rfl,hpre,hown,hcut,hkd⟩:=kq HO.out (m:=M) (by omega)
    rw[show ks.length-M=n by omega]at hcut hkd
    have hdl:(ks.drop M).length=n:=by simp;omega
    have hdk:∀x∈ks.drop M,x<=2:=fun x hx=>Ju.out x (List.mem_of_mem_drop hx)
    have htk:∀x∈ks.take M,x<=2:=fun x hx=>Ju.out x (List.mem_of_mem_take hx)
    have htl:(ks.take M).length=M:=by simp;omega
    have PK:lU (wr.alloc (.cells #[.int .u8 op,.int .u8 p] 42)) bv n (cv-M) (ks.drop M):=dh.up hkd hb1;have hput:∀m,Calls prog 140 #[.int .u8 op,.slice bv n (cv-M)] ((wr.alloc (.cells #[.int .u8 op,.int .u8 p] 42)).drewN m) (fun e w'=>e=.returned (.tuple #[.int .u8 (iL op (ks.drop M):Int),.bool (lI op (ks.drop M))])/\∃m',w'=((wr.alloc (.cells #[.int .u8 op,.int .u8 p] 42)).drewN m).drewN m'):=fun m=>Rr op bv (cv-M) n (ks.drop M) _ h23 n3 n9 n10 n13 n14 HN.out hdl hdk (dh.drewN PK m)
    have hml:=R7 op (ks.drop M);have FD:Hid _:=fQ.out.trans HS.out;have kz:Hid _:=htk;have Ac:Hid _:=htl;have hwr:IntKind.i64.wrap ((ks.length:Int)-(n:Int))=(M:Int):=by rw[IntKind.wrap_i64];omega
    have hown1:=qC hown hb1;have uw:Hid _:=hown1;have Us:M<=ks.length:=by omega
    have o8:Hid (∀j,(Value.slice av M cv).ownBlock=some j->w.heap.size<=j):=vO hown1;have hcw0:(wr.alloc (.cells #[.int .u8 op,.int .u8 p] 42)).cell? ⟨wr.heap.size,0,none⟩=some (.int .u8 op):=qc (dO wr _).1 0;clear fQ HS hown hown1 hkd PK hdk htk htl hdl hb1 HO HE Ju hM;generalize ks.drop M=dk at *;generalize ks.take M=tk at *;generalize iL op dk=md at *;generalize lI op dk=ft at *;generalize ks.length=L at *
    go_wp2_with (go_at_call 139;refine (Di _).mono ?_;rintro e w' ⟨rfl,rfl⟩)
    generalize hW1:wr.alloc (.cells #[.int .u8 op,.int .u8 p] 42)=w1 at *
    go_quiet ((go_at_call 140;exact Calls.quiet_of (hput _)))
    cases ft with
    |false=>
     have HZ:Hid (nV ts=false):=lV.out (by rw[FD.out];rfl)
     go_wp2;go_ret
     exact⟨by rw[HZ.out];rfl,qe HB1.out (below_drewN (Below.refl _ _) _)⟩
    |true=>
     have HB2:Hid (Below w.heap.size w (w1.drewN nq)):=qe HB1.out (below_drewN (Below.refl _ _) _);have l9:Hid ((w1.drewN nq).ownsRow w.heap.size 178 1 (.slice av M cv) M (rD tk)):=C3 uw.out nq;have hz2:(w1.drewN nq).heap.size=wr.heap.size+1:=hz1;clear hput hcw0 uw HB1;generalize w1.drewN nq=w2 at *;have rU:Hid ((w2.alloc (.cells #[.int .u8 md] 178)).ownsRow w.heap.size 178 1 (.slice av M cv) M (rD tk)):=World.ownsRow.alloc l9.out _;have hc3:(w2.alloc (.cells #[.int .u8 md] 178)).cell? ⟨wr.heap.size+1,0,none⟩=some (.int .u8 md):=by rw[<-hz2];exact qc (dO w2 _).1 0
     have hz3:(w2.alloc (.cells #[.int .u8 md] 178)).heap.size=w2.heap.size+1:=by simp
     have HB3:Hid (Below w.heap.size w (w2.alloc (.cells #[.int .u8 md] 178))):=qe HB2.out (qd _ _)
     go_wp2_with (at_builtin;refine Rm rfl _ _ rfl w.heap.size _ M tk rfl rU.out (wr.heap.size+1) md rfl hc3 (by omega) (by rw[hz3];omega) ?_)
     intro v4 w4 hown4 nJ;have HB4:Hid (Below w.heap.size w w4):=HB3.out.grown nJ (by rw[hz3];omega) o8.out
     have uz:Hid (w4.ownsRow w.heap.size 178 1 v4 (tk++[md]).length (rD (tk++[md]))):=by
      show World.ownsRow _ _ _ _ _ _ _
      rw[List.length_append,Ac.out];exact hown4
     clear hown4 nJ hc3 rU;go_wp2
     go_roundw
     case rel=>
      refine⟨k+1,by omega,by go_num,⟨tk++[md],uz,?_,?_,?_⟩,HB4⟩
      ·show _=_
       rw[FD.out];rfl
      ·show _<=_
       rw[List.length_append,Ac.out];simp;omega
      ·intro x hx
       rcases List.mem_append.1 hx with hx|hx
       ·exact kz.out x hx
       ·simp at hx;omega
     case measure=>simp[intOf]<;>omega
  ·obtain rfl:k=len:=by omega
   have Ut:Hid (nV ts=PD ks):=by
    show _=_
    have:=HE.out
    rw[List.take_of_length_le (by have:=HLEN.out;omega)]at this
    exact RR this
   obtain⟨av,cv,rfl,_⟩:=qO HO.out bZ;by_cases h1:ks.length=1
   ·obtain⟨x,rfl⟩:∃x,ks=[x]:=by
     match ks,h1 with
     | [x],_=>exact⟨x,rfl⟩
    obtain⟨a',c',b',e',_,_,_,_⟩:=kq HO.out (m:=0) (Nat.zero_le _);obtain⟨a2,c2,e2,hI,_⟩:=fS (P:=prog) (T:=177) HO.out underlying177 Pz;injection e2 with e2 _ e3;subst e2 e3;obtain⟨⟨g0,o0,s0⟩,i0,c0⟩:=yY (n:=0) hI;have hx2:x<=2:=Ju.out x (by simp)
    have his:=fun w'=>qY x w' hx2
    have XD:Hid (nV ts=Au x 0):=Ut.out;clear Ut hI e' Ju HE HO rQ hll h1 hx2
    go_wp2_with (go_at_call 141;refine (his _).mono ?_;rintro e w' ⟨rfl,rfl⟩)
    go_ret
    exact⟨by rw[XD.out];rfl,HW.out⟩
   ·have h1':((ks.length:Int)==1)=false:=by rw[lu];omega
    have HZ:Hid (nV ts=false):=by
     show _=_
     rw[Ut.out]
     match ks,h1 with
     | [],_=>rfl
     | [_],h=>exact absurd rfl h
     |_::_::_,_=>rfl
    clear Ut;go_wp2;go_ret
    exact⟨by rw[HZ.out];rfl,HW.out⟩
theorem Ss(a:Option Addr)(len cap:Nat)(ts:List Tk)(w:World)(hT:bG w a len cap ts):Calls prog 93 #[.slice a len cap] w fun e w'=>e=.returned (.int .i64 (bM ts:Int))/\Below w.heap.size w w':=by
 have hlen:=hT.hlen;by_cases hl:2048<len
 ·have HC:Hid (bM ts=3):=by show _=_;unfold bM;rw[if_pos (by omega)]
  have hl':(2048:Int)<(len:Int):=by omega
  clear hT hlen;go_enter func93,ntmps93
  go_wp2;go_ret
  exact⟨by rw[HC.out];rfl,Below.refl _ _⟩
 ·have hl':¬(2048:Int)<(len:Int):=by omega
  have h1:=LN a len cap ts w hT (by omega)
  cases hf:dD false ts with
  |false=>
   have HC:Hid (bM ts=7):=by
    refine Xy (by omega) (fun h=>?_)
    rw[((NS ts).1 h).1]at hf;cases hf
   rw[hf]at h1;clear hT hlen hf;go_enter func93,ntmps93
   go_wp2_with (go_at_call 118;refine h1.mono ?_;rintro e w1 ⟨rfl,hb1⟩)
   go_ret
   exact⟨by rw[HC.out];rfl,hb1⟩
  |true=>
   have HT:Hid _:=hT;have HF:Hid _:=hf;rw[hf]at h1
   cases hk:nV ts with
   |false=>
    have HC:Hid (bM ts=7):=by
     refine Xy (by omega) (fun h=>?_)
     rw[((NS ts).1 h).2]at hk;cases hk
    have HK:Hid _:=hk;clear hT hlen hf hk;go_enter func93,ntmps93
    go_wp2_with (go_at_call 118;refine h1.mono ?_;rintro e w1 ⟨rfl,hb1⟩;have h2:=ky a len cap ts w1 (HT.out.up hb1) (by omega) HF.out;rw[HK.out]at h2)
    go_wp2_with (go_at_call 119;refine h2.mono ?_;rintro e w2 ⟨rfl,hb2⟩)
    go_ret
    exact⟨by rw[HC.out];rfl,qe hb1 hb2⟩
   |true=>
    have HC:Hid (bM ts=0):=LJ.2 ⟨by omega,(NS ts).2 ⟨hf,hk⟩⟩
    have HK:Hid _:=hk;clear hT hlen hf hk;go_enter func93,ntmps93
    go_wp2_with (go_at_call 118;refine h1.mono ?_;rintro e w1 ⟨rfl,hb1⟩;have h2:=ky a len cap ts w1 (HT.out.up hb1) (by omega) HF.out;rw[HK.out]at h2)
    go_wp2_with (go_at_call 119;refine h2.mono ?_;rintro e w2 ⟨rfl,hb2⟩)
    go_ret
    exact⟨by rw[HC.out];rfl,qe hb1 hb2⟩
theorem SD(z:Int)(w:World)(h0:0<=z)(h1:z<256):Calls prog 68 #[.int .i64 8,.int .u8 z] w fun e w'=>e=.returned (.bool true)/\w'=w:=by
 have hz:z / 256=0:=by omega
 go_enter func68,ntmps68
 go_wp2;go_ret
 exact⟨by simp,rfl⟩
theorem SJ(d:Option Addr)(m c:Nat)(zs:List Int)(w:World)(hL:lX w d m c zs):
  Calls prog 43 #[.int .i64 8,.slice d m c] w fun e w'=>e=.returned (.int .i64 (wU zs))/\Below w.heap.size w w':=by
 have hlen:=hL.sl.hlen;have hb0:=hL.sl.bd;have hb1:=hL.sl.hcap;unfold maxLen at hb0;have HL:=aX hL;clear hL;by_cases hm:1024<m
 ·have HE:Hid (wU zs=3):=if_pos (by omega)
  have SO:(1024:Int)<(m:Int):=by omega
  go_enter func43,ntmps43
  go_wp2;go_ret
  exact⟨by rw[HE.out];rfl,Below.refl _ _⟩
 ·have HE:Hid (wU zs=0):=if_neg (by omega)
  have SO:¬(1024:Int)<(m:Int):=by omega
  go_enter func43,ntmps43
  go_wp2
  go_loopw [15] (fun i wr=>∃k:Nat,k<=m/\i=.int .i64 k/\Hid (Below w.heap.size w wr)) (fun i _=>m-(intOf i).toNat)
  case atStart=>exact⟨0,Nat.zero_le _,rfl,Below.refl _ _⟩
  case round=>
   obtain⟨k,hk,rfl,HW⟩:=hrel;by_cases hlt:k<m
   ·have hLr:=HL.out.up HW.out
    have hi1:=fun w'=>hLr.sl.idx m k w' hlt bZ
    have hc1:=hLr.sl.cell k hlt
    have hzz:0<=zs.getD k 0/\zs.getD k 0<256:=by
     have:zs.getD k 0=zs[k]'(by omega):=by simp[List.getD_eq_getElem?_getD,show k<zs.length by omega]
     rw[this];exact hLr.ok _ (List.getElem_mem _)
    have hft:=SD (zs.getD k 0) wr hzz.1 hzz.2;generalize zs.getD k 0=z at *;clear hLr hzz
    go_wp2_with fail
    refine hft.mono ?_
    rintro e w2 ⟨rfl,rfl⟩
    go_wp2
    go_roundw
    case rel=>exact⟨k+1,by omega,by go_num,HW⟩
    case measure=>simp[intOf]<;>omega
   ·obtain rfl:k=m:=by omega
    go_wp2;go_ret
    exact⟨by rw[HE.out];rfl,HW.out⟩
end Go.Proofs.YtoioiellaomonaaGreatDoor
