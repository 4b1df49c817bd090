import Derived.Laws.Bits64b
import Derived.Lib.AppendZerosOnto
import Derived.Lib.LazyBuf
import Derived.Laws.BitsAllLaws
import Derived.Test.YtoioiellaomonaaGreatDoorZ02
import Derived.Test.YtoioiellaomonaaGreatDoorZ03
import Derived.Test.YtoioiellaomonaaGreatDoorZ04
import Derived.Test.YtoioiellaomonaaGreatDoorZ06
import Derived.Test.YtoioiellaomonaaGreatDoorZ07
set_option maxRecDepth 100000
set_option maxHeartbeats 16000000
namespace Go.Proofs.YtoioiellaomonaaGreatDoor
open Go.RowKit Go.Maps Proofs.Tryz
open Go.Sort (swp PermIn SortedIn xorNextN bitsLen)
def XB(w:World)(rb X:Nat):Prop:=w.heap[rb]? =some (.cells #[.int .u64 X] 197 (0,0))
theorem XB.ne{w:World}{g rb X:Nat}{d:Array Int}{t:List Int}(h:XB w rb X)(k:aA w g d t):g≠rb:=fun e=>by
 unfold XB at h;unfold aA at k;rw[<-e,k]at h;injection h with h;injection h with _ h _;exact absurd h (by decide)
theorem S4(rb X:Nat)(hX:X<18446744073709551616)(w:World)(h:XB w rb X):
  Calls prog 163 #[.pointer (some ⟨rb,0,none⟩)] w fun e w'=>∃Y:Nat,e=.returned (.int .u64 Y)/\Y<18446744073709551616/\XB w' rb Y/\w.grownBy w' (some rb):=by
 refine (AnyF.xorshift_Next SU rb 0 X hX w (qc h 0) (frozen_of_row w rb 0 _ _ h)).mono ?_
 rintro e w' ⟨rfl,rfl⟩
 refine⟨xorNextN X,rfl,Go.Sort.xorNextN_lt X hX,?_,qk (ql (World.grownBy.refl _ _) _) _⟩
 have hs:XB (w.setCell ⟨rb,0,none⟩ (.int .u64 (xorNextN X:Nat))) rb (xorNextN X):=by
  unfold XB;rw[heap_setCell_same _ rb 0 _ _ _ h];rfl
 exact((below_drewN (Below.refl _ (w.setCell ⟨rb,0,none⟩ (.int .u64 (xorNextN X:Nat)))) 3).block rb (lC hs).1).trans hs
theorem S5{L:Nat}(h:0<L):1<=1 <<< bitsLen L/\1 <<< bitsLen L<=2*L:=by
 unfold bitsLen;rw[if_neg (by omega),Nat.shiftLeft_eq,Nat.one_mul,Nat.pow_succ]
 have h1:=Nat.log2_self_le (n:=L) (by omega)
 have h2:=Nat.two_pow_pos L.log2
 omega
theorem S7(g c a b:Nat)(d:Array Int)(t:List Int)(w:World)(h:aA w g d t)(hab:a+12<b)(hb:b<=d.size)(hn:d.size<=1000000):
  Calls prog 152 #[.slice (some ⟨g,0,none⟩) d.size c,.int .i64 a,.int .i64 b] w fun e w'=>e=.returned (.tuple #[])/\∃d',PermIn a b d d'/\d'.size=d.size/\aA w' g d' t/\w.grownBy w' (some g):=by
 obtain⟨N,hN⟩:∃N,d.size=N:=⟨_,rfl⟩
 obtain⟨L,hL⟩:∃L,L=b-a:=⟨_,rfl⟩
 obtain⟨T,hT⟩:∃T,T=L / 4:=⟨_,rfl⟩
 obtain⟨T2,hT2⟩:∃T2,T2=T*2:=⟨_,rfl⟩
 obtain⟨J,hJ⟩:∃J,J=a+T2:=⟨_,rfl⟩
 obtain⟨J0,hJ0⟩:∃J0,J0=J-1:=⟨_,rfl⟩
 obtain⟨J1,hJ1⟩:∃J1,J1=J+1:=⟨_,rfl⟩
 obtain⟨M,hM⟩:∃M,M=1 <<< bitsLen L:=⟨_,rfl⟩
 obtain⟨M1,hM1⟩:∃M1,M1=M-1:=⟨_,rfl⟩
 have hpw:=S5 (L:=L) (by omega)
 rw[<-hM]at hpw;have ou:=aX h;have HD0:=aX hN;have wL:IntKind.i64.wrap ((b:Int)-(a:Int))=(L:Int):=by rw[IntKind.wrap_i64];omega
 have eL:(b:Int)-(a:Int)=(L:Int):=by omega
 have h8:((8:Int)<=(L:Int)):=by omega
 have tT:((L:Int)).tdiv 4=(T:Int):=by rw[Int.tdiv_eq_ediv_of_nonneg (by omega)];omega
 have N3:IntKind.i64.wrap ((T:Int)*2)=(T2:Int):=by rw[IntKind.wrap_i64];omega
 have N4:(T:Int)*2=(T2:Int):=by omega
 have wJ:IntKind.i64.wrap ((a:Int)+(T2:Int))=(J:Int):=by rw[IntKind.wrap_i64];omega
 have eJ:(a:Int)+(T2:Int)=(J:Int):=by omega
 have wJ0:IntKind.i64.wrap ((J:Int)-1)=(J0:Int):=by rw[IntKind.wrap_i64];omega
 have eJ0:(J:Int)-1=(J0:Int):=by omega
 have wJ1:IntKind.i64.wrap ((J:Int)+1)=(J1:Int):=by rw[IntKind.wrap_i64];omega
 have eJ1:(J:Int)+1=(J1:Int):=by omega
 have wX:IntKind.u64.wrap (L:Int)=(L:Int):=by rw[IntKind.wrap_u64];omega
 have wM:IntKind.u64.wrap ((M:Int)-1)=(M1:Int):=by rw[IntKind.wrap_u64];omega
 have eM:(M:Int)-1=(M1:Int):=by omega
 have wM1:IntKind.u64.wrap (M1:Int)=(M1:Int):=by rw[IntKind.wrap_u64];omega
 have HF:Hid (a<=J0/\J1<b/\J1=J0+2/\M1<2*L/\L=b-a/\M1<2000000):=⟨by omega,by omega,by omega,by omega,by omega,by omega⟩
 have hnp:=S0 L (by omega)
 rw[<-hM]at hnp;have hb1:=qd w (.cells #[.int .u64 L] 197);have kO:Hid (XB (w.alloc (.cells #[.int .u64 L] 197)) w.heap.size L):=(dO w _).1;have uo:Hid (aA (w.alloc (.cells #[.int .u64 L] 197)) g d t):=(hb1.block g h.lt).trans h;have uq:Hid (w.grownBy (w.alloc (.cells #[.int .u64 L] 197)) (some g)):=⟨hb1.os,hb1.tape,hb1.output,hb1.size,fun j hj _=>hb1.block j hj⟩
 have k6:Hid (PermIn a b d d):=Go.Sort.permIn_refl d a b;have HB:=aX hb;rw[hN]at hb hn ⊢;have XE:L<=1000000:=by omega
 have hTb:T<=1000000:=by omega
 have S8:T2<=2000000:=by omega
 have hJb:J<=3000000:=by omega
 have hJp:1<=J:=by omega
 clear h hN hL hT hT2 hJ hJ0 hJ1 hM hM1 hpw hb1;go_enter func152,ntmps152
 go_wp2_with fail
 generalize w.alloc (.cells #[.int .u64 L] 197)=w1 at *;refine (hnp w1).mono ?_
 rintro e w2 ⟨rfl,hw2⟩
 obtain rfl:=hw2.symm
 clear hnp;go_wp2
 go_loopw [9] (fun iv wr=>∃i:Nat,J0<=i/\i<=J1+1/\iv=.int .i64 i/\∃(dk:Array Int) (X:Nat),Hid (dk.size=N)/\Hid (aA wr g dk t)/\Hid (PermIn a b d dk)/\Hid (XB wr w.heap.size X)/\Hid (X<18446744073709551616)/\Hid (w.grownBy wr (some g))) (fun iv _=>J1+1-(intOf iv).toNat)
 case atStart=>exact⟨J0,bZ,by have:=HF.out;omega,by first|rfl|go_num,d,L,HD0,uo,k6,kO,by show _<_;omega,uq⟩
 case round=>
  obtain⟨i,hi1,hi2,rfl,dk,X,HD,HS,HP,HX,k9,HG⟩:=hrel;clear HD0 uo k6 kO uq ou;by_cases hij:i<=J1
  ·have hij':(i:Int)<=(J1:Int):=by omega
   have hne:=XB.ne HX.out HS.out;have hnx:=S4 w.heap.size X k9.out wr HX.out
   go_wp2_with fail
   refine hnx.mono ?_
   rintro e w3 ⟨Y,rfl,hY,hx3,hg3⟩
   have lS:Hid (aA w3 g dk t):=aA.grown HS.out hg3 hne;have OI:=aX hx3;have HY:=aX hY
   have nG:Hid (w.grownBy w3 (some g)):=by
    have h1:=HG.out;exact⟨hg3.os.trans h1.os,hg3.tape.trans h1.tape,hg3.output.trans h1.output,Nat.le_trans h1.size hg3.size,fun j hj hn=>(hg3.block j (Nat.lt_of_lt_of_le hj h1.size) (fun e=>by injection e with e;omega)).trans (h1.block j hj hn)⟩
   clear hnx hx3 hg3 HS HG HX k9;have hF:=HF.out;obtain⟨O,hO⟩:∃O,O=Y &&& M1:=⟨_,rfl⟩
   have hOM:O<=M1:=by rw[hO];exact Nat.and_le_right
   have hand:bits BinOp.and IntKind.u64 (Y:Int) (M1:Int)=(O:Int):=by rw[bits_and_u64_nat Y M1 hY (by omega),hO]
   have wO:IntKind.i64.wrap (O:Int)=(O:Int):=by rw[IntKind.wrap_i64];omega
   clear hO hY;by_cases hOL:L<=O
   ·have XF:(L:Int)<=(O:Int):=by omega
    obtain⟨O2,hO2⟩:∃O2,O2=O-L:=⟨_,rfl⟩
    have wO2:IntKind.i64.wrap ((O:Int)-(L:Int))=(O2:Int):=by rw[IntKind.wrap_i64];omega
    have eO2:(O:Int)-(L:Int)=(O2:Int):=by omega
    obtain⟨Q,hQ⟩:∃Q,Q=a+O2:=⟨_,rfl⟩
    have wQ:IntKind.i64.wrap ((a:Int)+(O2:Int))=(Q:Int):=by rw[IntKind.wrap_i64];omega
    have eQ:(a:Int)+(O2:Int)=(Q:Int):=by omega
    have XG:a<=Q:=by omega
    have hQ2:Q<b:=by omega
    clear hO2 hQ;have Eu:Hid (PermIn a b d (swp dk i Q)):=Go.Sort.permIn_trans _ _ _ _ _ HP.out (Go.Sort.swp_permIn dk a b i Q (by omega) (by omega) XG hQ2 (by rw[HD.out];omega))
    have hib:i<b:=by omega
    clear HP hF;go_wp2;have hi1:=fun w'=>qh g N c i w' (by omega)
    have hi2:=fun w'=>qh g N c Q w' (by omega)
    have hsw:aA w3 g dk t:=lS.out;have c3:=hsw.cell (i:=i) (by rw[HD.out];omega)
    have c4:=hsw.cell (i:=Q) (by rw[HD.out];omega)
    have f3:=hsw.fz i;have f4:=hsw.fz Q;have dK:aA (w3.setCell ⟨g,i,none⟩ (.int .u64 dk[Q]!)) g (dk.setIfInBounds i dk[Q]!) t:=hsw.set (by rw[HD.out];omega) _
    have f5:=dK.fz Q;have c5:=dK.cell (i:=Q) (by rw[Array.size_setIfInBounds,HD.out];omega)
    have sG:Hid (aA ((w3.setCell ⟨g,i,none⟩ (.int .u64 dk[Q]!)).setCell ⟨g,Q,none⟩ (.int .u64 dk[i]!)) g (swp dk i Q) t):=hsw.swap (by rw[HD.out];omega) (by rw[HD.out];omega)
    have sH:Hid (w.grownBy ((w3.setCell ⟨g,i,none⟩ (.int .u64 dk[Q]!)).setCell ⟨g,Q,none⟩ (.int .u64 dk[i]!)) (some g)):=ql (ql nG.out _) _;have HD7:Hid ((swp dk i Q).size=N):=by show _=_;rw[Go.Sort.size_swp];exact HD.out
    have XH:Hid (XB ((w3.setCell ⟨g,i,none⟩ (.int .u64 dk[Q]!)).setCell ⟨g,Q,none⟩ (.int .u64 dk[i]!)).drew w.heap.size Y):=(Below.heap_setCell _ _ _ _ (fun e=>hne e.symm)).trans ((Below.heap_setCell _ _ _ _ (fun e=>hne e.symm)).trans OI.out)
    clear hsw dK;generalize (dk.setIfInBounds i dk[Q]!)[Q]! = AA at *;generalize dk[i]! = xi at *;generalize dk[Q]! = xj at *
    go_upto_region 15 with fail
    go_region
    all_goals
     have zZ:Hid (aA ((w3.setCell ⟨g,i,none⟩ (.int .u64 xj)).setCell ⟨g,Q,none⟩ (.int .u64 xi)).drew g (swp dk i Q) t):=aA.drew sG.out;have wR:Hid (w.grownBy ((w3.setCell ⟨g,i,none⟩ (.int .u64 xj)).setCell ⟨g,Q,none⟩ (.int .u64 xi)).drew (some g)):=qA sH.out;clear sG sH c3 c4 f3 f4 f5 c5 hi1 hi2;generalize ((w3.setCell ⟨g,i,none⟩ (.int .u64 xj)).setCell ⟨g,Q,none⟩ (.int .u64 xi)).drew=w7 at *;generalize swp dk i Q=d7 at *;have XI:Hid (XB w7 w.heap.size Y):=XH.out;go_wp2
     go_roundw
     case rel=>exact⟨i+1,by omega,by omega,by go_num,d7,Y,HD7,zZ,Eu,XI,HY,wR⟩
     case measure=>simp[intOf];omega
   ·have XF:¬(L:Int)<=(O:Int):=by omega
    obtain⟨Q,hQ⟩:∃Q,Q=a+O:=⟨_,rfl⟩
    have wQ:IntKind.i64.wrap ((a:Int)+(O:Int))=(Q:Int):=by rw[IntKind.wrap_i64];omega
    have eQ:(a:Int)+(O:Int)=(Q:Int):=by omega
    have XG:a<=Q:=by omega
    have hQ2:Q<b:=by omega
    clear hQ;have Eu:Hid (PermIn a b d (swp dk i Q)):=Go.Sort.permIn_trans _ _ _ _ _ HP.out (Go.Sort.swp_permIn dk a b i Q (by omega) (by omega) XG hQ2 (by rw[HD.out];omega))
    have hib:i<b:=by omega
    clear HP hF;go_wp2;have hi1:=fun w'=>qh g N c i w' (by omega)
    have hi2:=fun w'=>qh g N c Q w' (by omega)
    have hsw:aA w3 g dk t:=lS.out;have c3:=hsw.cell (i:=i) (by rw[HD.out];omega)
    have c4:=hsw.cell (i:=Q) (by rw[HD.out];omega)
    have f3:=hsw.fz i;have f4:=hsw.fz Q;have dK:aA (w3.setCell ⟨g,i,none⟩ (.int .u64 dk[Q]!)) g (dk.setIfInBounds i dk[Q]!) t:=hsw.set (by rw[HD.out];omega) _
    have f5:=dK.fz Q;have c5:=dK.cell (i:=Q) (by rw[Array.size_setIfInBounds,HD.out];omega)
    have sG:Hid (aA ((w3.setCell ⟨g,i,none⟩ (.int .u64 dk[Q]!)).setCell ⟨g,Q,none⟩ (.int .u64 dk[i]!)) g (swp dk i Q) t):=hsw.swap (by rw[HD.out];omega) (by rw[HD.out];omega)
    have sH:Hid (w.grownBy ((w3.setCell ⟨g,i,none⟩ (.int .u64 dk[Q]!)).setCell ⟨g,Q,none⟩ (.int .u64 dk[i]!)) (some g)):=ql (ql nG.out _) _;have HD7:Hid ((swp dk i Q).size=N):=by show _=_;rw[Go.Sort.size_swp];exact HD.out
    have XH:Hid (XB ((w3.setCell ⟨g,i,none⟩ (.int .u64 dk[Q]!)).setCell ⟨g,Q,none⟩ (.int .u64 dk[i]!)).drew w.heap.size Y):=(Below.heap_setCell _ _ _ _ (fun e=>hne e.symm)).trans ((Below.heap_setCell _ _ _ _ (fun e=>hne e.symm)).trans OI.out)
    clear hsw dK;generalize (dk.setIfInBounds i dk[Q]!)[Q]! = AA at *;generalize dk[i]! = xi at *;generalize dk[Q]! = xj at *
    go_upto_region 15 with fail
    go_region
    all_goals
     have zZ:Hid (aA ((w3.setCell ⟨g,i,none⟩ (.int .u64 xj)).setCell ⟨g,Q,none⟩ (.int .u64 xi)).drew g (swp dk i Q) t):=aA.drew sG.out;have wR:Hid (w.grownBy ((w3.setCell ⟨g,i,none⟩ (.int .u64 xj)).setCell ⟨g,Q,none⟩ (.int .u64 xi)).drew (some g)):=qA sH.out;clear sG sH c3 c4 f3 f4 f5 c5 hi1 hi2;generalize ((w3.setCell ⟨g,i,none⟩ (.int .u64 xj)).setCell ⟨g,Q,none⟩ (.int .u64 xi)).drew=w7 at *;generalize swp dk i Q=d7 at *;have XI:Hid (XB w7 w.heap.size Y):=XH.out;go_wp2
     go_roundw
     case rel=>exact⟨i+1,by omega,by omega,by go_num,d7,Y,HD7,zZ,Eu,XI,HY,wR⟩
     case measure=>simp[intOf];omega
  ·have hij':¬(i:Int)<=(J1:Int):=by omega
   go_wp2
   go_end0
   exact⟨rfl,dk,HP.out,HD.out,HS.out,HG.out⟩
end Go.Proofs.YtoioiellaomonaaGreatDoor
namespace Go.Proofs.YtoioiellaomonaaGreatDoor
open Go.RowKit Go.Maps Proofs.Tryz
open Go.Sort (swp PermIn SortedIn)
def Jv(n:Nat):Prop:=∀(g c a b lim:Nat)(d:Array Int)(t:List Int)(w:World),aA w g d t->a<=b->b<=d.size->d.size<=1000000->lim<=64->b-a<n->Go.Sort.Below aF a b d ->
 Calls prog 147 #[.slice (some ⟨g,0,none⟩) d.size c,.int .i64 a,.int .i64 b,.int .i64 lim] w fun e w'=>e=.returned (.tuple #[])/\∃d',PermIn a b d d'/\SortedIn aF a b d'/\aA w' g d' t/\w.grownBy w' (some g)
theorem Ta{w w':World}(h:w.grownBy w' none)(g:Nat):w.grownBy w' (some g):=⟨h.os,h.tape,h.output,h.size,fun j hj _=>h.block j hj (fun e=>by cases e)⟩
theorem TC(n:Nat)(IH:Jv n):Jv (n+1):=by
 intro g c a0 b0 XJ d0 t w h hab hb hn hlim hlt hB;obtain⟨N,hN⟩:∃N,d0.size=N:=⟨_,rfl⟩
 have ou:=aX h;have HD0:=aX hN;have vS:Hid (w.grownBy w (some g)):=World.grownBy.refl _ _;have lh:Hid (PQ a0 b0 a0 b0 d0 d0):=P3 hab hB;have Ez:=aX hb;have HIH:=aX IH;have iy:Hid (∀(a b:Nat)(d d':Array Int)(w':World),PQ a0 b0 a b d0 d->PermIn a b d d'->SortedIn aF a b d'->aA w' g d' t->w.grownBy w' (some g)->∃d',PermIn a0 b0 d0 d'/\SortedIn aF a0 b0 d'/\aA w' g d' t/\w.grownBy w' (some g)):=fun a b d d' w' hq hp hs h1 h2=>⟨d',hq.up hb hp,hq.fin d' hp hs,h1,h2⟩
 rw[hN]at hb hn ⊢;clear h hN hB IH;go_enter func147,ntmps147
 go_wp2
 go_loopw [1,2,3,8,9] (fun av bv lv TE TR wr=>∃(a b lim:Nat) (f1 f2:Bool),av=.int .i64 a/\bv=.int .i64 b/\lv=.int .i64 lim/\TE=.bool f1/\TR=.bool f2/\lim<=64/\∃dk:Array Int,Hid (dk.size=N)/\Hid (aA wr g dk t)/\Hid (PQ a0 b0 a b d0 dk)/\Hid (w.grownBy wr (some g))) (fun av bv _ _ _ _=>(intOf bv-intOf av).toNat)
 case atStart=>exact⟨a0,b0,XJ,true,true,rfl,rfl,rfl,rfl,rfl,hlim,d0,HD0,ou,lh,vS⟩
 case round=>
  obtain⟨a,b,lim,f1,f2,rfl,rfl,rfl,rfl,rfl,hlm,dk,HD,HS,HQ,HG⟩:=hrel;clear ou HD0 vS lh;have q1:=HQ.out.a1;have q2:=HQ.out.ab;have q3:=HQ.out.b1;obtain⟨L,hL⟩:∃L,L=b-a:=⟨_,rfl⟩
  have wL:IntKind.i64.wrap ((b:Int)-(a:Int))=(L:Int):=by rw[IntKind.wrap_i64];omega
  have eL:(b:Int)-(a:Int)=(L:Int):=by omega
  have HL:=aX hL;by_cases h12:L<=12
  ·have XK:(L:Int)<=12:=by omega
   have hins:=K5 g c a b dk t wr HS.out q2 (by rw[HD.out];omega) (by rw[HD.out];omega)
   have HI:Hid _:=Go.Sort.insertionSort_holds oI dk a b q2 (by rw[HD.out];omega)
   rw[HD.out]at hins;clear hL
   go_wp2_with fail
   refine hins.mono ?_
   rintro e w1 ⟨rfl,hs1,hg1⟩
   have HZ:Hid _:=iy.out a b dk _ w1 HQ.out HI.out.1 HI.out.2 hs1 (qI HG.out hg1);clear hins hs1 hg1;go_wp2;refine bodyPost_ret (results_none rfl _ _ _) rfl ?_
   exact⟨rfl,HZ.out⟩
  ·have XK:¬(L:Int)<=12:=by omega
   have Ia:a+12<b:=by omega
   by_cases hl0:lim=0
   ·have hl0':((lim:Int)==0)=true:=by rw[beq_iff_eq];omega
    have XL:=K8 g c a b dk t wr HS.out (by omega) (by rw[HD.out];omega) (by rw[HD.out];omega)
    have HI:Hid _:=Go.Sort.heapSort_holds oI dk a b q2 (by rw[HD.out];omega)
    rw[HD.out]at XL;clear hL hl0
    go_wp2_with fail
    refine XL.mono ?_
    rintro e w1 ⟨rfl,hs1,hg1⟩
    have HZ:Hid _:=iy.out a b dk _ w1 HQ.out HI.out.1 HI.out.2 hs1 (qI HG.out hg1);clear XL hs1 hg1;go_wp2;refine bodyPost_ret (results_none rfl _ _ _) rfl ?_
    exact⟨rfl,HZ.out⟩
   ·have hl0':((lim:Int)==0)=false:=by rw[lu];omega
    obtain⟨lm,XM⟩:∃lm,lm=lim-1:=⟨_,rfl⟩
    have TX:IntKind.i64.wrap ((lim:Int)-1)=(lm:Int):=by rw[IntKind.wrap_i64];omega
    have T8:(lim:Int)-1=(lm:Int):=by omega
    have PL:lm<=64:=by omega
    have hbr:=S7 g c a b dk t wr HS.out Ia (by rw[HD.out];omega) (by rw[HD.out];omega)
    rw[HD.out]at hbr;clear hL hl0 XM
    go_upto_if 35 with fail
    go_cut [3] (fun lv wx=>∃l1:Nat,lv=.int .i64 l1/\l1<=64/\∃d1:Array Int,Hid (d1.size=N)/\Hid (aA wx g d1 t)/\Hid (PQ a0 b0 a b d0 d1)/\Hid (w.grownBy wx (some g)))
    case first=>
     cases f1 with
     |true=>
      go_wp2
      go_meet
      case rel=>exact⟨lim,rfl,hlm,dk,HD,HS,HQ,HG⟩
     |false=>
      go_wp2_with fail
      refine hbr.mono ?_
      rintro e w1 ⟨rfl,d1,hp1,hz1,hs1,hg1⟩
      have FH:Hid (PQ a0 b0 a b d0 d1):=HQ.out.move Ez.out hp1;have uo:=aX hs1;have HD1:=aX hz1;have uq:Hid (w.grownBy w1 (some g)):=qI HG.out hg1;clear hbr hp1 hz1 hs1 hg1;go_wp2
      go_meet
      case rel=>exact⟨lm,rfl,PL,d1,HD1,uo,FH,uq⟩
    case rest=>
     obtain⟨l1,rfl,hl1,d1,HD1,uo,FH,uq⟩:=hcut;clear hbr HD HS HQ HG TX T8 hl0' PL;generalize wc=w1 at *;have hch:=NL g c a b d1 t w1 uo.out Ia (by rw[HD1.out];omega) (by rw[HD1.out];omega)
     rw[HD1.out]at hch
     go_wp2_with fail
     refine hch.mono ?_
     rintro e w2 ⟨q,k,rfl,hqa,PN,hk,hs2,hg2⟩
     have HS2:=aX hs2;have HG2:Hid (w.grownBy w2 (some g)):=qI uq.out (Ta hg2 g);clear hch hs2 hg2 uo uq;obtain⟨b1,hb1⟩:∃b1,b1=b-1:=⟨_,rfl⟩
     obtain⟨qa,XO⟩:∃qa,qa=q-a:=⟨_,rfl⟩
     obtain⟨q1,hqq⟩:∃q1,q1=b1-qa:=⟨_,rfl⟩
     have T9:IntKind.i64.wrap ((b:Int)-1)=(b1:Int):=by rw[IntKind.wrap_i64];omega
     have Up:(b:Int)-1=(b1:Int):=by omega
     have UB:IntKind.i64.wrap ((q:Int)-(a:Int))=(qa:Int):=by rw[IntKind.wrap_i64];omega
     have UI:(q:Int)-(a:Int)=(qa:Int):=by omega
     have UP:IntKind.i64.wrap ((b1:Int)-(qa:Int))=(q1:Int):=by rw[IntKind.wrap_i64];omega
     have UT:(b1:Int)-(qa:Int)=(q1:Int):=by omega
     have PO:a<=q1:=by omega
     have PS:q1<b:=by omega
     have Uu:=K7 g c a b d1 t w2 HS2.out q2 (by rw[HD1.out];omega) (by rw[HD1.out];omega)
     have XP:Hid _:=Go.Sort.reverseRange_holds d1 a b q2 (by rw[HD1.out];omega)
     rw[HD1.out]at Uu;clear hb1 XO hqq
     go_upto_if 50 with fail
     go_cut [11,12] (fun qv kv wx=>∃q k:Nat,qv=.int .i64 q/\kv=.int .i64 k/\a<=q/\q<b/\k<=2/\∃d1:Array Int,Hid (d1.size=N)/\Hid (aA wx g d1 t)/\Hid (PQ a0 b0 a b d0 d1)/\Hid (w.grownBy wx (some g)))
     case first=>
      by_cases hk2:k=2
      ·have XQ:((k:Int)==2)=true:=by rw[beq_iff_eq];omega
       clear hk2
       go_wp2_with fail
       refine Uu.mono ?_
       rintro e w3 ⟨rfl,hs3,hg3⟩
       have FI:Hid (PQ a0 b0 a b d0 (Go.Sort.reverseRange d1 a b)):=FH.out.move Ez.out XP.out;have lS:=aX hs3;have HD3:Hid ((Go.Sort.reverseRange d1 a b).size=N):=XP.out.1.trans HD1.out;have nG:Hid (w.grownBy w3 (some g)):=qI HG2.out hg3;clear Uu hs3 hg3
       go_wp2_with fail
       go_meet
       case rel=>exact⟨q1,1,rfl,rfl,PO,PS,by omega,_,HD3,lS,FI,nG⟩
      ·have XQ:((k:Int)==2)=false:=by rw[lu];omega
       clear hk2
       go_wp2_with fail
       go_meet
       case rel=>exact⟨q,k,rfl,rfl,hqa,PN,hk,d1,HD1,HS2,FH,HG2⟩
     case rest=>
      clear Uu XP T9 Up UB UI UP UT PO PS HD1 HS2 FH HG2 hqa PN hk;obtain⟨q,k,rfl,rfl,hqa,PN,hk,d2,HD2,HS2,mG,HG2⟩:=hcut;generalize wc=w3 at *
      go_upto_region 15 with fail
      go_cut [68] (fun cv wx=>cv=.bool (f1&&f2&&((k:Int)==1))/\wx=w3)
      case first=>
       cases f1<;>cases f2<;>(go_wp2_with fail;go_meet;exact⟨rfl,rfl⟩)
      case rest=>
       obtain⟨rfl,rfl⟩:=hcut;generalize (f1&&f2&&((k:Int)==1))=y at *;generalize wc=w4 at *;have hpi:=Pl g c a b d2 t w4 HS2.out (by omega) (by rw[HD2.out];omega) (by rw[HD2.out];omega)
       have PU:Hid _:=Go.Sort.partialInsertionSort_holds oI d2 a b (by omega) (by rw[HD2.out];omega) mG.out.bel
       rw[HD2.out]at hpi;generalize Go.Sort.partialInsertionSort aF d2 a b=R at *;obtain⟨R1,R2⟩:=R
       go_upto_if 68 with fail
       go_cut [12] (fun kv wx=>kv=.int .i64 k/\∃d1:Array Int,Hid (d1.size=N)/\Hid (aA wx g d1 t)/\Hid (PQ a0 b0 a b d0 d1)/\Hid (w.grownBy wx (some g)))
       case first=>
        cases y with
        |false=>
         go_wp2_with fail
         go_meet
         case rel=>exact⟨rfl,d2,HD2,HS2,mG,HG2⟩
        |true=>
         go_wp2_with fail
         refine hpi.mono ?_
         rintro e w5 ⟨rfl,hs5,hg5⟩
         have nH:=aX hs5;have nI:Hid (w.grownBy w5 (some g)):=qI HG2.out hg5;clear hpi hs5 hg5
         cases R2 with
         |true=>
          have HZ:Hid _:=iy.out a b d2 _ w5 mG.out PU.out.1 (PU.out.2 rfl) nH.out nI.out
          go_wp2_with fail
          refine bodyPost_ret (results_none rfl _ _ _) rfl ?_
          exact⟨rfl,HZ.out⟩
         |false=>
          have UX:Hid (PQ a0 b0 a b d0 R1):=mG.out.move Ez.out PU.out.1;have HD5:Hid (R1.size=N):=PU.out.1.1.trans HD2.out
          go_wp2_with fail
          go_meet
          case rel=>exact⟨rfl,R1,HD5,nH,UX,nI⟩
       case rest=>
        clear hpi PU HD2 HS2 mG HG2;obtain⟨rfl,d3,HD3,lS,FI,nG⟩:=hcut;generalize wc=w5 at *;obtain⟨am,ham⟩:∃am,am=a-1:=⟨_,rfl⟩
        have lj:=aX ham;obtain⟨y2,hy2⟩:∃y2:Bool,y2=(decide (0<a) && !aF d3[am]! d3[q]!):=⟨_,rfl⟩
        have HY:=aX hy2;clear hy2
        go_upto_region 17 with fail
        go_cut [87] (fun cv wx=>cv=.bool y2/\Hid (aA wx g d3 t)/\Hid (w.grownBy wx (some g)))
        case first=>
         by_cases hij:0<a
         ·have hd:decide ((0:Int)<(a:Int))=true:=decide_eq_true (by omega)
          have wam:IntKind.i64.wrap ((a:Int)-1)=(am:Int):=by rw[IntKind.wrap_i64];omega
          have eam:(a:Int)-1=(am:Int):=by omega
          have j1:=fun w'=>qh g N c am w' (by omega)
          have j2:=fun w'=>qh g N c q w' (by omega)
          have hsw:aA w5 g d3 t:=lS.out;have c3:=hsw.cell (i:=am) (by rw[HD3.out];omega)
          have c4:=hsw.cell (i:=q) (by rw[HD3.out];omega)
          have hless:=fun w'=>qp d3[am]! d3[q]! w'
          have oK:Hid (y2=!(aF d3[am]! d3[q]!)):=by
           show _=_
           rw[HY.out,decide_eq_true hij];rfl
          clear hsw HY ham;generalize aF d3[am]! d3[q]! = lv at *;generalize d3[am]! = xv at *;generalize d3[q]! = xa at *;obtain rfl:=oK.out
          go_quiet ((go_at_call 156;exact Calls.quiet_of_same (hless _)))
          go_wp2_with fail
          go_meet
          case rel=>exact⟨rfl,aA.drewN lS.out _,qk nG.out _⟩
         ·have hd:decide ((0:Int)<(a:Int))=false:=decide_eq_false (by omega)
          have oK:Hid (y2=false):=by
           show _=_
           rw[HY.out,decide_eq_false hij];rfl
          clear HY ham;obtain rfl:=oK.out
          go_quiet (fail)
          go_wp2_with fail
          go_meet
          case rel=>exact⟨rfl,aA.drewN lS.out _,qk nG.out _⟩
        case rest=>
         clear lS nG ham;obtain⟨rfl,lS,nG⟩:=hcut;generalize wc=w6 at *
         cases y2 with
         |true=>
          have ll:Hid (0<a/\aF d3[a-1]! d3[q]! = false):=by
           have h0:=HY.out;rw[lj.out]at h0;simp only[Bool.true_eq,Bool.and_eq_true,decide_eq_true_eq,Bool.not_eq_true']at h0
           exact h0
          have hpe:=LL g c a b q d3 t w6 lS.out (by omega) (by rw[HD3.out];omega) hqa PN (by rw[HD3.out];omega)
          rw[HD3.out]at hpe
          go_wp2_with fail
          refine hpe.mono ?_
          rintro e w7 ⟨m,d4,rfl,hP,hs7,uS⟩
          have Vi:Hid (PQ a0 b0 m b d0 d4):=FI.out.eq Ez.out ll.out.1 ll.out.2 hP;have HD7:Hid (d4.size=N):=hP.sz.trans HD3.out;have zZ:=aX hs7;have wR:Hid (w.grownBy w7 (some g)):=qI nG.out uS;have hm1:=hP.ma;have hm2:=hP.mb;clear hpe hP hs7 uS
          go_wp2_with fail
          go_roundw
          case rel=>exact⟨m,b,l1,f1,f2,rfl,rfl,rfl,rfl,rfl,hl1,d4,HD7,zZ,Vi,wR⟩
          case measure=>simp[intOf];omega
         |false=>
          have hpt:=Lt g c a b q d3 t w6 lS.out (by omega) (by rw[HD3.out];omega) hqa PN (by rw[HD3.out];omega)
          rw[HD3.out]at hpt;clear HY lj
          go_wp2_with fail
          refine hpt.mono ?_
          rintro e w7 ⟨m,f,d4,rfl,hP,hs7,uS⟩
          have HP:=aX hP;have HD7:Hid (d4.size=N):=hP.sz.trans HD3.out;have zZ:=aX hs7;have wR:Hid (w.grownBy w7 (some g)):=qI nG.out uS;have hm1:=hP.ma;have hm2:=hP.mb;obtain⟨la,hla⟩:∃la,la=m-a:=⟨_,rfl⟩
          obtain⟨lb,hlb⟩:∃lb,lb=b-m:=⟨_,rfl⟩
          obtain⟨T,hT⟩:∃T,T=L / 8:=⟨_,rfl⟩
          obtain⟨ms,hms⟩:∃ms,ms=m+1:=⟨_,rfl⟩
          have wla:IntKind.i64.wrap ((m:Int)-(a:Int))=(la:Int):=by rw[IntKind.wrap_i64];omega
          have ela:(m:Int)-(a:Int)=(la:Int):=by omega
          have wlb:IntKind.i64.wrap ((b:Int)-(m:Int))=(lb:Int):=by rw[IntKind.wrap_i64];omega
          have elb:(b:Int)-(m:Int)=(lb:Int):=by omega
          have tT:((L:Int)).tdiv 8=(T:Int):=by rw[Int.tdiv_eq_ediv_of_nonneg (by omega)];omega
          have wms:IntKind.i64.wrap ((m:Int)+1)=(ms:Int):=by rw[IntKind.wrap_i64];omega
          have ems:(m:Int)+1=(ms:Int):=by omega
          have lp:=aX hms
          have hBl:Go.Sort.Below aF a m d4:=by
           rcases (FI.out.move Ez.out hP.perm).bel with k0|k0
           ·exact Or.inl k0
           ·exact Or.inr fun i k1 k2=>k0 i k1 (by omega)
          have hBr:Go.Sort.Below aF ms b d4:=by
           rw[hms];exact Or.inr fun i k1 k2=>by rw[show m+1-1=m by omega];exact hP.hi i (by omega) k2
          have hcl:=HIH.out g c a m l1 d4 t w7 hs7 hm1 (by rw[HD7.out];omega) (by rw[HD7.out];omega) hl1 (by omega) hBl
          have hcr:=HIH.out g c ms b l1 d4 t w7 hs7 (by omega) (by rw[HD7.out];omega) (by rw[HD7.out];omega) hl1 (by omega) hBr
          rw[HD7.out]at hcl hcr;clear hpt hP hs7 uS hBl hBr hla hlb hT hms;by_cases hlt2:la<lb
          ·have PV:(la:Int)<(lb:Int):=by omega
           clear hcr
           go_wp2_with fail
           refine hcl.mono ?_
           rintro e w8 ⟨rfl,d5,xZ,hs5,hs8,PW⟩
           have XR:Hid (PQ a0 b0 ms b d0 d5):=by
            rw[lp.out];exact FI.out.left Ez.out HP.out xZ hs5
           have Ul:Hid (d5.size=N):=xZ.1.trans HD7.out;have OV:=aX hs8;have OW:Hid (w.grownBy w8 (some g)):=qI wR.out PW;clear hcl xZ hs5 hs8 PW
           go_wp2_with fail
           go_roundw
           case rel=>exact⟨ms,b,l1,_,f,rfl,rfl,rfl,rfl,rfl,hl1,d5,Ul,OV,XR,OW⟩
           case measure=>simp[intOf];omega
          ·have PV:¬(la:Int)<(lb:Int):=by omega
           clear hcl
           go_wp2_with fail
           refine hcr.mono ?_
           rintro e w8 ⟨rfl,d5,xZ,hs5,hs8,PW⟩
           have XR:Hid (PQ a0 b0 a m d0 d5):=by
            rw[lp.out]at xZ hs5;exact FI.out.right Ez.out HP.out xZ hs5
           have Ul:Hid (d5.size=N):=xZ.1.trans HD7.out;have OV:=aX hs8;have OW:Hid (w.grownBy w8 (some g)):=qI wR.out PW;clear hcr xZ hs5 hs8 PW
           go_wp2_with fail
           go_roundw
           case rel=>exact⟨a,m,l1,_,f,rfl,rfl,rfl,rfl,rfl,hl1,d5,Ul,OV,XR,OW⟩
           case measure=>simp[intOf];omega
theorem Vn(n:Nat):Jv n:=by
 induction n with
 |zero=>intro g c a b lim d t w h hab hb hn hl hlt;omega
 |succ n ih=>exact TC n ih
theorem Vv(x:Nat):Go.Lib.bitLen x<=64:=by
 have h:∀f x,Go.Lib.bitLenAux f x<=f:=by
  intro f
  induction f with
  |zero=>intro x;exact Nat.le_refl _
  |succ f ih=>
   intro x
   show (if x=0 then 0 else 1+Go.Lib.bitLenAux f (x / 2))<=f+1
   split
   ·omega
   ·have:=ih (x / 2);omega
 exact h 64 x
theorem VC{d d':Array Int}(hp:PermIn 0 d.size d d')(hs:SortedIn aF 0 d.size d'):d'.toList.Perm d.toList/\d'.toList.Pairwise (· <= ·):=by
 constructor
 ·have h:=hp.2.2
  rw[Array.extract_size]at h;rw[show d'.extract 0 d.size=d' by rw[<-hp.1];exact Array.extract_size]at h
  exact h
 ·rw[List.pairwise_iff_getElem]
  intro i j hi hj hij;rw[Array.length_toList]at hi hj;have h:=hs i j (Nat.zero_le _) hij (by rw[<-hp.1];exact hj)
  rw[getElem!_pos d' i hi,getElem!_pos d' j hj]at h;simp only[aF,Go.Sort.ltInt,decide_eq_false_iff_not]at h
  rw[Array.getElem_toList,Array.getElem_toList]
  omega
theorem VM(g c:Nat)(d:Array Int)(t:List Int)(w:World)(h:aA w g d t)(hn:d.size<=1000000):
  Calls prog 142 #[.slice (some ⟨g,0,none⟩) d.size c] w fun e w'=>e=.returned (.tuple #[])/\∃d':Array Int,d'.toList.Perm d.toList/\d'.toList.Pairwise (· <= ·)/\aA w' g d' t/\w.grownBy w' (some g):=by
 have hb:=kA (d.size:Int) w (by omega) (by omega)
 have hl:=Vv (d.size:Int).toNat;have hpq:=Vn (d.size+1) g c 0 d.size (Go.Lib.bitLen (d.size:Int).toNat) d t w h (Nat.zero_le _) bZ hn hl (by omega) (Or.inl rfl)
 have HF:Hid (∀d':Array Int,PermIn 0 d.size d d'->SortedIn aF 0 d.size d'->d'.toList.Perm d.toList/\d'.toList.Pairwise (· <= ·)):=fun d'=>VC
 have wN:IntKind.u64.wrap (d.size:Int)=(d.size:Int):=by rw[IntKind.wrap_u64];omega
 generalize Go.Lib.bitLen (d.size:Int).toNat=lim at *;generalize d.size=N at *;go_enter func142,ntmps142
 go_wp2_with fail
 refine hb.mono ?_
 rintro e w0 ⟨rfl,hw⟩
 rw[hw];clear hw w0
 go_wp2_with fail
 refine hpq.mono ?_
 rintro e w1 ⟨rfl,d',hp,hs,h1,hg⟩
 have HZ:Hid (∃d':Array Int,d'.toList.Perm d.toList/\d'.toList.Pairwise (· <= ·)/\aA w1 g d' t/\w.grownBy w1 (some g)):=⟨d',(HF.out d' hp hs).1,(HF.out d' hp hs).2,h1,hg⟩;clear hpq hb hp hs h1 hg HF;go_wp2
 go_end0
 exact⟨rfl,HZ.out⟩
theorem VS(p:Option Addr)(c:Nat)(w:World):
  Calls prog 150 #[.slice p 0 c,.int .i64 0,.int .i64 0] w fun e w'=>e=.returned (.tuple #[])/\w'=w:=by
 go_enter func150,ntmps150
 go_wp2
 go_loopw [6] (fun iv wr=>iv=.int .i64 1/\wr=w) (fun _ _=>0)
 case atStart=>exact⟨rfl,rfl⟩
 case round=>
  obtain⟨rfl,rfl⟩:=hrel;go_wp2
  go_end0
  exact⟨rfl,rfl⟩
theorem V2(p:Option Addr)(c lim:Nat)(w:World):
  Calls prog 147 #[.slice p 0 c,.int .i64 0,.int .i64 0,.int .i64 lim] w fun e w'=>e=.returned (.tuple #[])/\w'=w:=by
 have hi:=VS p c w;go_enter func147,ntmps147
 go_wp2
 go_loopw [1,2] (fun iv jv wr=>iv=.int .i64 0/\jv=.int .i64 0/\wr=w) (fun _ _ _=>0)
 case atStart=>exact⟨rfl,rfl,rfl⟩
 case round=>
  obtain⟨rfl,rfl,rfl⟩:=hrel
  go_wp2_with fail
  refine hi.mono ?_
  rintro e w0 ⟨rfl,rfl⟩
  go_wp2;refine bodyPost_ret (results_none rfl _ _ _) rfl ?_
  exact⟨rfl,rfl⟩
theorem Wa(p:Option Addr)(c:Nat)(w:World):
  Calls prog 142 #[.slice p 0 c] w fun e w'=>e=.returned (.tuple #[])/\w'=w:=by
 have hb:=kA 0 w (by omega) (by omega)
 have hpq:=V2 p c (Go.Lib.bitLen (0:Int).toNat) w;generalize Go.Lib.bitLen (0:Int).toNat=lim at *;go_enter func142,ntmps142
 go_wp2_with fail
 refine hb.mono ?_
 rintro e w0 ⟨rfl,hw⟩
 rw[hw];clear hw w0
 go_wp2_with fail
 refine hpq.mono ?_
 rintro e w0 ⟨rfl,rfl⟩
 go_wp2
 go_end0
 exact⟨rfl,rfl⟩
end Go.Proofs.YtoioiellaomonaaGreatDoor
namespace Go.Proofs.YtoioiellaomonaaGreatDoor
open Go.RowKit Go.Maps Proofs.Tryz
variable {w w':World}{base e n c k:Nat}{v:Value}{xs:List Value}{ops:Array Oper}{rest:List Oper}{o:Oper}{a:Act}{Q:Exit->Act->World->Prop}{l:List Nat}
theorem PX{size:Nat}(h:w.ownsRow base e size v n xs):∃a c,v=.slice a n c:=by
 rcases h.2 with⟨rfl,rfl⟩|⟨g,cap,cur,rfl,_⟩
 ·exact⟨none,0,rfl⟩
 ·exact⟨_,cap,rfl⟩
theorem Uw{w:World}{ops:Array Oper}{rest:List Oper}{a:Act}{Q:Exit->Act->World->Prop}(hgd:o.guard=none)(s x:Operand)
  (ho:o.op=.call { callee:=.builtin .append,args:=#[s,x],argTypes:=#[36,36] }) (base:Nat)
  (v:Value) (n:Nat) (zs:List Int) (hs:a.eval s=v) (hown:w.ownsRow base 37 1 v n (zs.map (Value.int .u64))) (g':Nat) (z:Int) (hx:a.eval x=.slice (some ⟨g',0,none⟩) 1 1) (hc:w.cell? ⟨g',0,none⟩=some (.int .u64 z))
  (hn:n+1<=2000000) (hbase:base<=w.heap.size)
  (h:∀v' w',w'.ownsRow base 37 1 v' (n+1) ((zs++[z]).map (Value.int .u64))->w.grownBy w' v.ownBlock->wpList prog ops Q rest (a.put o.dst v') w'):wpList prog ops Q (o::rest) a w:=by
 obtain⟨i,hi,hz0,hz1,hz2⟩:=info_parts L9;refine wpList_append_own w hgd s x 36 ho base 37 i _ 1 8 underlying36 hi hz0 hz1 hz2 rfl (by decide) v n _ hs hown ⟨g',0,none⟩ 1 1 [.int .u64 z] hx rfl ?_ (fun u hu=>by simp at hu;subst hu;rfl) (by unfold maxLen;omega) (by omega) hbase ?_
 ·intro j u hj
  match j with
  | 0=>simp at hj;rw[<-hj,qi];exact hc
  |j+1=>simp at hj
 ·intro v' w' h1 h2 _
  exact h v' w' (by rw[List.map_append];exact h1) h2
theorem lr{a:Addr}(h:fH w (some a) n c l):∀j u,((iU l).map (Value.int .u64))[j]? =some u->w.cell? (a.add j)=some u:=by
 intro j u hj;have hjl:j<(iU l).length:=by have:=(List.getElem?_eq_some_iff.1 hj).1;simpa using this
 have hc:=h.cell j (by rw[<-h.hlen];exact hjl)
 have e:u=.int .u64 ((iU l).getD j 0):=by
  rw[List.getElem?_map,List.getElem?_eq_getElem hjl]at hj;rw[List.getD_eq_getElem?_getD,List.getElem?_eq_getElem hjl];simpa using hj.symm
 rw[e];exact hc
theorem Wb(m:Nat):(Builtin.zeroCells (Value.int .u64 0).cells m).toList=List.replicate m (Value.int .u64 0):=by
 have hc:(Value.int .u64 0).cells=#[.int .u64 0]:=rfl;unfold Builtin.zeroCells;rw[hc];refine List.ext_getElem (by simp) fun i h1 h2=>?_
 simp[Nat.mod_one]
theorem Wc{w:World}{ops:Array Oper}{rest:List Oper}{a:Act}{Q:Exit->Act->World->Prop}(hgd:o.guard=none)(s y:Operand)
  (ho:o.op=.call { callee:=.builtin .append,args:=#[s,y],argTypes:=#[36,36] }) (g:Nat) (x:Addr) (n c:Nat) (l:List Nat) (hs:a.eval s=.slice (some ⟨g,0,none⟩) 0 0) (hy:a.eval y=.slice (some x) n c) (hU:fH w (some x) n c l) (h0:0<n) (hn:n<=1000000)
  (h:∀G w',n<=G->G<=maxLen->aA w' w.heap.size (iU l).toArray (List.replicate (G-n) 0)->Below w.heap.size w w'->wpList prog ops Q rest (a.put o.dst (.slice (some ⟨w.heap.size,0,none⟩) n G)) w'):wpList prog ops Q (o::rest) a w:=by
 refine wpList_plain hgd fun _ hK=>?_
 obtain⟨i0,hi,hz0,hz1,hz2⟩:=info_parts L9;have hln:=hU.len
 have hrun:∀ty,(Builtin.append_ #[36,36] ty #[.slice (some ⟨g,0,none⟩) 0 0,.slice (some x) n c]).run prog w=.ok (.slice (some ⟨w.heap.size,0,none⟩) n (grownCap w n 0 37)) (w.drew.alloc (.cells (((iU l).map (Value.int .u64)).toArray++Builtin.zeroCells (Value.int .u64 0).cells (grownCap w n 0 37-n)) 37)):=fun ty=>by
  have h:=run_append_grow (P:=prog) w 36 ty 37 i0 (.int .u64 0) underlying36 hi hz0 ⟨g,0,none⟩ 0 0 [] (by simp) (fun j v hj=>by simp at hj) x n c ((iU l).map (Value.int .u64)) (by rw[hz1];simp[hln]) (lr hU) (by omega) (by omega) (growslice_fits (by omega) (by rw[hz2];omega))
  simpa using h
 have hG:=grownCap_ge w n 0 37;have hG2:=grownCap_le_maxLen w n 0 37 (by unfold maxLen;omega)
 have hr:=hrun o.type;clear hrun;generalize grownCap w n 0 37=G at *;have HB:Below w.heap.size w (w.drew.alloc (.cells (((iU l).map (Value.int .u64)).toArray++Builtin.zeroCells (Value.int .u64 0).cells (G-n)) 37)):=(Below.refl _ w).drew.alloc bZ _
 have HS:aA (w.drew.alloc (.cells (((iU l).map (Value.int .u64)).toArray++Builtin.zeroCells (Value.int .u64 0).cells (G-n)) 37)) w.heap.size (iU l).toArray (List.replicate (G-n) 0):=by
  have h1:=(dO w.drew (.cells (((iU l).map (Value.int .u64)).toArray++Builtin.zeroCells (Value.int .u64 0).cells (G-n)) 37)).1
  show _=_
  refine h1.trans ?_
  refine congrArg some (congrArg (fun c=>Obj.cells c 37 (0,0)) (Array.toList_inj.1 ?_))
  rw[Array.toList_append,List.map_append,List.map_replicate,Wb]
 generalize (w.drew.alloc (.cells (((iU l).map (Value.int .u64)).toArray++Builtin.zeroCells (Value.int .u64 0).cells (G-n)) 37))=w2 at *;unfold Oper.wp execOp;simp only[ho,resolve,invoke,builtin,Sem.run_bind,Sem.run_pure,Result.andThen_ok,List.map_toArray,List.map_cons,List.map_nil,hs,hy,hr]
 exact hK _ _ (h G w2 hG hG2 HS HB)
def Dj(l:List Nat)(w:World)(e:Ending)(w':World):Prop :=
 Below w.heap.size w w'/\((l=[]/\∃p,e=.returned (.slice p 0 0))\/∃G t,l≠[]/\e=.returned (.slice (some ⟨w.heap.size+1,0,none⟩) l.length G)/\aA w' (w.heap.size+1) (iU l).toArray t/\l.length<=G/\G<=maxLen)
theorem lw(a:Option Addr)(n c:Nat)(l:List Nat)(w:World)(hS:fH w a n c l)(hn:n<=1000000):
  Calls prog 49 #[.slice a n c] w (Dj l w):=by
 have hln:=hS.len
 cases a with
 |none=>
  have hc0:=hS.nn rfl;have hn0:n=0:=by have:=hS.hcap;omega
  subst hc0 hn0;have hl:l=[]:=List.eq_nil_of_length_eq_zero hln.symm;subst hl;clear hln hS hn;have hnil:=fun w=>_root_.Go.run_eql_slice_nil (P:=prog) w 36 37 none 0 0 underlying36
  dsimp only[Option.isNone]at hnil
  go_enter func49,ntmps49
  go_wp2;go_ret
  exact⟨Below.refl _ _,Or.inl ⟨rfl,none,rfl⟩⟩
 |some x=>
  obtain⟨i0,hi,hz0,hz1,hz2⟩:=info_parts L9;have hnil:=fun w=>_root_.Go.run_eql_slice_nil (P:=prog) w 36 37 (some x) n c underlying36
  dsimp only[Option.isNone]at hnil
  by_cases h0:n=0
  ·subst h0
   have hl:l=[]:=List.eq_nil_of_length_eq_zero hln.symm;subst hl;have hown:=J2 w 37;have HI:=aX hi;have HZ1:=aX hz1;have HB:Hid (∀w1,(w.alloc (.cells #[] 37)).grownBy w1 (some w.heap.size)->Below w.heap.size w w1):=fun w1 h2=>((Below.refl _ _).alloc (Nat.le_refl _) _).grown h2 (by simp) (fun k hk=>by cases hk;exact Nat.le_refl _)
   clear hi hz0 hz1 hz2 hS hln hn;go_enter func49,ntmps49
   go_wp2_with (at_builtin;refine wpList_append_fits_any _ rfl _ _ 36 rfl w.heap.size 37 i0 1 underlying36 HI.out HZ1.out w.heap.size 0 0 [] rfl hown (some x) 0 c [] rfl rfl (fun h=>by cases h) (fun _ _ j u hj=>by simp at hj) (fun _ h=>by cases h) (Nat.le_refl _) ?_)
   intro w1 hown1 hgrow1;have HE:=HB.out w1 hgrow1;clear hown1 hgrow1 hown;go_wp2;go_ret
   exact⟨HE,Or.inl ⟨rfl,_,rfl⟩⟩
  ·have hl0:l≠[]:=fun e=>h0 (by rw[hln,e];rfl)
   have HL:=aX hln;have HU:Hid _:=hS.up (qd w (.cells #[] 37));clear hi hz0 hz1 hz2 hS hln;go_enter func49,ntmps49
   go_wp2_with (at_builtin;refine Wc rfl _ _ rfl w.heap.size x n c l rfl rfl HU.out (by omega) hn ?_)
   intro G w2 hG hG2 HS HB;have HS2:Hid _:=HS;have HB2:Hid (Below w.heap.size w w2):=(qd w (.cells #[] 37)).trans (HB.mono (Nat.le_succ _));have hgl:Hid (n<=G/\G<=maxLen):=⟨hG,hG2⟩;clear HS HB hG hG2 HU;go_wp2;go_ret
   exact⟨HB2.out,Or.inr ⟨G,List.replicate (G-n) 0,hl0,by rw[<-HL.out];simp,HS2.out,by rw[<-HL.out];exact hgl.out.1,hgl.out.2⟩⟩
theorem aA.lx{g G:Nat}{s:List Nat}{d:Array Int}{t:List Int}(h:aA w g d t)(hd:d.toList=iU s)(hn:s.length=n)(hG:n<=G)(hm:G<=maxLen):fH w (some ⟨g,0,none⟩) n G s:=by
 have had:∀k,aG (some ⟨g,0,none⟩) k=⟨g,k,none⟩:=fun k=>by simp[aG,qi]
 have hsz:d.size=n:=by rw[<-Array.length_toList,hd];simpa using hn
 refine⟨by simp[hn],hG,hm,fun m k w hk hm=>yK underlying36 Uf (by simp) k w hk,fun k hk=>?_,fun k hk=>?_,by simp⟩
 ·rw[had,h.cell (by omega:k<d.size)]
  congr 2
  rw[<-hd,List.getD_eq_getElem?_getD];simp[show k<d.size by omega]
 ·rw[had];exact h.lt
theorem MC(h:w.ownsRow base 37 1 v n ((iU l).map (Value.int .u64))):∃a c,v=.slice a n c/\fH w a n c l:=by
 obtain⟨a,c,h1,h2,_⟩:=gC h underlying36 Uf;exact⟨a,c,h1,h2⟩
theorem ly(h:w.ownsRow base 37 1 v n ((iU l).map (Value.int .u64))):∃a c,v=.slice a n c/\fH w a n c l/\∀k,k<n->base<=(aG a k).block:=by
 obtain⟨a,c,h1,h2,h3,_⟩:=gC h underlying36 Uf;exact⟨a,c,h1,h2,h3⟩
def zo(w:World)(a:Option Addr)(n:Nat):Prop:=∀k,k<n->w.frozen? (aG a k)=false
theorem zo.far{a:Option Addr}(h:zo w a n)(hk:∀k,k<n->w'.heap[(aG a k).block]? =w.heap[(aG a k).block]?):zo w' a n:=fun k hk2=>by
 have h1:=h k hk2;unfold World.frozen? at h1 ⊢;rw[hk k hk2];exact h1
theorem Wg{cap:Nat}{a:Option Addr}(h:w.ownsRow base e 1 (.slice a n cap) n xs):zo w a n:=fun k hk=>by
 rcases h.2 with⟨e,e0⟩|⟨g,cap',cur,e,hg,hc,_⟩
 ·omega
 ·injection e with e1 _ _
  subst e1;rw[show aG (some ⟨g,0,none⟩) k=⟨g,k,none⟩ by simp[aG,qi]]
  exact frozen_of_row w g k _ _ hc
def XT(r:List Nat)(w:World)(e:Ending)(w':World):Prop:=∃(a:Option Addr) (c:Nat),e=.returned (.slice a r.length c)/\fH w' a r.length c r/\Below w.heap.size w w'/\(∀k,k<r.length->w.heap.size<=(aG a k).block)/\zo w' a r.length
def lz(E:Nat)(r:List Nat)(w:World)(e:Ending)(w':World):Prop:=∃(a:Option Addr) (c:Nat),e=.returned (.tuple #[.slice a r.length c,.int .i64 E])/\fH w' a r.length c r/\Below w.heap.size w w'/\(∀k,k<r.length->w.heap.size<=(aG a k).block)/\zo w' a r.length
def sJ(r:List Nat)(w:World)(e:Ending)(w':World):Prop:=∃(a:Option Addr) (c:Nat),e=.returned (.slice a r.length c)/\fH w' a r.length c r/\Below w.heap.size w w'/\∀k,k<r.length->w.heap.size<=(aG a k).block
def Ib(E:Nat)(r:List Nat)(w:World)(e:Ending)(w':World):Prop:=∃(a:Option Addr) (c:Nat),e=.returned (.tuple #[.slice a r.length c,.int .i64 E])/\fH w' a r.length c r/\Below w.heap.size w w'/\∀k,k<r.length->w.heap.size<=(aG a k).block
theorem Ux(l:List Nat)(x:Nat):iU (l++[x])=iU l++[(x:Int)]:=by simp[iU]
theorem lA(a:Option Addr)(n c:Nat)(l:List Nat)(w:World)(hS:fH w a n c l)(sL:Sm l)(hn:n<=1000000):
  Calls prog 123 #[.slice a n c] w (XT (aJ l) w):=by
 have hln:=hS.len;have hcl:=lw a n c l w hS hn
 have hso:∀w1,Below w.heap.size w w1->∀e,Dj l w e w1->∃p G,e=.returned (.slice p n G)/\Calls prog 142 #[.slice p n G] w1 fun e w2=>e=.returned (.tuple #[])/\∃s:List Nat,s.Perm l/\s.Pairwise (· <= ·)/\fH w2 p n G s/\Below w.heap.size w w2:=by
  intro w1 hb1 e ⟨hb,hh⟩;rcases hh with⟨rfl,p,rfl⟩|⟨G,t,h0,rfl,hA,hG1,hG2⟩
  ·obtain rfl:n=0:=hln
   refine⟨p,0,rfl,(Wa p 0 w1).mono ?_⟩
   rintro e w2 ⟨rfl,rfl⟩
   refine⟨rfl,[],List.Perm.refl _,List.Pairwise.nil,?_,hb⟩
   exact⟨rfl,bZ,Nat.zero_le _,fun m k w hk hm=>absurd hk (by omega),fun k hk=>absurd hk (by omega),fun k hk=>absurd hk (by omega),fun _=>rfl⟩
  ·have hsz:(iU l).toArray.size=n:=by simp[hln]
   have h:=VM (w.heap.size+1) G (iU l).toArray t w1 hA (by rw[hsz];exact hn)
   rw[hsz]at h;refine⟨some ⟨w.heap.size+1,0,none⟩,G,by rw[<-hln],h.mono ?_⟩
   rintro e w2 ⟨rfl,d,hp,hu,h2,hg⟩
   obtain⟨s,hs1,hs2,hs3⟩:=A6 (l:=l) (d:=d.toList) (by simpa [iU] using hp) hu
   refine⟨rfl,s,hs2,hs3,h2.lx hs1 (by rw[hs2.length_eq,hln]) (by rw[hln];exact hG1) hG2,?_⟩
   exact hb.grown hg hb.size (fun k hk=>by cases hk;omega)
 have Ic:Hid _:=hso;have HP:Hid (∀s:List Nat,s.Perm l->Sm s/\s.length=n/\aJ s=aJ l):=fun s h=>⟨fun x hx=>sL x (h.mem_iff.1 hx),by rw[h.length_eq,hln],A5 h⟩
 clear hS sL hso hln;go_enter func123,ntmps123
 go_wp2_with fail
 refine hcl.mono ?_
 intro e w1 hC;obtain⟨p,G,rfl,hsort⟩:=Ic.out w1 hC.1 e hC;clear hC hcl Ic
 go_wp2_with fail
 refine hsort.mono ?_
 rintro e w2 ⟨rfl,s,hs1,hs2,hU,hB⟩
 clear hsort;obtain⟨sS,sN,lB⟩:=HP.out s hs1;clear HP hs1;have HT:Hid (∀k,k<n->aJ (s.take (k+1))=if yI (aJ (s.take k)) (s.getD k 0) then aJ (s.take k) else aJ (s.take k)++[s.getD k 0]):=fun k hk=>A4 hs2 (by omega)
 have HE:Hid (aJ (s.take n)=aJ l):=by show _=_;rw[List.take_of_length_le (by omega)];exact lB
 have HM:Hid (∀k,Sm (aJ (s.take k))/\(aJ (s.take k)).length<=n):=fun k=>⟨fun x hx=>sS x (List.mem_of_mem_take (LP hx)),by have:=Oq (s.take k);rw[List.length_take]at this;omega⟩
 have HC:Hid (∀k,k<n->∀wr,Below w2.heap.size w2 wr->wr.cell? (aG p k)=some (.int .u64 (s.getD k 0:Nat))):=fun k hk wr hb=>by
  rw[(hU.up hb).cell k hk]
  congr 2
  simp only[List.getD_eq_getElem?_getD,iU,List.getElem?_map]
  cases s[k]?<;>rfl
 have HX:Hid (∀k,k<n->s.getD k 0<2 ^ 64):=fun k hk=>by
  have hk':k<s.length:=by omega
  rw[List.getD_eq_getElem?_getD,kU hk'];exact sS _ (List.getElem_mem hk')
 have hidx:=fun (k:Nat) (w:World) (h:k<n)=>hU.idx n k w h bZ
 have HB0:=aX hB;clear hU hs2 sS sN lB hB;go_wp2
 go_loopw [4,13] (fun v i wr=>∃k:Nat,k<=n/\i=.int .i64 k/\Hid (wr.ownsRow w2.heap.size 37 1 v (aJ (s.take k)).length ((iU (aJ (s.take k))).map (Value.int .u64)))/\Hid (Below w2.heap.size w2 wr)) (fun _ i _=>n-(intOf i).toNat)
 case atStart=>exact⟨0,Nat.zero_le _,rfl,⟨rfl,Or.inl ⟨rfl,rfl⟩⟩,Below.refl _ _⟩
 case round=>
  obtain⟨k,hk,rfl,HO,HW⟩:=hrel;obtain⟨va,vc,rfl,oL⟩:=MC HO.out;by_cases hlt:k<n
  ·have hc:=HC.out k hlt wr HW.out
   have hx:=fun w'=>hidx k w' hlt
   have hho:=q35 va _ vc _ (s.getD k 0) wr oL (HM.out k).1 (HX.out k hlt);have HS:Hid _:=HT.out k hlt;have hb:=(HM.out k).2;clear HC HX HT HM hidx oL;generalize s.getD k 0=x at *;have HL:Hid (aJ (s.take k)=aJ (s.take k)):=rfl;generalize hq:aJ (s.take k)=r at *;clear HL;by_cases hh:yI r x=true
   ·rw[hh]at hho
    have XU:Hid (aJ (s.take (k+1))=r):=by show _=_;rw[HS.out,if_pos hh]
    clear HS hh
    go_wp2_with fail
    refine hho.mono ?_
    rintro e w3 ⟨rfl,hb3⟩
    have rU:Hid _:=qC HO.out hb3;have HW3:Hid _:=HW.out.trans (hb3.mono HW.out.size);clear hho HO HW hb3;go_wp2
    go_roundw
    case rel=>exact⟨k+1,by omega,by go_num,by rw[XU.out];exact rU,HW3⟩
    case measure=>simp[intOf];omega
   ·have hh2:yI r x=false:=by cases h:yI r x;rfl;exact absurd h hh
    rw[hh2]at hho;have XU:Hid (aJ (s.take (k+1))=r++[x]):=by show _=_;rw[HS.out,if_neg hh]
    clear HS hh hh2
    go_wp2_with fail
    refine hho.mono ?_
    rintro e w3 ⟨rfl,hb3⟩
    have rU:Hid _:=qC HO.out hb3;have HW3:Hid (Below w2.heap.size w2 w3):=HW.out.trans (hb3.mono HW.out.size);clear hho HO HW hb3;have vY:Hid ((w3.alloc (.cells #[.int .u64 x] 37)).ownsRow w2.heap.size 37 1 (.slice va r.length vc) r.length ((iU r).map (Value.int .u64))):=World.ownsRow.alloc rU.out _;have rE:Hid ((w3.alloc (.cells #[.int .u64 x] 37)).cell? ⟨w3.heap.size,0,none⟩=some (.int .u64 x)):=qc (dO w3 _).1 0;have rF:Hid (Below w2.heap.size w2 (w3.alloc (.cells #[.int .u64 x] 37))):=HW3.out.alloc HW3.out.size _;have hszA:w2.heap.size<=(w3.alloc (.cells #[.int .u64 x] 37)).heap.size:=rF.out.size;have o8:Hid (∀q,(Value.slice va r.length vc).ownBlock=some q->w2.heap.size<=q):=vO rU.out;clear rU HW3
    go_wp2_with (at_builtin;refine Uw rfl _ _ rfl w2.heap.size _ r.length (iU r) rfl vY.out w3.heap.size (x:Int) rfl rE.out (by omega) hszA ?_)
    intro v7 w7 jC mD;have FK:Hid (w7.ownsRow w2.heap.size 37 1 v7 (r.length+1) ((iU r++[(x:Int)]).map (Value.int .u64))):=by show World.ownsRow _ _ _ _ _ _ _;simpa using jC
    have FM:Hid (Below w2.heap.size w2 w7):=rF.out.grown mD hszA (fun q e=>o8.out q e)
    clear jC mD vY rE rF hszA o8;go_wp2
    go_roundw
    case rel=>
     refine⟨k+1,by omega,by go_num,?_,FM⟩
     show World.ownsRow _ _ _ _ _ _ _
     rw[XU.out,List.length_append,Ux];exact FK.out
    case measure=>simp[intOf];omega
  ·obtain rfl:k=n:=by omega
   obtain⟨Jw,Jy,hv2,iY,hf2⟩:=ly HO.out;injection hv2 with hv2 _ hv3;subst hv2 hv3;have Wl:Hid _:=oL;have AP:Hid _:=hf2;have Wm:Hid (zo wr va (aJ (s.take k)).length):=Wg HO.out;clear oL iY hf2;go_wp2;go_ret
   refine⟨va,vc,?_,?_,qe HB0.out HW.out,?_,?_⟩
   ·rw[<-HE.out];rfl
   ·rw[<-HE.out];exact Wl.out
   ·rw[<-HE.out];exact fun k hk=>Nat.le_trans HB0.out.size (AP.out k hk)
   ·rw[<-HE.out];exact Wm.out
theorem lE(n:Nat):(Builtin.zeroCells (Value.int .u64 0).cells n).size=n*1:=by
 rw[size_zeroCells];rfl
theorem Ww(l k:List Nat):iU (l++k)=iU l++iU k:=by simp[iU]
theorem Jz{w:World}{ops:Array Oper}{rest:List Oper}{a:Act}{Q:Exit->Act->World->Prop}(hgd:o.guard=none)(s x:Operand)
  (ho:o.op=.call { callee:=.builtin .append,args:=#[s,x],argTypes:=#[36,36] }) (base:Nat)
  (v:Value) (xs ys:List Nat) (b:Option Addr) (len cap:Nat) (hs:a.eval s=v) (hx:a.eval x=.slice b len cap) (hown:w.ownsRow base 37 1 v xs.length ((iU xs).map (Value.int .u64))) (hT:fH w b len cap ys)
  (hn:xs.length<=10000000) (hm:ys.length<=10000000) (hbase:base<=w.heap.size)
  (h:∀v' w',w'.ownsRow base 37 1 v' (xs++ys).length ((iU (xs++ys)).map (Value.int .u64))->w.grownBy w' v.ownBlock->wpList prog ops Q rest (a.put o.dst v') w'):wpList prog ops Q (o::rest) a w:=by
 obtain⟨i,hi,hz0,hz1,hz2⟩:=info_parts L9;have hl:=hT.len
 cases b with
 |none=>
  have hc:=hT.nn rfl;have hcl:=hT.hcap;obtain rfl:len=0:=by omega
  subst hc;have hy:ys=[]:=List.eq_nil_of_length_eq_zero hl.symm;subst hy;refine wpList_plain hgd fun _ hK=>?_
  have hrun:=run_append_owned_none (P:=prog) w base 36 o.type 37 i 1 underlying36 hi v xs.length _ hown;unfold Oper.wp execOp;simp only[ho,resolve,invoke,builtin,Sem.run_bind,Sem.run_pure,Result.andThen_ok,List.map_toArray,List.map_cons,List.map_nil,hs,hx,hrun]
  refine hK _ _ ?_
  exact h v w (by rw[List.append_nil];exact hown) (World.grownBy.refl _ _)
 |some y=>
  refine wpList_append_own w hgd s x 36 ho base 37 i _ 1 8 underlying36 hi hz0 hz1 hz2 rfl (by decide) v xs.length _ hs hown y len cap ((iU ys).map (Value.int .u64)) hx (by simp[hl]) (lr hT) (ints_oneCell .u64 (iU ys)) (by unfold maxLen;omega) (by omega) hbase ?_
  intro v' w' h1 h2 _;exact h v' w' (by rw[Ww,List.map_append,List.length_append,<-hl];exact h1) h2
theorem WN{w:World}{ops:Array Oper}{rest:List Oper}{a:Act}{Q:Exit->Act->World->Prop}(hgd:o.guard=none)(s x:Operand)
  (ho:o.op=.call { callee:=.builtin .append,args:=#[s,x],argTypes:=#[36,3] }) (n:Nat) (hs:a.eval s=.slice none 0 0) (hx:a.eval x=.int .i64 n) (h0:0<n) (hn:n<=1000000)
  (h:∀G w',n<=G->w'.ownsRow w.heap.size 37 1 (.slice (some ⟨w.heap.size,0,none⟩) 0 G) 0 (([]:List Value))->Below w.heap.size w w'->wpList prog ops Q rest (a.put o.dst (.slice (some ⟨w.heap.size,0,none⟩) n G)) w'):wpList prog ops Q (o::rest) a w:=by
 refine wpList_plain hgd fun _ hK=>?_
 obtain⟨i,hi,hz0,hz1,hz2⟩:=info_parts L9
 have hrz:∀ty,(Builtin.append_ #[36,3] ty #[.slice none 0 0,.int .i64 n]).run prog w=.ok (.slice (some ⟨w.heap.size,0,none⟩) n (grownCap w n 0 37)) (w.drew.alloc (.cells (Builtin.zeroCells (Value.int .u64 0).cells n++Builtin.zeroCells (Value.int .u64 0).cells (grownCap w n 0 37-n)) 37)):=fun ty=>by
  have h:=Lib.run_append_grow_zeros w 36 3 ty 37 i (.int .u64 0) .i64 .i64 underlying36 underlying3 hi hz0 none 0 0 [] (run_firstCells_none w.drew i.size 0 0 0) n (by omega) (by omega) (by omega) (by omega) (by rw[hz2];omega) (growslice_fits (by omega) (by rw[hz2];omega))
  simpa using h
 have hG:=grownCap_ge w n 0 37;have hG2:=grownCap_le_maxLen w n 0 37 (by unfold maxLen;omega)
 have hcs:(Builtin.zeroCells (Value.int .u64 0).cells n++Builtin.zeroCells (Value.int .u64 0).cells (grownCap w n 0 37-n)).size=grownCap w n 0 37*1:=by
  rw[Array.size_append,lE,lE];omega
 generalize Builtin.zeroCells (Value.int .u64 0).cells n++Builtin.zeroCells (Value.int .u64 0).cells (grownCap w n 0 37-n)=cs at *;generalize grownCap w n 0 37=G at *;have HW:(w.drew.alloc (.cells cs 37)).ownsRow w.heap.size 37 1 (.slice (some ⟨w.heap.size,0,none⟩) 0 G) 0 (([]:List Value)):=⟨rfl,Or.inr ⟨w.heap.size,G,cs,rfl,Nat.le_refl _,(MapKept.heap_alloc w.drew _).1,Nat.zero_le _,hG2,hcs,rfl⟩⟩;have HB:Below w.heap.size w (w.drew.alloc (.cells cs 37)):=(Below.refl _ w).drew.alloc (Nat.le_refl _) _;have hrun:=hrz o.type;unfold Oper.wp execOp;simp only[ho,resolve,invoke,builtin,Sem.run_bind,Sem.run_pure,Result.andThen_ok,List.map_toArray,List.map_cons,List.map_nil,hs,hx,hrun]
 exact hK _ _ (h G _ hG HW HB)
theorem W4(n:Nat)(w:World)(hn:n<=1000000):
  Calls prog 143 #[.slice none 0 0,.int .i64 n] w fun e w'=>∃v,e=.returned v/\w'.ownsRow w.heap.size 37 1 v 0 (([]:List Value))/\Below w.heap.size w w':=by
 have h1:¬((n:Int)<0):=by omega
 by_cases h0:n=0
 ·subst h0
  go_enter func143,ntmps143
  go_wp2;go_ret
  exact⟨_,rfl,⟨rfl,Or.inl ⟨rfl,rfl⟩⟩,Below.refl _ _⟩
 ·have hpos:(0:Int)<(n:Int):=by omega
  have hw2:IntKind.i64.wrap ((n:Int)-0)=(n:Int):=by rw[IntKind.wrap_i64];omega
  go_enter func143,ntmps143
  go_wp2_with (at_builtin;refine WN rfl _ _ rfl n rfl rfl (by omega) hn ?_)
  intro G w' hG HW HB;have HW1:=aX HW;clear HW;have hG0:G≠0:=by omega
  go_wp2;go_ret
  exact⟨.slice (some ⟨w.heap.size,0,none⟩) 0 G,rfl,HW1.out,HB⟩
structure gX where
 a:Option Addr
 len:Nat
 cap:Nat
 ts:List Nat
def fZ(ps:List gX):List Nat:=ps.flatMap (·.ts)
def oM(ps:List gX)(k:Nat):Nat:=(fZ (ps.take k)).length
theorem lL{ps:List gX}(h:k<ps.length):fZ (ps.take (k+1))=fZ (ps.take k)++ps[k].ts:=by
 unfold fZ;rw[List.take_add_one,List.getElem?_eq_getElem h,List.flatMap_append];simp
theorem W5(ps:List gX)(k:Nat):(fZ (ps.take k)).length<=(fZ ps).length:=by
 have h:fZ ps=fZ (ps.take k)++fZ (ps.drop k):=by
  unfold fZ;rw[<-List.flatMap_append,List.take_append_drop]
 rw[h,List.length_append];omega
theorem lO:(prog.info? 36).map (·.size)=some 1:=by kernel_rfl
theorem W6(g:Nat)(ps:List gX)(w:World)(hc:∀k (h:k<ps.length),w.cell? ⟨g,k,none⟩=some (.slice ps[k].a ps[k].len ps[k].cap))(hg:g<w.heap.size)(hT:∀p∈ps,fH w p.a p.len p.cap p.ts)(hn:(fZ ps).length<=1000000)(hp:ps.length<=1000):
  Calls prog 124 #[.slice (some ⟨g,0,none⟩) ps.length ps.length] w fun e w'=>∃v,e=.returned v/\w'.ownsRow w.heap.size 37 1 v (fZ ps).length ((iU (fZ ps)).map (Value.int .u64))/\Below w.heap.size w w':=by
 have hix:∀k w',k<ps.length->(Instr.indexAt 27 (.slice (some ⟨g,0,none⟩) ps.length ps.length) (.int .i64 (k:Nat))).run prog w'=.ok (.pointer (some ⟨g,k,none⟩)) w':=fun k w' h=>by
  have:=yK (a:=some ⟨g,0,none⟩) (cap:=ps.length) (n:=ps.length) underlying27 lO (by simp) k w' h
  simpa [aG,qi] using this
 have HC:Hid _:=hc;have HT:Hid _:=hT;clear hc hT;have hgr:=fun (n:Nat) (h:n<=1000000) w'=>W4 n w' h
 obtain⟨n,hnn⟩:∃n,n=ps.length:=⟨_,rfl⟩
 have HN:=aX hnn;rw[<-hnn]at hp hix ⊢;clear hnn;have hbk0:∀k,(fZ (ps.take k)).length<=1000000:=fun k=>Nat.le_trans (W5 ps k) hn
 go_enter func124,ntmps124
 go_wp2
 go_loopw [3,11] (fun s j wr=>∃k:Nat,k<=n/\j=.int .i64 k/\s=.int .i64 (oM ps k:Nat)/\wr=w) (fun _ j _=>n-(intOf j).toNat)
 case atStart=>exact⟨0,Nat.zero_le _,rfl,by simp[oM,fZ],rfl⟩
 case round=>
  obtain⟨k,hk,rfl,rfl,JA⟩:=hrel;obtain rfl:w=wr:=JA.symm
  by_cases hlt:k<n
  ·have hkl:k<ps.length:=by rw[<-HN.out];exact hlt
   have hi:=fun w'=>hix k w' hlt
   have hc1:=HC.out k hkl;have hl:=(HT.out ps[k] (List.getElem_mem hkl)).len;have rQ:Hid _:=hl
   have HS:Hid (oM ps (k+1)=oM ps k+ps[k].len):=by
    show _=_;unfold oM;rw[lL hkl,List.length_append,hl]
   have hb1:oM ps k+ps[k].len<=1000000:=by rw[<-HS.out];exact hbk0 (k+1)
   generalize oM ps k=S at *;generalize ps[k]=p at *;obtain⟨pa,pl,pc,pt⟩:=p;dsimp only at *
   have hw:IntKind.i64.wrap ((S:Int)+(pl:Int))=((S+pl:Nat):Int):=by rw[IntKind.wrap_i64];omega
   have hneg:¬(((S+pl:Nat):Int)<0):=by omega
   clear hix;go_wp2
   go_roundw
   case rel=>exact⟨k+1,by omega,by go_num,by rw[HS.out];simp[rQ.out],trivial⟩
   case measure=>simp[intOf];omega
  ·obtain rfl:k=n:=by omega
   have hbn:=hbk0 k;have HJ:Hid (fZ (ps.take k)=fZ ps):=by show _=_;rw[List.take_of_length_le (by rw[HN.out];exact bZ)]
   have hgn:=hgr (oM ps k) hbn;generalize oM ps k=S at *;clear hix
   have hix:∀j w',j<k->(Instr.indexAt 27 (.slice (some ⟨g,0,none⟩) k k) (.int .i64 (j:Nat))).run prog w'=.ok (.pointer (some ⟨g,j,none⟩)) w':=fun j w' h=>by
    have:=yK (a:=some ⟨g,0,none⟩) (cap:=k) (n:=k) underlying27 lO (by simp) j w' h
    simpa [aG,qi] using this
   go_wp2_with fail
   refine (hgn _).mono ?_
   rintro e w1 ⟨v,rfl,hown,hw1⟩
   have HO:=aX hown;clear hown;go_wp2
   go_loopw [6,27] (fun s j w2=>∃m:Nat,m<=k/\j=.int .i64 m/\Hid (w2.ownsRow w.heap.size 37 1 s (fZ (ps.take m)).length ((iU (fZ (ps.take m))).map (Value.int .u64)))/\Hid (Below w.heap.size w w2)) (fun _ j _=>k-(intOf j).toNat)
   case atStart=>exact⟨0,Nat.zero_le _,rfl,HO,hw1⟩
   case round=>
    obtain⟨m,hm,rfl,l9,hb2⟩:=hrel;by_cases PY:m<k
    ·have hml:m<ps.length:=by rw[<-HN.out];exact PY
     have hi:=fun w'=>hix m w' PY
     have hc1:=(hb2.out.cell hg).trans (HC.out m hml);have hTm:=(HT.out ps[m] (List.getElem_mem hml)).up hb2.out;have HS:Hid (fZ (ps.take (m+1))=fZ (ps.take m)++ps[m].ts):=lL hml;have hbm:=hbk0 m
     have hpm:ps[m].ts.length<=1000000:=by
      have:=hbk0 (m+1);rw[HS.out,List.length_append]at this;omega
     have hlt:=World.ownsRow.lt l9.out;have hsz:=hb2.out.size;generalize fZ (ps.take m)=J at *;generalize ps[m]=p at *;obtain⟨pa,pl,pc,pt⟩:=p;dsimp only at *
     clear hix
     go_wp2_with (at_builtin;refine Jz rfl _ _ rfl w.heap.size _ J pt pa pl pc rfl rfl l9.out hTm (by omega) (by omega) (by omega) ?_)
     intro v3 w3 hown3 AQ;have rU:Hid (w3.ownsRow w.heap.size 37 1 v3 (J++pt).length ((iU (J++pt)).map (Value.int .u64))):=by show World.ownsRow _ _ _ _ _ _ _;rw[List.length_append];simpa using hown3
     have hb3:Hid (Below w.heap.size w w3):=hb2.out.grown AQ hsz (fun j e=>(hlt j e).1)
     clear hown3 AQ;go_wp2
     go_roundw
     case rel=>exact⟨m+1,by omega,by go_num,by rw[HS.out];exact rU,hb3⟩
     case measure=>simp[intOf];omega
    ·obtain rfl:m=k:=by omega
     have HF:Hid _:=l9.out;rw[HJ.out]at HF;go_wp2;go_ret
     exact⟨_,rfl,HF.out,hb2.out⟩
theorem W7(a:Option Addr)(n c:Nat)(l:List Nat)(b:Option Addr)(m d:Nat)(k:List Nat)(w:World)(hA:fH w a n c l)(hB:fH w b m d k)(sL:Sm l)(sK:Sm k)(hn:n+m<=1024):
  Calls prog 101 #[.slice a n c,.slice b m d] w (lz 0 (aJ (l++k)) w):=by
 have hl:=hA.len;have hk:=hB.len;have hbn:=qd w (.cells #[.slice a n c,.slice b m d] 36);have hrow:=(MapKept.heap_alloc w (.cells #[.slice a n c,.slice b m d] 36)).1;have hj:fZ [⟨a,n,c,l⟩,⟨b,m,d,k⟩]=l++k:=by simp[fZ]
 have hcc:=W6 w.heap.size [⟨a,n,c,l⟩,⟨b,m,d,k⟩] (w.alloc (.cells #[.slice a n c,.slice b m d] 36)) (fun i hi=>by
   rw[qc hrow i]
   match i,hi with
   | 0,_=>rfl
   | 1,_=>rfl) (by simp) (fun p hp=>by
   rcases List.mem_cons.1 hp with rfl|hp
   ·exact hA.up hbn
   ·rcases List.mem_cons.1 hp with rfl|hp
    ·exact hB.up hbn
    ·cases hp) (by rw[hj,List.length_append];omega) (by simp)
 rw[hj]at hcc;dsimp only[List.length_cons,List.length_nil,Nat.zero_add,Nat.reduceAdd]at hcc
 have HL:Hid (∀w1 v,w1.ownsRow (w.alloc (.cells #[.slice a n c,.slice b m d] 36)).heap.size 37 1 v (l++k).length ((iU (l++k)).map (Value.int .u64))->∃q C,v=.slice q (l++k).length C/\Calls prog 123 #[.slice q (l++k).length C] w1 (XT (aJ (l++k)) w1)):=fun w1 v ho=>by
  obtain⟨q,C,rfl,hU⟩:=MC ho;exact⟨q,C,rfl,lA q _ C _ w1 hU (gA sL sK) (by rw[List.length_append];omega)⟩
 have Dl:Hid _:=hbn;have hw1:IntKind.i64.wrap ((n:Int)+(m:Int))=((n+m:Nat):Int):=by rw[IntKind.wrap_i64];omega
 have hg1:¬((1024:Int)<((n+m:Nat):Int)):=by omega
 have hb1:=hA.bd;have hb2:=hB.bd;clear hbn hrow hA hB sL sK hj hl hk;generalize aJ (l++k)=r at *;generalize l++k=lk at *;go_enter func101,ntmps101
 go_wp2_with fail
 refine hcc.mono ?_
 rintro e w1 ⟨v,rfl,hown,hb⟩
 obtain⟨q,C,rfl,hle⟩:=HL.out w1 v hown;have HB1:Hid (Below w.heap.size w w1):=qe Dl.out hb;clear hown hb hcc HL Dl
 go_wp2_with fail
 refine hle.mono ?_
 rintro e w2 ⟨q2,C2,rfl,iY,hb2,hf2,hz2⟩
 have XV:=aX hz2;have HU:Hid _:=iY
 have HB2:Hid (Below w.heap.size w w2):=qe HB1.out hb2;have AP:Hid (∀k,k<r.length->w.heap.size<=(aG q2 k).block):=fun k hk=>Nat.le_trans HB1.out.size (hf2 k hk)
 clear iY hb2 HB1 hle hf2 hz2;go_wp2;go_ret2
 exact⟨q2,C2,rfl,HU.out,HB2.out,AP.out,XV.out⟩
theorem W8(a:Option Addr)(n c:Nat)(b:Option Addr)(m d:Nat)(w:World)(hn1:n<=1000000)(hn2:m<=1000000)(hn:1024<n+m):
  Calls prog 101 #[.slice a n c,.slice b m d] w (LE 9 [] w):=by
 have hw1:IntKind.i64.wrap ((n:Int)+(m:Int))=((n+m:Nat):Int):=by rw[IntKind.wrap_i64];omega
 have hg1:(1024:Int)<((n+m:Nat):Int):=by omega
 go_enter func101,ntmps101
 go_wp2;go_ret2
 exact⟨none,0,rfl,Et,Below.refl _ _⟩
theorem lP(n m:Nat)(w:World)(_hn:n<=1000000)(_hm:m<=1000000):
  Calls prog 122 #[.int .i64 n,.int .i64 m] w fun e w'=>e=.returned (.bool (decide (1024<n*m)))/\w'=w:=by
 by_cases h0:n=0
 ·subst h0
  go_enter func122,ntmps122
  go_wp2;go_ret
  exact⟨by simp,rfl⟩
 ·have hpos:(0:Int)<(n:Int):=by omega
  have hne:¬((n:Int)=0):=by omega
  have hq:IntKind.i64.wrap ((1024:Int).tdiv (n:Int))=((1024 / n:Nat):Int):=by
   have:(1024:Int).tdiv (n:Int)=((1024 / n:Nat):Int):=rfl
   rw[this,IntKind.wrap_i64];have h2:=Nat.div_le_self 1024 n;generalize 1024 / n=q at *
   omega
  have HD:Hid (decide (1024 / n<m)=decide (1024<n*m)):=by
   show _=_
   have h1:1024 / n<m↔1024<n*m:=by rw[Nat.div_lt_iff_lt_mul (by omega),Nat.mul_comm]
   by_cases h:1024<n*m
   ·rw[decide_eq_true h,decide_eq_true (h1.2 h)]
   ·rw[decide_eq_false h,decide_eq_false fun k=>h (h1.1 k)]
  generalize 1024 / n=q at *;go_enter func122,ntmps122
  go_wp2;go_ret
  exact⟨by rw[<-HD.out];rfl,rfl⟩
theorem lR(l k:List Nat)(i j:Nat)(x:Nat)(hi:i<l.length)(hj:j<=k.length):(dI (l.take i) k++(k.take j).map fun y=>x ||| y).length<=l.length*k.length:=by
 rw[List.length_append,Oo,List.length_map,List.length_take,List.length_take,Nat.min_eq_left (by omega),Nat.min_eq_left hj]
 have:(i+1)*k.length<=l.length*k.length:=Nat.mul_le_mul_right _ hi
 rw[Nat.succ_mul]at this
 omega
theorem Uy{a:Option Addr}(h:fH w a n c l)(hk:k<n):w.cell? (aG a k)=some (.int .u64 (l.getD k 0:Nat)):=by
 rw[h.cell k hk]
 congr 2
 simp only[List.getD_eq_getElem?_getD,iU,List.getElem?_map]
 cases l[k]?<;>rfl
theorem Uz(h:Sm l)(hk:k<l.length):l.getD k 0<18446744073709551616:=by
 rw[List.getD_eq_getElem?_getD,kU hk];exact h _ (List.getElem_mem hk)
theorem XS(a:Option Addr)(n c:Nat)(l:List Nat)(b:Option Addr)(m d:Nat)(k:List Nat)(w:World)(hA:fH w a n c l)(hB:fH w b m d k)(sL:Sm l)(sK:Sm k)(hn:n*m<=1024)(hn1:n<=2000)(hm1:m<=2000):
  Calls prog 100 #[.slice a n c,.slice b m d] w (lz 0 (aJ (dI l k)) w):=by
 have hl:=hA.len;have hk:=hB.len;have sO:=lP n m w (by omega) (by omega)
 rw[decide_eq_false (by omega:¬(1024<n*m))]at sO
 have HL:Hid (∀w1 v,w1.ownsRow w.heap.size 37 1 v (dI l k).length ((iU (dI l k)).map (Value.int .u64))->∃q C,v=.slice q (dI l k).length C/\Calls prog 123 #[.slice q (dI l k).length C] w1 (XT (aJ (dI l k)) w1)):=fun w1 v ho=>by
  obtain⟨q,C,rfl,hU⟩:=MC ho;exact⟨q,C,rfl,lA q _ C _ w1 hU (WW sL sK) (by rw[Oo,<-hl,<-hk];omega)⟩
 have uh:Hid (dI (l.take n) k=dI l k):=by show _=_;rw[List.take_of_length_le (by omega)]
 have HN:Hid (∀i,i<n->dI (l.take (i+1)) k=dI (l.take i) k++(k.take m).map fun y=>l.getD i 0 ||| y):=fun i hi=>by
  rw[eA (by omega),List.take_of_length_le (l:=k) (by omega)]
 have HM:Hid (∀x j,j<m->((k.take (j+1)).map fun y=>x ||| y)=((k.take j).map fun y=>x ||| y)++[x ||| k.getD j 0]):=fun x j hj=>eB (by omega)
 have HW:Hid (∀i j x,i<n->j<=m->(dI (l.take i) k++(k.take j).map fun y=>x ||| y).length<=1024):=fun i j x hi hj=>by
  have:=lR l k i j x (by omega) (by omega)
  rw[<-hl,<-hk]at this
  omega
 have rE:Hid (∀i,i<n->∀wr,Below w.heap.size w wr->wr.cell? (aG a i)=some (.int .u64 (l.getD i 0:Nat))):=fun i hi wr hb=>Uy (hA.up hb) hi
 have AU:Hid (∀i,i<m->∀wr,Below w.heap.size w wr->wr.cell? (aG b i)=some (.int .u64 (k.getD i 0:Nat))):=fun i hi wr hb=>Uy (hB.up hb) hi
 have HO:Hid (∀i j,i<n->j<m->bits .or .u64 ((l.getD i 0:Nat):Int) ((k.getD j 0:Nat):Int)=((l.getD i 0 ||| k.getD j 0:Nat):Int)):=fun i j hi hj=>u64_or_nat _ _ (Uz sL (by omega)) (Uz sK (by omega))
 have zq:=fun (i:Nat) (w:World) (h:i<n)=>hA.idx n i w h bZ
 have vZ:=fun (i:Nat) (w:World) (h:i<m)=>hB.idx m i w h bZ
 clear hA hB sL sK hl hk hn;go_enter func100,ntmps100
 go_wp2_with fail
 refine sO.mono ?_
 rintro e w0 ⟨rfl,hw0⟩
 obtain rfl:w=w0:=hw0.symm
 clear sO;go_wp2
 go_loopw [6,18] (fun v i wr=>∃p:Nat,p<=n/\i=.int .i64 p/\Hid (wr.ownsRow w.heap.size 37 1 v (dI (l.take p) k).length ((iU (dI (l.take p) k)).map (Value.int .u64)))/\Hid (Below w.heap.size w wr)) (fun _ i _=>n-(intOf i).toNat)
 case atStart=>exact⟨0,Nat.zero_le _,rfl,⟨rfl,Or.inl ⟨rfl,rfl⟩⟩,Below.refl _ _⟩
 case round=>
  obtain⟨p,hp,rfl,HV,HB⟩:=hrel;by_cases hlt:p<n
  ·have hc:=rE.out p hlt wr HB.out
   have hx:=fun w'=>zq p w' hlt
   have PZ:Hid _:=HN.out p hlt;have JB:Hid (∀j x,j<=m->(dI (l.take p) k++(k.take j).map fun y=>x ||| y).length<=1024):=fun j x hj=>HW.out p j x hlt hj
   have JC:Hid (∀j,j<m->bits .or .u64 ((l.getD p 0:Nat):Int) ((k.getD j 0:Nat):Int)=((l.getD p 0 ||| k.getD j 0:Nat):Int)):=fun j hj=>HO.out p j hlt hj
   have JD:Hid (∀j,j<m->((k.take (j+1)).map fun y=>l.getD p 0 ||| y)=((k.take j).map fun y=>l.getD p 0 ||| y)++[l.getD p 0 ||| k.getD j 0]):=fun j hj=>HM.out _ j hj
   clear zq rE HN HW HO HM HL uh;generalize l.getD p 0=x at *;generalize hU:dI (l.take p) k=U at *;clear hU;go_wp2;clear hc hx
   go_loopw [6,24] (fun v i w3=>∃j:Nat,j<=m/\i=.int .i64 j/\Hid (w3.ownsRow w.heap.size 37 1 v (U++(k.take j).map fun y=>x ||| y).length ((iU (U++(k.take j).map fun y=>x ||| y)).map (Value.int .u64)))/\Hid (Below w.heap.size w w3)) (fun _ i _=>m-(intOf i).toNat)
   case atStart=>exact⟨0,Nat.zero_le _,rfl,by show World.ownsRow _ _ _ _ _ _ _;simpa using HV.out,HB⟩
   case round=>
    clear HV HB;obtain⟨j,hj,rfl,HV,HB⟩:=hrel;by_cases sQ:j<m
    ·have hc:=AU.out j sQ _ HB.out
     have hx:=fun w'=>vZ j w' sQ
     have hor:=JC.out j sQ;have P5:Hid _:=JD.out j sQ;have hbd:=JB.out j x (by omega)
     obtain⟨va,vc,rfl⟩:=PX HV.out;clear JB JC JD AU vZ PZ;generalize k.getD j 0=y at *;generalize hR:(U++(k.take j).map fun y=>x ||| y)=R at *;have UA:Hid (U++(k.take (j+1)).map (fun y=>x ||| y)=R++[x ||| y]):=by show _=_;rw[P5.out,<-List.append_assoc,hR]
     clear P5 hR;generalize x ||| y=z at *;have vY:Hid ((wr.alloc (.cells #[.int .u64 z] 37)).ownsRow w.heap.size 37 1 (.slice va R.length vc) R.length ((iU R).map (Value.int .u64))):=World.ownsRow.alloc HV.out _;have rE:Hid ((wr.alloc (.cells #[.int .u64 z] 37)).cell? ⟨wr.heap.size,0,none⟩=some (.int .u64 z)):=qc (dO wr _).1 0;have rF:Hid (Below w.heap.size w (wr.alloc (.cells #[.int .u64 z] 37))):=HB.out.alloc HB.out.size _;have hszA:w.heap.size<=(wr.alloc (.cells #[.int .u64 z] 37)).heap.size:=rF.out.size;have o8:Hid (∀q,(Value.slice va R.length vc).ownBlock=some q->w.heap.size<=q):=vO HV.out;clear HV HB
     go_wp2_with (at_builtin;refine Uw rfl _ _ rfl w.heap.size _ R.length (iU R) rfl vY.out wr.heap.size (z:Int) rfl rE.out (by omega) hszA ?_)
     intro v7 w7 jC mD;have FK:Hid (w7.ownsRow w.heap.size 37 1 v7 (R.length+1) ((iU R++[(z:Int)]).map (Value.int .u64))):=by show World.ownsRow _ _ _ _ _ _ _;simpa using jC
     have FM:Hid (Below w.heap.size w w7):=rF.out.grown mD hszA (fun q e=>o8.out q e)
     clear jC mD vY rE rF hszA o8;go_wp2
     go_roundw
     case rel=>
      refine⟨j+1,by omega,by go_num,?_,FM⟩
      show World.ownsRow _ _ _ _ _ _ _
      rw[UA.out,List.length_append,Ux];exact FK.out
     case measure=>simp[intOf];omega
    ·obtain rfl:j=m:=by omega
     clear JB JC JD AU vZ;go_wp2
     go_roundw
     case rel=>
      refine⟨p+1,by omega,by go_num,?_,HB⟩
      show World.ownsRow _ _ _ _ _ _ _
      rw[PZ.out];exact HV.out
     case measure=>simp[intOf];omega
  ·obtain rfl:p=n:=by omega
   have jK:Hid _:=HV.out;rw[uh.out]at jK;obtain⟨q,C,rfl,hle⟩:=HL.out wr _ jK.out;clear HV jK HN HM HW rE AU HO HL uh zq vZ;generalize aJ (dI l k)=r at *;generalize (dI l k).length=N at *
   go_wp2_with fail
   refine hle.mono ?_
   rintro e w2 ⟨q2,C2,rfl,iY,hb2,hf2,hz2⟩
   have XV:=aX hz2;have HU:Hid _:=iY
   have HB2:Hid (Below w.heap.size w w2):=qe HB.out hb2;have AP:Hid (∀k,k<r.length->w.heap.size<=(aG q2 k).block):=fun k hk=>Nat.le_trans HB.out.size (hf2 k hk)
   clear iY hb2 hle hf2 hz2;go_wp2;go_ret2
   exact⟨q2,C2,rfl,HU.out,HB2.out,AP.out,XV.out⟩
theorem Ys(a:Option Addr)(n c:Nat)(b:Option Addr)(m d:Nat)(w:World)(hn1:n<=2000)(hm1:m<=2000)(hn:1024<n*m):
  Calls prog 100 #[.slice a n c,.slice b m d] w (LE 9 [] w):=by
 have sO:=lP n m w (by omega) (by omega)
 rw[decide_eq_true hn]at sO;clear hn;go_enter func100,ntmps100
 go_wp2_with fail
 refine sO.mono ?_
 rintro e w0 ⟨rfl,hw0⟩
 obtain rfl:w=w0:=hw0.symm
 clear sO;go_wp2;go_ret2
 exact⟨none,0,rfl,Et,Below.refl _ _⟩
def fK(w:World):Prop:=∀j,j<64->w.cell? ⟨0,j,none⟩=some (.int .u8 (Lib.deBruijn64tab.getD j 0:Nat))
theorem fK.up(h:fK w)(hb:Below w.heap.size w w'):fK w':=fun j hj=>qf (h j hj) hb
theorem Zs(x k idx:Nat)(w:World)(hx0:((x:Int)==0)=false)
  (key:IntKind.u64.wrap (bits BinOp.and IntKind.u64 (x:Int) (IntKind.u64.wrap (-(x:Int)))*285870213051353865) / 288230376151711744=(idx:Int))
  (hi:idx<64) (hk:k<64) (hcell:w.cell? ⟨0,idx,none⟩=some (.int .u8 k)):
  Calls prog 102 #[.int .u64 x] w fun e w'=>e=.returned (.int .i64 k)/\w'=w:=by
 go_enter func102,ntmps102
 go_wp2_with (simp only[key])
 go_ret
 exact⟨rfl,rfl⟩
theorem ZD(x a:Nat)(hx:x<18446744073709551616)(hx0:x≠0)(hlow:x &&& (18446744073709551616-x)=a):
  IntKind.u64.wrap (bits BinOp.and IntKind.u64 (x:Int) (IntKind.u64.wrap (-(x:Int)))*285870213051353865) / 288230376151711744=((a*285870213051353865 % 18446744073709551616 / 288230376151711744:Nat):Int):=by
 have e1:IntKind.u64.wrap (-(x:Int))=((18446744073709551616-x:Nat):Int):=by rw[IntKind.wrap_u64];omega
 rw[e1,u64_and_nat x _ hx (by omega),hlow,IntKind.wrap_u64]
 omega
theorem ZS(x:Nat)(hx:x<2 ^ 64)(hx0:x≠0)(w:World)(hT:fK w):
  Calls prog 102 #[.int .u64 x] w fun e w'=>e=.returned (.int .i64 (Lib.ctz 64 x:Nat))/\w'=w:=by
 obtain⟨hlow,hk⟩:=Lib.lowest_bit 64 x hx0 hx;obtain⟨hi,htab⟩:=Lib.deBruijn64_at _ hk;have hcell:=hT _ hi;rw[htab]at hcell;exact Zs x _ _ w (by simp;omega) (ZD x _ hx hx0 hlow) hi hk hcell
theorem qbv:(prog.info? 3).map (fun i=>(i.zero,i.size,i.bytes))=some (some (.int .i64 0),1,8):=by kernel_rfl
theorem Z6:(prog.info? 3).map (·.size)=some 1:=by kernel_rfl
theorem l8{w:World}{ops:Array Oper}{rest:List Oper}{a:Act}{Q:Exit->Act->World->Prop}(hgd:o.guard=none)(s x:Operand)
  (ho:o.op=.call { callee:=.builtin .append,args:=#[s,x],argTypes:=#[71,71] }) (base:Nat)
  (v:Value) (n:Nat) (zs:List Int) (hs:a.eval s=v) (hown:w.ownsRow base 3 1 v n (zs.map (Value.int .i64))) (g':Nat) (z:Int) (hx:a.eval x=.slice (some ⟨g',0,none⟩) 1 1) (hc:w.cell? ⟨g',0,none⟩=some (.int .i64 z))
  (hn:n+1<=2000000) (hbase:base<=w.heap.size)
  (h:∀v' w',w'.ownsRow base 3 1 v' (n+1) ((zs++[z]).map (Value.int .i64))->w.grownBy w' v.ownBlock->wpList prog ops Q rest (a.put o.dst v') w'):wpList prog ops Q (o::rest) a w:=by
 obtain⟨i,hi,hz0,hz1,hz2⟩:=info_parts qbv;refine wpList_append_own w hgd s x 71 ho base 3 i _ 1 8 underlying71 hi hz0 hz1 hz2 rfl (by decide) v n _ hs hown ⟨g',0,none⟩ 1 1 [.int .i64 z] hx rfl ?_ (fun u hu=>by simp at hu;subst hu;rfl) (by unfold maxLen;omega) (by omega) hbase ?_
 ·intro j u hj
  match j with
  | 0=>simp at hj;rw[<-hj,qi];exact hc
  |j+1=>simp at hj
 ·intro v' w' h1 h2 _
  exact h v' w' (by rw[List.map_append];exact h1) h2
abbrev MF(w:World)(a:Option Addr)(len cap:Nat)(l:List Nat):Prop:=dh prog 71 .i64 w a len cap (iU l)
theorem me(h:w.ownsRow base 3 1 v n ((iU l).map (Value.int .i64))):∃a cap,v=.slice a n cap/\MF w a n cap l:=by
 obtain⟨hl,h⟩:=h;simp at hl
 rcases h with⟨rfl,rfl⟩|⟨g,cap,cur,rfl,hg,hcell,hnc,hcm,hsz,htk⟩
 ·have:l=[]:=List.eq_nil_of_length_eq_zero hl
  subst this;exact⟨none,0,rfl,⟨rfl,bZ,Nat.zero_le _,fun m k w hk hm=>absurd hk (by omega),fun k hk=>absurd hk (by omega),fun k hk=>absurd hk (by omega),fun _=>rfl⟩⟩
 ·have had:∀k,aG (some ⟨g,0,none⟩) k=⟨g,k,none⟩:=fun k=>by simp[aG,qi]
  have hlt:g<w.heap.size:=(lC hcell).1
  refine⟨some ⟨g,0,none⟩,cap,rfl,⟨by simpa using hl,hnc,hcm,fun m k w hk hm=>yK underlying71 Z6 (by simp) k w hk,fun k hk=>?_,fun k hk=>by rw[had];exact hlt,by simp⟩⟩
  rw[had]
  have hk2:(cur.toList.take (n*1))[k]? =some (.int .i64 ((iU l).getD k 0)):=by
   rw[htk];simp[List.getD_eq_getElem?_getD,List.getElem?_eq_getElem (show k<l.length by omega)]
  rw[List.getElem?_take,if_pos (by omega)]at hk2
  simp[World.cell?,hcell]
  simpa using hk2
def IR(r:List Nat)(w:World)(e:Ending)(w':World):Prop:=∃(a:Option Addr) (c:Nat),e=.returned (.slice a r.length c)/\MF w' a r.length c r/\Below w.heap.size w w'
theorem P6(w:World):Calls prog 75 #[] w (sJ [0] w):=by
 have HU:Hid _:=OB [0] w (by decide)
 have HB:Hid _:=qd w (.cells ((iU [0]).map (Value.int .u64)).toArray 37);go_enter func75,ntmps75
 go_wp2;go_ret
 exact⟨_,_,rfl,HU.out,HB.out,fun k _=>by simp[aG,qi]⟩
def P7(p:Nat):Value:=.pointer (some ⟨p,0,none⟩)
structure US(w:World)(F:Nat->Prop)(a:Option Addr)(n c:Nat)(l:List Nat):Prop where
 sl:fH w a n c l
 nf:∀k,k<n->¬F (aG a k).block
theorem US.fr{F F':Nat->Prop}{a:Option Addr}(h:US w F a n c l)(fr:Fr w w' F F'):US w' F' a n c l:=⟨fr.lq h.sl h.nf,fun k hk=>fr.out (h.nf k hk) (h.sl.blk k hk)⟩
theorem US.up{w w':World}{F:Nat->Prop}{a:Option Addr}{n c:Nat}{l:List Nat}(h:US w F a n c l)(hb:Below w.heap.size w w'):US w' F a n c l:=⟨h.sl.up hb,h.nf⟩
theorem mh(w:World)(F:Nat->Prop):US w F none 0 0 []:=⟨Et,fun k hk=>absurd hk (by omega)⟩
end Go.Proofs.YtoioiellaomonaaGreatDoor
