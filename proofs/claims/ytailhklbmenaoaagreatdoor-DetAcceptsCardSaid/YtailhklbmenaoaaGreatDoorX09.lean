/- Texts of the proof, put together: what it uses. -/
import Derived.Laws.Bits64b
import Derived.Lib.AppendZerosOnto
import Derived.Lib.LazyBuf
import Derived.Laws.BitsAllLaws
import Derived.Test.YtailhklbmenaoaaGreatDoorX02
import Derived.Test.YtailhklbmenaoaaGreatDoorX04
import Derived.Test.YtailhklbmenaoaaGreatDoorX05
import Derived.Test.YtailhklbmenaoaaGreatDoorX06
import Derived.Test.YtailhklbmenaoaaGreatDoorX08
set_option maxRecDepth 100000
set_option maxHeartbeats 16000000
namespace Go.Proofs.YtailhklbmenaoaaGreatDoor
open Go.RowKit Go.Maps
open Go.Sort (swp PermIn SortedIn xorNextN bitsLen)
def XB (w:World) (rb X:Nat):Prop:=w.heap[rb]? =some (.cells #[.int .u64 (X:Int)] 197 (0,0))
theorem XB.ne{w:World}{g rb X:Nat}{d:Array Int}{t:List Int}(h:XB w rb X)(k:SoAt w g d t):g≠rb:=fun e=>by
 unfold XB at h;unfold SoAt at k;rw[<-e,k]at h;injection h with h;injection h with _ h _;exact absurd h (by decide)
theorem qb9(rb X:Nat)(hX:X<18446744073709551616)(w:World)(h:XB w rb X):
  Calls Tryz.prog 139 #[.pointer (some ⟨rb,0,none⟩)] w fun e w'=>∃Y:Nat,e=.returned (.int .u64 (Y:Int))/\Y<18446744073709551616/\XB w' rb Y/\w.grownBy w' (some rb):=by
 refine (AnyF.xorshift_Next qc1 rb 0 X hX w (qb h 0) (frozen_of_row w rb 0 _ _ h)).mono ?_
 rintro e w' ⟨rfl,rfl⟩
 refine⟨xorNextN X,rfl,Go.Sort.xorNextN_lt X hX,?_,qi (ql (World.grownBy.refl _ _) _) _⟩
 have hs:XB (w.setCell ⟨rb,0,none⟩ (.int .u64 ((xorNextN X:Nat):Int))) rb (xorNextN X):=by
  unfold XB;rw[heap_setCell_same _ rb 0 _ _ _ h];rfl
 exact((below_drewN (Below.refl _ (w.setCell ⟨rb,0,none⟩ (.int .u64 ((xorNextN X:Nat):Int)))) 3).block rb (aes hs).1).trans hs
theorem qik{L:Nat}(h:0<L):1<=1 <<< bitsLen L/\1 <<< bitsLen L<=2*L:=by
 unfold bitsLen;rw[if_neg (by omega),Nat.shiftLeft_eq,Nat.one_mul,Nat.pow_succ]
 have h1:=Nat.log2_self_le (n:=L) (by omega)
 have h2:=Nat.two_pow_pos L.log2
 omega
theorem q8N(g c a b:Nat)(d:Array Int)(t:List Int)(w:World)(h:SoAt w g d t)(hab:a+12<b)(hb:b<=d.size)(hn:d.size<=1000000):
  Calls Tryz.prog 109 #[.slice (some ⟨g,0,none⟩) d.size c,.int .i64 (a:Int),.int .i64 (b:Int)] w fun e w'=>e=.returned (.tuple #[])/\∃d',PermIn a b d d'/\d'.size=d.size/\SoAt w' g d' t/\w.grownBy w' (some g):=by
 obtain⟨N,hN⟩:∃N,d.size=N:=⟨_,rfl⟩
 obtain⟨L,hL⟩:∃L,L=b-a:=⟨_,rfl⟩
 obtain⟨T,hT⟩:∃T,T=L / 4:=⟨_,rfl⟩
 obtain⟨T2,hT2⟩:∃T2,T2=T*2:=⟨_,rfl⟩
 obtain⟨J,hJ⟩:∃J,J=a+T2:=⟨_,rfl⟩
 obtain⟨J0,hJ0⟩:∃J0,J0=J-1:=⟨_,rfl⟩
 obtain⟨J1,hJ1⟩:∃J1,J1=J+1:=⟨_,rfl⟩
 obtain⟨M,hM⟩:∃M,M=1 <<< bitsLen L:=⟨_,rfl⟩
 obtain⟨M1,hM1⟩:∃M1,M1=M-1:=⟨_,rfl⟩
 have hpw:=qik (L:=L) (by omega)
 rw[<-hM]at hpw;have HS0:=hiq h;have HD0:=hiq hN;have wL:IntKind.i64.wrap ((b:Int)-(a:Int))=(L:Int):=by rw[IntKind.wrap_i64];omega
 have eL:(b:Int)-(a:Int)=(L:Int):=by omega
 have h8:((8:Int)<=(L:Int)):=by omega
 have tT:((L:Int)).tdiv 4=(T:Int):=by rw[Int.tdiv_eq_ediv_of_nonneg (by omega)];omega
 have wT2:IntKind.i64.wrap ((T:Int)*2)=(T2:Int):=by rw[IntKind.wrap_i64];omega
 have eT2:(T:Int)*2=(T2:Int):=by omega
 have wJ:IntKind.i64.wrap ((a:Int)+(T2:Int))=(J:Int):=by rw[IntKind.wrap_i64];omega
 have eJ:(a:Int)+(T2:Int)=(J:Int):=by omega
 have wJ0:IntKind.i64.wrap ((J:Int)-1)=(J0:Int):=by rw[IntKind.wrap_i64];omega
 have eJ0:(J:Int)-1=(J0:Int):=by omega
 have wJ1:IntKind.i64.wrap ((J:Int)+1)=(J1:Int):=by rw[IntKind.wrap_i64];omega
 have eJ1:(J:Int)+1=(J1:Int):=by omega
 have wX:IntKind.u64.wrap (L:Int)=(L:Int):=by rw[IntKind.wrap_u64];omega
 have wM:IntKind.u64.wrap ((M:Int)-1)=(M1:Int):=by rw[IntKind.wrap_u64];omega
 have eM:(M:Int)-1=(M1:Int):=by omega
 have wM1:IntKind.u64.wrap (M1:Int)=(M1:Int):=by rw[IntKind.wrap_u64];omega
 have HF:Hid (a<=J0/\J1<b/\J1=J0+2/\M1<2*L/\L=b-a/\M1<2000000):=⟨by omega,by omega,by omega,by omega,by omega,by omega⟩
 have hnp:=q5E L (by omega)
 rw[<-hM]at hnp;have hb1:=qc w (.cells #[.int .u64 (L:Int)] 197);have HX1:Hid (XB (w.alloc (.cells #[.int .u64 (L:Int)] 197)) w.heap.size L):=(mha w _).1;have HS1:Hid (SoAt (w.alloc (.cells #[.int .u64 (L:Int)] 197)) g d t):=(hb1.block g h.lt).trans h;have HG1:Hid (w.grownBy (w.alloc (.cells #[.int .u64 (L:Int)] 197)) (some g)):=⟨hb1.os,hb1.tape,hb1.output,hb1.size,fun j hj _=>hb1.block j hj⟩
 have HP1:Hid (PermIn a b d d):=Go.Sort.permIn_refl d a b;have HB:=hiq hb;rw[hN]at hb hn ⊢;have hLN:L<=1000000:=by omega
 have hTb:T<=1000000:=by omega
 have hT2b:T2<=2000000:=by omega
 have hJb:J<=3000000:=by omega
 have hJp:1<=J:=by omega
 clear h hN hL hT hT2 hJ hJ0 hJ1 hM hM1 hpw hb1;go_enter Tryz.func109,Tryz.ntmps109
 go_wp2_with fail
 generalize w.alloc (.cells #[.int .u64 (L:Int)] 197)=w1 at *;refine (hnp w1).mono ?_
 rintro e w2 ⟨rfl,hw2⟩
 obtain rfl:=hw2.symm
 clear hnp;go_wp2
 go_loopw [9] (fun iv wr=>∃i:Nat,J0<=i/\i<=J1+1/\iv=.int .i64 (i:Int)/\∃(dk:Array Int) (X:Nat),Hid (dk.size=N)/\Hid (SoAt wr g dk t)/\Hid (PermIn a b d dk)/\Hid (XB wr w.heap.size X)/\Hid (X<18446744073709551616)/\Hid (w.grownBy wr (some g))) (fun iv _=>J1+1-(intOf iv).toNat)
 case atStart=>exact⟨J0,nlr,by have:=HF.out;omega,by first|rfl|go_num,d,L,HD0,HS1,HP1,HX1,by show _<_;omega,HG1⟩
 case round=>
  obtain⟨i,hi1,hi2,rfl,dk,X,HD,HS,HP,HX,HXL,HG⟩:=hrel;clear HD0 HS1 HP1 HX1 HG1 HS0;by_cases hij:i<=J1
  ·have hij':(i:Int)<=(J1:Int):=by omega
   have hne:=XB.ne HX.out HS.out;have hnx:=qb9 w.heap.size X HXL.out wr HX.out
   go_wp2_with fail
   refine hnx.mono ?_
   rintro e w3 ⟨Y,rfl,hY,hx3,hg3⟩
   have HS3:Hid (SoAt w3 g dk t):=SoAt.grown HS.out hg3 hne;have HX3:=hiq hx3;have HY:=hiq hY
   have HG3:Hid (w.grownBy w3 (some g)):=by
    have h1:=HG.out;exact⟨hg3.os.trans h1.os,hg3.tape.trans h1.tape,hg3.output.trans h1.output,Nat.le_trans h1.size hg3.size,fun j hj hn=>(hg3.block j (Nat.lt_of_lt_of_le hj h1.size) (fun e=>by injection e with e;omega)).trans (h1.block j hj hn)⟩
   clear hnx hx3 hg3 HS HG HX HXL;have hF:=HF.out;obtain⟨O,hO⟩:∃O,O=Y &&& M1:=⟨_,rfl⟩
   have hOM:O<=M1:=by rw[hO];exact Nat.and_le_right
   have hand:bits BinOp.and IntKind.u64 (Y:Int) (M1:Int)=(O:Int):=by rw[bits_and_u64_nat Y M1 hY (by omega),hO]
   have wO:IntKind.i64.wrap (O:Int)=(O:Int):=by rw[IntKind.wrap_i64];omega
   clear hO hY;by_cases hOL:L<=O
   ·have hOL':(L:Int)<=(O:Int):=by omega
    obtain⟨O2,hO2⟩:∃O2,O2=O-L:=⟨_,rfl⟩
    have wO2:IntKind.i64.wrap ((O:Int)-(L:Int))=(O2:Int):=by rw[IntKind.wrap_i64];omega
    have eO2:(O:Int)-(L:Int)=(O2:Int):=by omega
    obtain⟨Q,hQ⟩:∃Q,Q=a+O2:=⟨_,rfl⟩
    have wQ:IntKind.i64.wrap ((a:Int)+(O2:Int))=(Q:Int):=by rw[IntKind.wrap_i64];omega
    have eQ:(a:Int)+(O2:Int)=(Q:Int):=by omega
    have hQ1:a<=Q:=by omega
    have hQ2:Q<b:=by omega
    clear hO2 hQ;have HPS:Hid (PermIn a b d (swp dk i Q)):=Go.Sort.permIn_trans _ _ _ _ _ HP.out (Go.Sort.swp_permIn dk a b i Q (by omega) (by omega) hQ1 hQ2 (by rw[HD.out];omega))
    have hib:i<b:=by omega
    clear HP hF;go_wp2;have hi1:=fun w'=>qf g N c i w' (by omega)
    have hi2:=fun w'=>qf g N c Q w' (by omega)
    have hsw:SoAt w3 g dk t:=HS3.out;have c3:=hsw.cell (i:=i) (by rw[HD.out];omega)
    have c4:=hsw.cell (i:=Q) (by rw[HD.out];omega)
    have f3:=hsw.fz i;have f4:=hsw.fz Q;have hswb:SoAt (w3.setCell ⟨g,i,none⟩ (.int .u64 dk[Q]!)) g (dk.setIfInBounds i dk[Q]!) t:=hsw.set (by rw[HD.out];omega) _
    have f5:=hswb.fz Q;have c5:=hswb.cell (i:=Q) (by rw[Array.size_setIfInBounds,HD.out];omega)
    have HSa7:Hid (SoAt ((w3.setCell ⟨g,i,none⟩ (.int .u64 dk[Q]!)).setCell ⟨g,Q,none⟩ (.int .u64 dk[i]!)) g (swp dk i Q) t):=hsw.swap (by rw[HD.out];omega) (by rw[HD.out];omega)
    have HGa7:Hid (w.grownBy ((w3.setCell ⟨g,i,none⟩ (.int .u64 dk[Q]!)).setCell ⟨g,Q,none⟩ (.int .u64 dk[i]!)) (some g)):=ql (ql HG3.out _) _;have HD7:Hid ((swp dk i Q).size=N):=by show _=_;rw[Go.Sort.size_swp];exact HD.out
    have HXa:Hid (XB ((w3.setCell ⟨g,i,none⟩ (.int .u64 dk[Q]!)).setCell ⟨g,Q,none⟩ (.int .u64 dk[i]!)).drew w.heap.size Y):=(Below.heap_setCell _ _ _ _ (fun e=>hne e.symm)).trans ((Below.heap_setCell _ _ _ _ (fun e=>hne e.symm)).trans HX3.out)
    clear hsw hswb;generalize (dk.setIfInBounds i dk[Q]!)[Q]! = ysw at *;generalize dk[i]! = xi at *;generalize dk[Q]! = xj at *
    go_upto_region 15 with fail
    go_region
    all_goals
     have HS7:Hid (SoAt ((w3.setCell ⟨g,i,none⟩ (.int .u64 xj)).setCell ⟨g,Q,none⟩ (.int .u64 xi)).drew g (swp dk i Q) t):=SoAt.drew HSa7.out;have HG7:Hid (w.grownBy ((w3.setCell ⟨g,i,none⟩ (.int .u64 xj)).setCell ⟨g,Q,none⟩ (.int .u64 xi)).drew (some g)):=qt HGa7.out;clear HSa7 HGa7 c3 c4 f3 f4 f5 c5 hi1 hi2;generalize ((w3.setCell ⟨g,i,none⟩ (.int .u64 xj)).setCell ⟨g,Q,none⟩ (.int .u64 xi)).drew=w7 at *;generalize swp dk i Q=d7 at *;have HX7:Hid (XB w7 w.heap.size Y):=HXa.out;go_wp2
     go_roundw
     case rel=>exact⟨i+1,by omega,by omega,by go_num,d7,Y,HD7,HS7,HPS,HX7,HY,HG7⟩
     case measure=>simp[intOf];omega
   ·have hOL':¬(L:Int)<=(O:Int):=by omega
    obtain⟨Q,hQ⟩:∃Q,Q=a+O:=⟨_,rfl⟩
    have wQ:IntKind.i64.wrap ((a:Int)+(O:Int))=(Q:Int):=by rw[IntKind.wrap_i64];omega
    have eQ:(a:Int)+(O:Int)=(Q:Int):=by omega
    have hQ1:a<=Q:=by omega
    have hQ2:Q<b:=by omega
    clear hQ;have HPS:Hid (PermIn a b d (swp dk i Q)):=Go.Sort.permIn_trans _ _ _ _ _ HP.out (Go.Sort.swp_permIn dk a b i Q (by omega) (by omega) hQ1 hQ2 (by rw[HD.out];omega))
    have hib:i<b:=by omega
    clear HP hF;go_wp2;have hi1:=fun w'=>qf g N c i w' (by omega)
    have hi2:=fun w'=>qf g N c Q w' (by omega)
    have hsw:SoAt w3 g dk t:=HS3.out;have c3:=hsw.cell (i:=i) (by rw[HD.out];omega)
    have c4:=hsw.cell (i:=Q) (by rw[HD.out];omega)
    have f3:=hsw.fz i;have f4:=hsw.fz Q;have hswb:SoAt (w3.setCell ⟨g,i,none⟩ (.int .u64 dk[Q]!)) g (dk.setIfInBounds i dk[Q]!) t:=hsw.set (by rw[HD.out];omega) _
    have f5:=hswb.fz Q;have c5:=hswb.cell (i:=Q) (by rw[Array.size_setIfInBounds,HD.out];omega)
    have HSa7:Hid (SoAt ((w3.setCell ⟨g,i,none⟩ (.int .u64 dk[Q]!)).setCell ⟨g,Q,none⟩ (.int .u64 dk[i]!)) g (swp dk i Q) t):=hsw.swap (by rw[HD.out];omega) (by rw[HD.out];omega)
    have HGa7:Hid (w.grownBy ((w3.setCell ⟨g,i,none⟩ (.int .u64 dk[Q]!)).setCell ⟨g,Q,none⟩ (.int .u64 dk[i]!)) (some g)):=ql (ql HG3.out _) _;have HD7:Hid ((swp dk i Q).size=N):=by show _=_;rw[Go.Sort.size_swp];exact HD.out
    have HXa:Hid (XB ((w3.setCell ⟨g,i,none⟩ (.int .u64 dk[Q]!)).setCell ⟨g,Q,none⟩ (.int .u64 dk[i]!)).drew w.heap.size Y):=(Below.heap_setCell _ _ _ _ (fun e=>hne e.symm)).trans ((Below.heap_setCell _ _ _ _ (fun e=>hne e.symm)).trans HX3.out)
    clear hsw hswb;generalize (dk.setIfInBounds i dk[Q]!)[Q]! = ysw at *;generalize dk[i]! = xi at *;generalize dk[Q]! = xj at *
    go_upto_region 15 with fail
    go_region
    all_goals
     have HS7:Hid (SoAt ((w3.setCell ⟨g,i,none⟩ (.int .u64 xj)).setCell ⟨g,Q,none⟩ (.int .u64 xi)).drew g (swp dk i Q) t):=SoAt.drew HSa7.out;have HG7:Hid (w.grownBy ((w3.setCell ⟨g,i,none⟩ (.int .u64 xj)).setCell ⟨g,Q,none⟩ (.int .u64 xi)).drew (some g)):=qt HGa7.out;clear HSa7 HGa7 c3 c4 f3 f4 f5 c5 hi1 hi2;generalize ((w3.setCell ⟨g,i,none⟩ (.int .u64 xj)).setCell ⟨g,Q,none⟩ (.int .u64 xi)).drew=w7 at *;generalize swp dk i Q=d7 at *;have HX7:Hid (XB w7 w.heap.size Y):=HXa.out;go_wp2
     go_roundw
     case rel=>exact⟨i+1,by omega,by omega,by go_num,d7,Y,HD7,HS7,HPS,HX7,HY,HG7⟩
     case measure=>simp[intOf];omega
  ·have hij':¬(i:Int)<=(J1:Int):=by omega
   go_wp2
   go_end0
   exact⟨rfl,dk,HP.out,HD.out,HS.out,HG.out⟩
end Go.Proofs.YtailhklbmenaoaaGreatDoor
namespace Go.Proofs.YtailhklbmenaoaaGreatDoor
open Go.RowKit Go.Maps
open Go.Sort (swp PermIn SortedIn)
def PdqC (n:Nat):Prop:=∀(g c a b lim:Nat) (d:Array Int) (t:List Int) (w:World),SoAt w g d t->a<=b->b<=d.size->d.size<=1000000->lim<=64->b-a<n->Go.Sort.Below lt64 a b d ->
 Calls Tryz.prog 87 #[.slice (some ⟨g,0,none⟩) d.size c,.int .i64 (a:Int),.int .i64 (b:Int),.int .i64 (lim:Int)] w fun e w'=>e=.returned (.tuple #[])/\∃d',PermIn a b d d'/\SortedIn lt64 a b d'/\SoAt w' g d' t/\w.grownBy w' (some g)
theorem qeQ{w w':World}(h:w.grownBy w' none)(g:Nat):w.grownBy w' (some g):=⟨h.os,h.tape,h.output,h.size,fun j hj _=>h.block j hj (fun e=>by cases e)⟩
theorem qbf(n:Nat)(IH:PdqC n):PdqC (n+1):=by
 intro g c a0 b0 lim0 d0 t w h hab hb hn hlim hlt hB;obtain⟨N,hN⟩:∃N,d0.size=N:=⟨_,rfl⟩
 have HS0:=hiq h;have HD0:=hiq hN;have HG0:Hid (w.grownBy w (some g)):=World.grownBy.refl _ _;have HQ0:Hid (PQ a0 b0 a0 b0 d0 d0):=qgX hab hB;have HBB:=hiq hb;have HIH:=hiq IH;have HFIN:Hid (∀(a b:Nat) (d d':Array Int) (w':World),PQ a0 b0 a b d0 d->PermIn a b d d'->SortedIn lt64 a b d'->SoAt w' g d' t->w.grownBy w' (some g)->∃d',PermIn a0 b0 d0 d'/\SortedIn lt64 a0 b0 d'/\SoAt w' g d' t/\w.grownBy w' (some g)):=fun a b d d' w' hq hp hs h1 h2=>⟨d',hq.up hb hp,hq.fin d' hp hs,h1,h2⟩
 rw[hN]at hb hn ⊢;clear h hN hB IH;go_enter Tryz.func87,Tryz.ntmps87
 go_wp2
 go_loopw [1,2,3,8,9] (fun av bv lv f1v f2v wr=>∃(a b lim:Nat) (f1 f2:Bool),av=.int .i64 (a:Int)/\bv=.int .i64 (b:Int)/\lv=.int .i64 (lim:Int)/\f1v=.bool f1/\f2v=.bool f2/\lim<=64/\∃dk:Array Int,Hid (dk.size=N)/\Hid (SoAt wr g dk t)/\Hid (PQ a0 b0 a b d0 dk)/\Hid (w.grownBy wr (some g))) (fun av bv _ _ _ _=>(intOf bv-intOf av).toNat)
 case atStart=>exact⟨a0,b0,lim0,true,true,rfl,rfl,rfl,rfl,rfl,hlim,d0,HD0,HS0,HQ0,HG0⟩
 case round=>
  obtain⟨a,b,lim,f1,f2,rfl,rfl,rfl,rfl,rfl,hlm,dk,HD,HS,HQ,HG⟩:=hrel;clear HS0 HD0 HG0 HQ0;have q1:=HQ.out.a1;have q2:=HQ.out.ab;have q3:=HQ.out.b1;obtain⟨L,hL⟩:∃L,L=b-a:=⟨_,rfl⟩
  have wL:IntKind.i64.wrap ((b:Int)-(a:Int))=(L:Int):=by rw[IntKind.wrap_i64];omega
  have eL:(b:Int)-(a:Int)=(L:Int):=by omega
  have HL:=hiq hL;by_cases h12:L<=12
  ·have h12':(L:Int)<=12:=by omega
   have hins:=q6S g c a b dk t wr HS.out q2 (by rw[HD.out];omega) (by rw[HD.out];omega)
   have HI:Hid _:=Go.Sort.insertionSort_holds swo64 dk a b q2 (by rw[HD.out];omega)
   rw[HD.out]at hins;clear hL
   go_wp2_with fail
   refine hins.mono ?_
   rintro e w1 ⟨rfl,hs1,hg1⟩
   have HZ:Hid _:=HFIN.out a b dk _ w1 HQ.out HI.out.1 HI.out.2 hs1 (qA HG.out hg1);clear hins hs1 hg1;go_wp2;refine bodyPost_ret (results_none rfl _ _ _) rfl ?_
   exact⟨rfl,HZ.out⟩
  ·have h12':¬(L:Int)<=12:=by omega
   have hab12:a+12<b:=by omega
   by_cases hl0:lim=0
   ·have hl0':((lim:Int)==0)=true:=by rw[beq_iff_eq];omega
    have hhp:=q6y g c a b dk t wr HS.out (by omega) (by rw[HD.out];omega) (by rw[HD.out];omega)
    have HI:Hid _:=Go.Sort.heapSort_holds swo64 dk a b q2 (by rw[HD.out];omega)
    rw[HD.out]at hhp;clear hL hl0
    go_wp2_with fail
    refine hhp.mono ?_
    rintro e w1 ⟨rfl,hs1,hg1⟩
    have HZ:Hid _:=HFIN.out a b dk _ w1 HQ.out HI.out.1 HI.out.2 hs1 (qA HG.out hg1);clear hhp hs1 hg1;go_wp2;refine bodyPost_ret (results_none rfl _ _ _) rfl ?_
    exact⟨rfl,HZ.out⟩
   ·have hl0':((lim:Int)==0)=false:=by rw[bqn];omega
    obtain⟨lm,hlm1⟩:∃lm,lm=lim-1:=⟨_,rfl⟩
    have wlm:IntKind.i64.wrap ((lim:Int)-1)=(lm:Int):=by rw[IntKind.wrap_i64];omega
    have elm:(lim:Int)-1=(lm:Int):=by omega
    have hlm2:lm<=64:=by omega
    have hbr:=q8N g c a b dk t wr HS.out hab12 (by rw[HD.out];omega) (by rw[HD.out];omega)
    rw[HD.out]at hbr;clear hL hl0 hlm1
    go_upto_if 35 with fail
    go_cut [3] (fun lv wx=>∃l1:Nat,lv=.int .i64 (l1:Int)/\l1<=64/\∃d1:Array Int,Hid (d1.size=N)/\Hid (SoAt wx g d1 t)/\Hid (PQ a0 b0 a b d0 d1)/\Hid (w.grownBy wx (some g)))
    case first=>
     cases f1 with
     |true=>
      go_wp2
      go_meet
      case rel=>exact⟨lim,rfl,hlm,dk,HD,HS,HQ,HG⟩
     |false=>
      go_wp2_with fail
      refine hbr.mono ?_
      rintro e w1 ⟨rfl,d1,hp1,hz1,hs1,hg1⟩
      have HQ1:Hid (PQ a0 b0 a b d0 d1):=HQ.out.move HBB.out hp1;have HS1:=hiq hs1;have HD1:=hiq hz1;have HG1:Hid (w.grownBy w1 (some g)):=qA HG.out hg1;clear hbr hp1 hz1 hs1 hg1;go_wp2
      go_meet
      case rel=>exact⟨lm,rfl,hlm2,d1,HD1,HS1,HQ1,HG1⟩
    case rest=>
     obtain⟨l1,rfl,hl1,d1,HD1,HS1,HQ1,HG1⟩:=hcut;clear hbr HD HS HQ HG wlm elm hl0' hlm2;generalize wc=w1 at *;have hch:=q7F g c a b d1 t w1 HS1.out hab12 (by rw[HD1.out];omega) (by rw[HD1.out];omega)
     rw[HD1.out]at hch
     go_wp2_with fail
     refine hch.mono ?_
     rintro e w2 ⟨q,k,rfl,hqa,hqb,hk,hs2,hg2⟩
     have HS2:=hiq hs2;have HG2:Hid (w.grownBy w2 (some g)):=qA HG1.out (qeQ hg2 g);clear hch hs2 hg2 HS1 HG1;obtain⟨b1,hb1⟩:∃b1,b1=b-1:=⟨_,rfl⟩
     obtain⟨qa,hqa1⟩:∃qa,qa=q-a:=⟨_,rfl⟩
     obtain⟨q1,hqq⟩:∃q1,q1=b1-qa:=⟨_,rfl⟩
     have wb1:IntKind.i64.wrap ((b:Int)-1)=(b1:Int):=by rw[IntKind.wrap_i64];omega
     have eb1:(b:Int)-1=(b1:Int):=by omega
     have wqa:IntKind.i64.wrap ((q:Int)-(a:Int))=(qa:Int):=by rw[IntKind.wrap_i64];omega
     have eqa:(q:Int)-(a:Int)=(qa:Int):=by omega
     have wqq:IntKind.i64.wrap ((b1:Int)-(qa:Int))=(q1:Int):=by rw[IntKind.wrap_i64];omega
     have eqq:(b1:Int)-(qa:Int)=(q1:Int):=by omega
     have hq1a:a<=q1:=by omega
     have hq1b:q1<b:=by omega
     have hrv:=q6E g c a b d1 t w2 HS2.out q2 (by rw[HD1.out];omega) (by rw[HD1.out];omega)
     have HRV:Hid _:=Go.Sort.reverseRange_holds d1 a b q2 (by rw[HD1.out];omega)
     rw[HD1.out]at hrv;clear hb1 hqa1 hqq
     go_upto_if 50 with fail
     go_cut [11,12] (fun qv kv wx=>∃q k:Nat,qv=.int .i64 (q:Int)/\kv=.int .i64 (k:Int)/\a<=q/\q<b/\k<=2/\∃d1:Array Int,Hid (d1.size=N)/\Hid (SoAt wx g d1 t)/\Hid (PQ a0 b0 a b d0 d1)/\Hid (w.grownBy wx (some g)))
     case first=>
      by_cases hk2:k=2
      ·have hk2':((k:Int)==2)=true:=by rw[beq_iff_eq];omega
       clear hk2
       go_wp2_with fail
       refine hrv.mono ?_
       rintro e w3 ⟨rfl,hs3,hg3⟩
       have HQ3:Hid (PQ a0 b0 a b d0 (Go.Sort.reverseRange d1 a b)):=HQ1.out.move HBB.out HRV.out;have HS3:=hiq hs3;have HD3:Hid ((Go.Sort.reverseRange d1 a b).size=N):=HRV.out.1.trans HD1.out;have HG3:Hid (w.grownBy w3 (some g)):=qA HG2.out hg3;clear hrv hs3 hg3
       go_wp2_with fail
       go_meet
       case rel=>exact⟨q1,1,rfl,rfl,hq1a,hq1b,by omega,_,HD3,HS3,HQ3,HG3⟩
      ·have hk2':((k:Int)==2)=false:=by rw[bqn];omega
       clear hk2
       go_wp2_with fail
       go_meet
       case rel=>exact⟨q,k,rfl,rfl,hqa,hqb,hk,d1,HD1,HS2,HQ1,HG2⟩
     case rest=>
      clear hrv HRV wb1 eb1 wqa eqa wqq eqq hq1a hq1b HD1 HS2 HQ1 HG2 hqa hqb hk;obtain⟨q,k,rfl,rfl,hqa,hqb,hk,d2,HD2,HS2,HQ2,HG2⟩:=hcut;generalize wc=w3 at *
      go_upto_region 15 with fail
      go_cut [68] (fun cv wx=>cv=.bool (f1&&f2&&((k:Int)==1))/\wx=w3)
      case first=>
       cases f1<;>cases f2<;>(go_wp2_with fail;go_meet;exact⟨rfl,rfl⟩)
      case rest=>
       obtain⟨rfl,rfl⟩:=hcut;generalize (f1&&f2&&((k:Int)==1))=y at *;generalize wc=w4 at *;have hpi:=qbg g c a b d2 t w4 HS2.out (by omega) (by rw[HD2.out];omega) (by rw[HD2.out];omega)
       have HPI:Hid _:=Go.Sort.partialInsertionSort_holds swo64 d2 a b (by omega) (by rw[HD2.out];omega) HQ2.out.bel
       rw[HD2.out]at hpi;generalize Go.Sort.partialInsertionSort lt64 d2 a b=R at *;obtain⟨R1,R2⟩:=R
       go_upto_if 68 with fail
       go_cut [12] (fun kv wx=>kv=.int .i64 (k:Int)/\∃d1:Array Int,Hid (d1.size=N)/\Hid (SoAt wx g d1 t)/\Hid (PQ a0 b0 a b d0 d1)/\Hid (w.grownBy wx (some g)))
       case first=>
        cases y with
        |false=>
         go_wp2_with fail
         go_meet
         case rel=>exact⟨rfl,d2,HD2,HS2,HQ2,HG2⟩
        |true=>
         go_wp2_with fail
         refine hpi.mono ?_
         rintro e w5 ⟨rfl,hs5,hg5⟩
         have HS5:=hiq hs5;have HG5:Hid (w.grownBy w5 (some g)):=qA HG2.out hg5;clear hpi hs5 hg5
         cases R2 with
         |true=>
          have HZ:Hid _:=HFIN.out a b d2 _ w5 HQ2.out HPI.out.1 (HPI.out.2 rfl) HS5.out HG5.out
          go_wp2_with fail
          refine bodyPost_ret (results_none rfl _ _ _) rfl ?_
          exact⟨rfl,HZ.out⟩
         |false=>
          have HQ5:Hid (PQ a0 b0 a b d0 R1):=HQ2.out.move HBB.out HPI.out.1;have HD5:Hid (R1.size=N):=HPI.out.1.1.trans HD2.out
          go_wp2_with fail
          go_meet
          case rel=>exact⟨rfl,R1,HD5,HS5,HQ5,HG5⟩
       case rest=>
        clear hpi HPI HD2 HS2 HQ2 HG2;obtain⟨rfl,d3,HD3,HS3,HQ3,HG3⟩:=hcut;generalize wc=w5 at *;obtain⟨am,ham⟩:∃am,am=a-1:=⟨_,rfl⟩
        have HAM:=hiq ham;obtain⟨y2,hy2⟩:∃y2:Bool,y2=(decide (0<a) && !lt64 d3[am]! d3[q]!):=⟨_,rfl⟩
        have HY:=hiq hy2;clear hy2
        go_upto_region 17 with fail
        go_cut [87] (fun cv wx=>cv=.bool y2/\Hid (SoAt wx g d3 t)/\Hid (w.grownBy wx (some g)))
        case first=>
         by_cases hij:0<a
         ·have hd:decide ((0:Int)<(a:Int))=true:=decide_eq_true (by omega)
          have wam:IntKind.i64.wrap ((a:Int)-1)=(am:Int):=by rw[IntKind.wrap_i64];omega
          have eam:(a:Int)-1=(am:Int):=by omega
          have j1:=fun w'=>qf g N c am w' (by omega)
          have j2:=fun w'=>qf g N c q w' (by omega)
          have hsw:SoAt w5 g d3 t:=HS3.out;have c3:=hsw.cell (i:=am) (by rw[HD3.out];omega)
          have c4:=hsw.cell (i:=q) (by rw[HD3.out];omega)
          have hless:=fun w'=>qo d3[am]! d3[q]! w'
          have HY2:Hid (y2=!(lt64 d3[am]! d3[q]!)):=by
           show _=_
           rw[HY.out,decide_eq_true hij];rfl
          clear hsw HY ham;generalize lt64 d3[am]! d3[q]! = lv at *;generalize d3[am]! = xv at *;generalize d3[q]! = xa at *;obtain rfl:=HY2.out
          go_quiet ((go_at_call 113;exact Calls.quiet_of_same (hless _)))
          go_wp2_with fail
          go_meet
          case rel=>exact⟨rfl,SoAt.drewN HS3.out _,qi HG3.out _⟩
         ·have hd:decide ((0:Int)<(a:Int))=false:=decide_eq_false (by omega)
          have HY2:Hid (y2=false):=by
           show _=_
           rw[HY.out,decide_eq_false hij];rfl
          clear HY ham;obtain rfl:=HY2.out
          go_quiet (fail)
          go_wp2_with fail
          go_meet
          case rel=>exact⟨rfl,SoAt.drewN HS3.out _,qi HG3.out _⟩
        case rest=>
         clear HS3 HG3 ham;obtain⟨rfl,HS3,HG3⟩:=hcut;generalize wc=w6 at *
         cases y2 with
         |true=>
          have HY3:Hid (0<a/\lt64 d3[a-1]! d3[q]! = false):=by
           have h0:=HY.out;rw[HAM.out]at h0;simp only[Bool.true_eq,Bool.and_eq_true,decide_eq_true_eq,Bool.not_eq_true']at h0
           exact h0
          have hpe:=q82 g c a b q d3 t w6 HS3.out (by omega) (by rw[HD3.out];omega) hqa hqb (by rw[HD3.out];omega)
          rw[HD3.out]at hpe
          go_wp2_with fail
          refine hpe.mono ?_
          rintro e w7 ⟨m,d4,rfl,hP,hs7,hg7⟩
          have HQ7:Hid (PQ a0 b0 m b d0 d4):=HQ3.out.eq HBB.out HY3.out.1 HY3.out.2 hP;have HD7:Hid (d4.size=N):=hP.sz.trans HD3.out;have HS7:=hiq hs7;have HG7:Hid (w.grownBy w7 (some g)):=qA HG3.out hg7;have hm1:=hP.ma;have hm2:=hP.mb;clear hpe hP hs7 hg7
          go_wp2_with fail
          go_roundw
          case rel=>exact⟨m,b,l1,f1,f2,rfl,rfl,rfl,rfl,rfl,hl1,d4,HD7,HS7,HQ7,HG7⟩
          case measure=>simp[intOf];omega
         |false=>
          have hpt:=qbd g c a b q d3 t w6 HS3.out (by omega) (by rw[HD3.out];omega) hqa hqb (by rw[HD3.out];omega)
          rw[HD3.out]at hpt;clear HY HAM
          go_wp2_with fail
          refine hpt.mono ?_
          rintro e w7 ⟨m,f,d4,rfl,hP,hs7,hg7⟩
          have HP:=hiq hP;have HD7:Hid (d4.size=N):=hP.sz.trans HD3.out;have HS7:=hiq hs7;have HG7:Hid (w.grownBy w7 (some g)):=qA HG3.out hg7;have hm1:=hP.ma;have hm2:=hP.mb;obtain⟨la,hla⟩:∃la,la=m-a:=⟨_,rfl⟩
          obtain⟨lb,hlb⟩:∃lb,lb=b-m:=⟨_,rfl⟩
          obtain⟨T,hT⟩:∃T,T=L / 8:=⟨_,rfl⟩
          obtain⟨ms,hms⟩:∃ms,ms=m+1:=⟨_,rfl⟩
          have wla:IntKind.i64.wrap ((m:Int)-(a:Int))=(la:Int):=by rw[IntKind.wrap_i64];omega
          have ela:(m:Int)-(a:Int)=(la:Int):=by omega
          have wlb:IntKind.i64.wrap ((b:Int)-(m:Int))=(lb:Int):=by rw[IntKind.wrap_i64];omega
          have elb:(b:Int)-(m:Int)=(lb:Int):=by omega
          have tT:((L:Int)).tdiv 8=(T:Int):=by rw[Int.tdiv_eq_ediv_of_nonneg (by omega)];omega
          have wms:IntKind.i64.wrap ((m:Int)+1)=(ms:Int):=by rw[IntKind.wrap_i64];omega
          have ems:(m:Int)+1=(ms:Int):=by omega
          have HMS:=hiq hms
          have hBl:Go.Sort.Below lt64 a m d4:=by
           rcases (HQ3.out.move HBB.out hP.perm).bel with k0|k0
           ·exact Or.inl k0
           ·exact Or.inr fun i k1 k2=>k0 i k1 (by omega)
          have hBr:Go.Sort.Below lt64 ms b d4:=by
           rw[hms];exact Or.inr fun i k1 k2=>by rw[show m+1-1=m by omega];exact hP.hi i (by omega) k2
          have hcl:=HIH.out g c a m l1 d4 t w7 hs7 hm1 (by rw[HD7.out];omega) (by rw[HD7.out];omega) hl1 (by omega) hBl
          have hcr:=HIH.out g c ms b l1 d4 t w7 hs7 (by omega) (by rw[HD7.out];omega) (by rw[HD7.out];omega) hl1 (by omega) hBr
          rw[HD7.out]at hcl hcr;clear hpt hP hs7 hg7 hBl hBr hla hlb hT hms;by_cases hlt2:la<lb
          ·have hlt2':(la:Int)<(lb:Int):=by omega
           clear hcr
           go_wp2_with fail
           refine hcl.mono ?_
           rintro e w8 ⟨rfl,d5,hp5,hs5,hs8,hg8⟩
           have HQ8:Hid (PQ a0 b0 ms b d0 d5):=by
            rw[HMS.out];exact HQ3.out.left HBB.out HP.out hp5 hs5
           have HD8:Hid (d5.size=N):=hp5.1.trans HD7.out;have HS8:=hiq hs8;have HG8:Hid (w.grownBy w8 (some g)):=qA HG7.out hg8;clear hcl hp5 hs5 hs8 hg8
           go_wp2_with fail
           go_roundw
           case rel=>exact⟨ms,b,l1,_,f,rfl,rfl,rfl,rfl,rfl,hl1,d5,HD8,HS8,HQ8,HG8⟩
           case measure=>simp[intOf];omega
          ·have hlt2':¬(la:Int)<(lb:Int):=by omega
           clear hcl
           go_wp2_with fail
           refine hcr.mono ?_
           rintro e w8 ⟨rfl,d5,hp5,hs5,hs8,hg8⟩
           have HQ8:Hid (PQ a0 b0 a m d0 d5):=by
            rw[HMS.out]at hp5 hs5;exact HQ3.out.right HBB.out HP.out hp5 hs5
           have HD8:Hid (d5.size=N):=hp5.1.trans HD7.out;have HS8:=hiq hs8;have HG8:Hid (w.grownBy w8 (some g)):=qA HG7.out hg8;clear hcr hp5 hs5 hs8 hg8
           go_wp2_with fail
           go_roundw
           case rel=>exact⟨a,m,l1,_,f,rfl,rfl,rfl,rfl,rfl,hl1,d5,HD8,HS8,HQ8,HG8⟩
           case measure=>simp[intOf];omega
theorem qc5(n:Nat):PdqC n:=by
 induction n with
 |zero=>intro g c a b lim d t w h hab hb hn hl hlt;omega
 |succ n ih=>exact qbf n ih
theorem qf9(x:Nat):Go.Lib.bitLen x<=64:=by
 have h:∀f x,Go.Lib.bitLenAux f x<=f:=by
  intro f
  induction f with
  |zero=>intro x;exact Nat.le_refl _
  |succ f ih=>
   intro x
   show (if x=0 then 0 else 1+Go.Lib.bitLenAux f (x / 2))<=f+1
   split
   ·omega
   ·have:=ih (x / 2);omega
 exact h 64 x
theorem qdI{d d':Array Int}(hp:PermIn 0 d.size d d')(hs:SortedIn lt64 0 d.size d'):d'.toList.Perm d.toList/\d'.toList.Pairwise (· <= ·):=by
 constructor
 ·have h:=hp.2.2
  rw[Array.extract_size]at h;rw[show d'.extract 0 d.size=d' by rw[<-hp.1];exact Array.extract_size]at h
  exact h
 ·rw[List.pairwise_iff_getElem]
  intro i j hi hj hij;rw[Array.length_toList]at hi hj;have h:=hs i j (Nat.zero_le _) hij (by rw[<-hp.1];exact hj)
  rw[getElem!_pos d' i hi,getElem!_pos d' j hj]at h;simp only[lt64,Go.Sort.ltInt,decide_eq_false_iff_not]at h
  rw[Array.getElem_toList,Array.getElem_toList]
  omega
theorem qbp(g c:Nat)(d:Array Int)(t:List Int)(w:World)(h:SoAt w g d t)(hn:d.size<=1000000):
  Calls Tryz.prog 61 #[.slice (some ⟨g,0,none⟩) d.size c] w fun e w'=>e=.returned (.tuple #[])/\∃d':Array Int,d'.toList.Perm d.toList/\d'.toList.Pairwise (· <= ·)/\SoAt w' g d' t/\w.grownBy w' (some g):=by
 have hb:=q5j (d.size:Int) w (by omega) (by omega)
 have hl:=qf9 (d.size:Int).toNat;have hpq:=qc5 (d.size+1) g c 0 d.size (Go.Lib.bitLen (d.size:Int).toNat) d t w h (Nat.zero_le _) nlr hn hl (by omega) (Or.inl rfl)
 have HF:Hid (∀d':Array Int,PermIn 0 d.size d d'->SortedIn lt64 0 d.size d'->d'.toList.Perm d.toList/\d'.toList.Pairwise (· <= ·)):=fun d'=>qdI
 have wN:IntKind.u64.wrap (d.size:Int)=(d.size:Int):=by rw[IntKind.wrap_u64];omega
 generalize Go.Lib.bitLen (d.size:Int).toNat=lim at *;generalize d.size=N at *;go_enter Tryz.func61,Tryz.ntmps61
 go_wp2_with fail
 refine hb.mono ?_
 rintro e w0 ⟨rfl,hw⟩
 rw[hw];clear hw w0
 go_wp2_with fail
 refine hpq.mono ?_
 rintro e w1 ⟨rfl,d',hp,hs,h1,hg⟩
 have HZ:Hid (∃d':Array Int,d'.toList.Perm d.toList/\d'.toList.Pairwise (· <= ·)/\SoAt w1 g d' t/\w.grownBy w1 (some g)):=⟨d',(HF.out d' hp hs).1,(HF.out d' hp hs).2,h1,hg⟩;clear hpq hb hp hs h1 hg HF;go_wp2
 go_end0
 exact⟨rfl,HZ.out⟩
theorem qaZ(p:Option Addr)(c:Nat)(w:World):
  Calls Tryz.prog 107 #[.slice p 0 c,.int .i64 0,.int .i64 0] w fun e w'=>e=.returned (.tuple #[])/\w'=w:=by
 go_enter Tryz.func107,Tryz.ntmps107
 go_wp2
 go_loopw [6] (fun iv wr=>iv=.int .i64 1/\wr=w) (fun _ _=>0)
 case atStart=>exact⟨rfl,rfl⟩
 case round=>
  obtain⟨rfl,rfl⟩:=hrel;go_wp2
  go_end0
  exact⟨rfl,rfl⟩
theorem qbe(p:Option Addr)(c lim:Nat)(w:World):
  Calls Tryz.prog 87 #[.slice p 0 c,.int .i64 0,.int .i64 0,.int .i64 (lim:Int)] w fun e w'=>e=.returned (.tuple #[])/\w'=w:=by
 have hi:=qaZ p c w;go_enter Tryz.func87,Tryz.ntmps87
 go_wp2
 go_loopw [1,2] (fun iv jv wr=>iv=.int .i64 0/\jv=.int .i64 0/\wr=w) (fun _ _ _=>0)
 case atStart=>exact⟨rfl,rfl,rfl⟩
 case round=>
  obtain⟨rfl,rfl,rfl⟩:=hrel
  go_wp2_with fail
  refine hi.mono ?_
  rintro e w0 ⟨rfl,rfl⟩
  go_wp2;refine bodyPost_ret (results_none rfl _ _ _) rfl ?_
  exact⟨rfl,rfl⟩
theorem q9z(p:Option Addr)(c:Nat)(w:World):
  Calls Tryz.prog 61 #[.slice p 0 c] w fun e w'=>e=.returned (.tuple #[])/\w'=w:=by
 have hb:=q5j 0 w (by omega) (by omega)
 have hpq:=qbe p c (Go.Lib.bitLen (0:Int).toNat) w;generalize Go.Lib.bitLen (0:Int).toNat=lim at *;go_enter Tryz.func61,Tryz.ntmps61
 go_wp2_with fail
 refine hb.mono ?_
 rintro e w0 ⟨rfl,hw⟩
 rw[hw];clear hw w0
 go_wp2_with fail
 refine hpq.mono ?_
 rintro e w0 ⟨rfl,rfl⟩
 go_wp2
 go_end0
 exact⟨rfl,rfl⟩
end Go.Proofs.YtailhklbmenaoaaGreatDoor
namespace Go.Proofs.YtailhklbmenaoaaGreatDoor
open Go.RowKit Go.Maps
theorem q2b{w:World}{base e size n:Nat}{v:Value}{xs:List Value}(h:w.ownsRow base e size v n xs):∃a c,v=.slice a n c:=by
 rcases h.2 with⟨rfl,rfl⟩|⟨g,cap,cur,rfl,_⟩
 ·exact⟨none,0,rfl⟩
 ·exact⟨_,cap,rfl⟩
theorem q5i{w:World}{ops:Array Oper}{rest:List Oper}{o:Oper}{a:Act}{Q:Exit->Act->World->Prop}(hgd:o.guard=none)(s x:Operand)
  (ho:o.op=.call { callee:=.builtin .append,args:=#[s,x],argTypes:=#[46,46] }) (base:Nat)
  (v:Value) (n:Nat) (zs:List Int) (hs:a.eval s=v) (hown:w.ownsRow base 55 1 v n (zs.map (Value.int .u64))) (g':Nat) (z:Int) (hx:a.eval x=.slice (some ⟨g',0,none⟩) 1 1) (hc:w.cell? ⟨g',0,none⟩=some (.int .u64 z))
  (hn:n+1<=2000000) (hbase:base<=w.heap.size)
  (h:∀v' w',w'.ownsRow base 55 1 v' (n+1) ((zs++[z]).map (Value.int .u64))->w.grownBy w' v.ownBlock->wpList Tryz.prog ops Q rest (a.put o.dst v') w'):wpList Tryz.prog ops Q (o::rest) a w:=by
 obtain⟨i,hi,hz0,hz1,hz2⟩:=info_parts q2p;refine wpList_append_own w hgd s x 46 ho base 55 i _ 1 8 Tryz.underlying46 hi hz0 hz1 hz2 rfl (by decide) v n _ hs hown ⟨g',0,none⟩ 1 1 [.int .u64 z] hx rfl ?_ (fun u hu=>by simp at hu;subst hu;rfl) (by unfold maxLen;omega) (by omega) hbase ?_
 ·intro j u hj
  match j with
  | 0=>simp at hj;rw[<-hj,qg];exact hc
  |j+1=>simp at hj
 ·intro v' w' h1 h2 _
  exact h v' w' (by rw[List.map_append];exact h1) h2
theorem qaJ{w:World}{a:Addr}{n c:Nat}{l:List Nat}(h:USl w (some a) n c l):∀j u,((iU l).map (Value.int .u64))[j]? =some u->w.cell? (a.add j)=some u:=by
 intro j u hj;have hjl:j<(iU l).length:=by have:=(List.getElem?_eq_some_iff.1 hj).1;simpa using this
 have hc:=h.cell j (by rw[<-h.hlen];exact hjl)
 have e:u=.int .u64 ((iU l).getD j 0):=by
  rw[List.getElem?_map,List.getElem?_eq_getElem hjl]at hj;rw[List.getD_eq_getElem?_getD,List.getElem?_eq_getElem hjl];simpa using hj.symm
 rw[e];exact hc
theorem qiE(m:Nat):(Builtin.zeroCells (Value.int .u64 0).cells m).toList=List.replicate m (Value.int .u64 0):=by
 have hc:(Value.int .u64 0).cells=#[.int .u64 0]:=rfl;unfold Builtin.zeroCells;rw[hc];refine List.ext_getElem (by simp) fun i h1 h2=>?_
 simp[Nat.mod_one]
theorem q6v{w:World}{ops:Array Oper}{rest:List Oper}{o:Oper}{a:Act}{Q:Exit->Act->World->Prop}(hgd:o.guard=none)(s y:Operand)
  (ho:o.op=.call { callee:=.builtin .append,args:=#[s,y],argTypes:=#[46,46] }) (g:Nat) (x:Addr) (n c:Nat) (l:List Nat) (hs:a.eval s=.slice (some ⟨g,0,none⟩) 0 0) (hy:a.eval y=.slice (some x) n c) (hU:USl w (some x) n c l) (h0:0<n) (hn:n<=1000000)
  (h:∀G w',n<=G->G<=maxLen->SoAt w' w.heap.size (iU l).toArray (List.replicate (G-n) 0)->Below w.heap.size w w'->wpList Tryz.prog ops Q rest (a.put o.dst (.slice (some ⟨w.heap.size,0,none⟩) n G)) w'):wpList Tryz.prog ops Q (o::rest) a w:=by
 refine wpList_plain hgd fun _ hK=>?_
 obtain⟨i0,hi,hz0,hz1,hz2⟩:=info_parts q2p;have hln:=hU.len
 have hrun:∀ty,(Builtin.append_ #[46,46] ty #[.slice (some ⟨g,0,none⟩) 0 0,.slice (some x) n c]).run Tryz.prog w=.ok (.slice (some ⟨w.heap.size,0,none⟩) n (grownCap w n 0 55)) (w.drew.alloc (.cells (((iU l).map (Value.int .u64)).toArray++Builtin.zeroCells (Value.int .u64 0).cells (grownCap w n 0 55-n)) 55)):=fun ty=>by
  have h:=run_append_grow (P:=Tryz.prog) w 46 ty 55 i0 (.int .u64 0) Tryz.underlying46 hi hz0 ⟨g,0,none⟩ 0 0 [] (by simp) (fun j v hj=>by simp at hj) x n c ((iU l).map (Value.int .u64)) (by rw[hz1];simp[hln]) (qaJ hU) (by omega) (by omega) (growslice_fits (by omega) (by rw[hz2];omega))
  simpa using h
 have hG:=grownCap_ge w n 0 55;have hG2:=grownCap_le_maxLen w n 0 55 (by unfold maxLen;omega)
 have hr:=hrun o.type;clear hrun;generalize grownCap w n 0 55=G at *;have HB:Below w.heap.size w (w.drew.alloc (.cells (((iU l).map (Value.int .u64)).toArray++Builtin.zeroCells (Value.int .u64 0).cells (G-n)) 55)):=(Below.refl _ w).drew.alloc nlr _
 have HS:SoAt (w.drew.alloc (.cells (((iU l).map (Value.int .u64)).toArray++Builtin.zeroCells (Value.int .u64 0).cells (G-n)) 55)) w.heap.size (iU l).toArray (List.replicate (G-n) 0):=by
  have h1:=(mha w.drew (.cells (((iU l).map (Value.int .u64)).toArray++Builtin.zeroCells (Value.int .u64 0).cells (G-n)) 55)).1
  show _=_
  refine h1.trans ?_
  refine congrArg some (congrArg (fun c=>Obj.cells c 55 (0,0)) (Array.toList_inj.1 ?_))
  rw[Array.toList_append,List.map_append,List.map_replicate,qiE]
 generalize (w.drew.alloc (.cells (((iU l).map (Value.int .u64)).toArray++Builtin.zeroCells (Value.int .u64 0).cells (G-n)) 55))=w2 at *;unfold Oper.wp execOp;simp only[ho,resolve,invoke,builtin,Sem.run_bind,Sem.run_pure,Result.andThen_ok,List.map_toArray,List.map_cons,List.map_nil,hs,hy,hr]
 exact hK _ _ (h G w2 hG hG2 HS HB)
def CloU (l:List Nat) (w:World) (e:Ending) (w':World):Prop :=
 Below w.heap.size w w'/\((l=[]/\∃p,e=.returned (.slice p 0 0))\/∃G t,l≠[]/\e=.returned (.slice (some ⟨w.heap.size+1,0,none⟩) l.length G)/\SoAt w' (w.heap.size+1) (iU l).toArray t/\l.length<=G/\G<=maxLen)
theorem q4t(a:Option Addr)(n c:Nat)(l:List Nat)(w:World)(hS:USl w a n c l)(hn:n<=1000000):
  Calls Tryz.prog 60 #[.slice a n c] w (CloU l w):=by
 have hln:=hS.len
 cases a with
 |none=>
  have hc0:=hS.nn rfl;have hn0:n=0:=by have:=hS.hcap;omega
  subst hc0 hn0;have hl:l=[]:=List.eq_nil_of_length_eq_zero hln.symm;subst hl;clear hln hS hn;have hnil:=fun w=>_root_.Go.run_eql_slice_nil (P:=Tryz.prog) w 46 55 none 0 0 Tryz.underlying46
  dsimp only[Option.isNone]at hnil
  go_enter Tryz.func60,Tryz.ntmps60
  go_wp2;go_ret
  exact⟨Below.refl _ _,Or.inl ⟨rfl,none,rfl⟩⟩
 |some x=>
  obtain⟨i0,hi,hz0,hz1,hz2⟩:=info_parts q2p;have hnil:=fun w=>_root_.Go.run_eql_slice_nil (P:=Tryz.prog) w 46 55 (some x) n c Tryz.underlying46
  dsimp only[Option.isNone]at hnil
  by_cases h0:n=0
  ·subst h0
   have hl:l=[]:=List.eq_nil_of_length_eq_zero hln.symm;subst hl;have hown:=q9Y w 55;have HI:=hiq hi;have HZ1:=hiq hz1;have HB:Hid (∀w1,(w.alloc (.cells #[] 55)).grownBy w1 (some w.heap.size)->Below w.heap.size w w1):=fun w1 h2=>((Below.refl _ _).alloc (Nat.le_refl _) _).grown h2 (by simp) (fun k hk=>by cases hk;exact Nat.le_refl _)
   clear hi hz0 hz1 hz2 hS hln hn;go_enter Tryz.func60,Tryz.ntmps60
   go_wp2_with (at_builtin;refine wpList_append_fits_any _ rfl _ _ 46 rfl w.heap.size 55 i0 1 Tryz.underlying46 HI.out HZ1.out w.heap.size 0 0 [] rfl hown (some x) 0 c [] rfl rfl (fun h=>by cases h) (fun _ _ j u hj=>by simp at hj) (fun _ h=>by cases h) (Nat.le_refl _) ?_)
   intro w1 hown1 hgrow1;have HE:=HB.out w1 hgrow1;clear hown1 hgrow1 hown;go_wp2;go_ret
   exact⟨HE,Or.inl ⟨rfl,_,rfl⟩⟩
  ·have hl0:l≠[]:=fun e=>h0 (by rw[hln,e];rfl)
   have HL:=hiq hln;have HU:Hid _:=hS.up (qc w (.cells #[] 55));clear hi hz0 hz1 hz2 hS hln;go_enter Tryz.func60,Tryz.ntmps60
   go_wp2_with (at_builtin;refine q6v rfl _ _ rfl w.heap.size x n c l rfl rfl HU.out (by omega) hn ?_)
   intro G w2 hG hG2 HS HB;have HS2:Hid _:=HS;have HB2:Hid (Below w.heap.size w w2):=(qc w (.cells #[] 55)).trans (HB.mono (Nat.le_succ _));have hgl:Hid (n<=G/\G<=maxLen):=⟨hG,hG2⟩;clear HS HB hG hG2 HU;go_wp2;go_ret
   exact⟨HB2.out,Or.inr ⟨G,List.replicate (G-n) 0,hl0,by rw[<-HL.out];simp,HS2.out,by rw[<-HL.out];exact hgl.out.1,hgl.out.2⟩⟩
theorem SoAt.usl{w:World}{g n G:Nat}{s:List Nat}{d:Array Int}{t:List Int}(h:SoAt w g d t)(hd:d.toList=iU s)(hn:s.length=n)(hG:n<=G)(hm:G<=maxLen):USl w (some ⟨g,0,none⟩) n G s:=by
 have had:∀k,adOf (some ⟨g,0,none⟩) k=⟨g,k,none⟩:=fun k=>by simp[adOf,qg]
 have hsz:d.size=n:=by rw[<-Array.length_toList,hd];simpa using hn
 refine⟨by simp[hn],hG,hm,fun m k w hk hm=>q1a Tryz.underlying46 q3h (by simp) k w hk,fun k hk=>?_,fun k hk=>?_,by simp⟩
 ·rw[had,h.cell (by omega:k<d.size)]
  congr 2
  rw[<-hd,List.getD_eq_getElem?_getD];simp[show k<d.size by omega]
 ·rw[had];exact h.lt
theorem qa8{w:World}{base n:Nat}{v:Value}{l:List Nat}(h:w.ownsRow base 55 1 v n ((iU l).map (Value.int .u64))):∃a c,v=.slice a n c/\USl w a n c l:=by
 obtain⟨a,c,h1,h2,_⟩:=qe2 h Tryz.underlying46 q3h;exact⟨a,c,h1,h2⟩
theorem qhr{w:World}{base n:Nat}{v:Value}{l:List Nat}(h:w.ownsRow base 55 1 v n ((iU l).map (Value.int .u64))):∃a c,v=.slice a n c/\USl w a n c l/\∀k,k<n->base<=(adOf a k).block:=by
 obtain⟨a,c,h1,h2,h3,_⟩:=qe2 h Tryz.underlying46 q3h;exact⟨a,c,h1,h2,h3⟩
def LRN (r:List Nat) (w:World) (e:Ending) (w':World):Prop:=∃(a:Option Addr) (c:Nat),e=.returned (.slice a r.length c)/\USl w' a r.length c r/\Below w.heap.size w w'/\∀k,k<r.length->w.heap.size<=(adOf a k).block
def LEN (E:Nat) (r:List Nat) (w:World) (e:Ending) (w':World):Prop:=∃(a:Option Addr) (c:Nat),e=.returned (.tuple #[.slice a r.length c,.int .i64 (E:Int)])/\USl w' a r.length c r/\Below w.heap.size w w'/\∀k,k<r.length->w.heap.size<=(adOf a k).block
theorem q9H(l:List Nat)(x:Nat):iU (l++[x])=iU l++[(x:Int)]:=by simp[iU]
theorem q4v(a:Option Addr)(n c:Nat)(l:List Nat)(w:World)(hS:USl w a n c l)(sL:Sm l)(hn:n<=1000000):
  Calls Tryz.prog 36 #[.slice a n c] w (LRN (leastL l) w):=by
 have hln:=hS.len;have hcl:=q4t a n c l w hS hn
 have hso:∀w1,Below w.heap.size w w1->∀e,CloU l w e w1->∃p G,e=.returned (.slice p n G)/\Calls Tryz.prog 61 #[.slice p n G] w1 fun e w2=>e=.returned (.tuple #[])/\∃s:List Nat,s.Perm l/\s.Pairwise (· <= ·)/\USl w2 p n G s/\Below w.heap.size w w2:=by
  intro w1 hb1 e ⟨hb,hh⟩;rcases hh with⟨rfl,p,rfl⟩|⟨G,t,h0,rfl,hA,hG1,hG2⟩
  ·obtain rfl:n=0:=hln
   refine⟨p,0,rfl,(q9z p 0 w1).mono ?_⟩
   rintro e w2 ⟨rfl,rfl⟩
   refine⟨rfl,[],List.Perm.refl _,List.Pairwise.nil,?_,hb⟩
   exact⟨rfl,nlr,Nat.zero_le _,fun m k w hk hm=>absurd hk (by omega),fun k hk=>absurd hk (by omega),fun k hk=>absurd hk (by omega),fun _=>rfl⟩
  ·have hsz:(iU l).toArray.size=n:=by simp[hln]
   have h:=qbp (w.heap.size+1) G (iU l).toArray t w1 hA (by rw[hsz];exact hn)
   rw[hsz]at h;refine⟨some ⟨w.heap.size+1,0,none⟩,G,by rw[<-hln],h.mono ?_⟩
   rintro e w2 ⟨rfl,d,hp,hu,h2,hg⟩
   obtain⟨s,hs1,hs2,hs3⟩:=qh2 (l:=l) (d:=d.toList) (by simpa [iU] using hp) hu
   refine⟨rfl,s,hs2,hs3,h2.usl hs1 (by rw[hs2.length_eq,hln]) (by rw[hln];exact hG1) hG2,?_⟩
   exact hb.grown hg hb.size (fun k hk=>by cases hk;omega)
 have HSO:Hid _:=hso;have HP:Hid (∀s:List Nat,s.Perm l->Sm s/\s.length=n/\leastL s=leastL l):=fun s h=>⟨fun x hx=>sL x (h.mem_iff.1 hx),by rw[h.length_eq,hln],qeK h⟩
 clear hS sL hso hln;go_enter Tryz.func36,Tryz.ntmps36
 go_wp2_with fail
 refine hcl.mono ?_
 intro e w1 hC;obtain⟨p,G,rfl,hsort⟩:=HSO.out w1 hC.1 e hC;clear hC hcl HSO
 go_wp2_with fail
 refine hsort.mono ?_
 rintro e w2 ⟨rfl,s,hs1,hs2,hU,hB⟩
 clear hsort;obtain⟨sS,sN,sL2⟩:=HP.out s hs1;clear HP hs1;have HT:Hid (∀k,k<n->leastL (s.take (k+1))=if hoB (leastL (s.take k)) (s.getD k 0) then leastL (s.take k) else leastL (s.take k)++[s.getD k 0]):=fun k hk=>qeL hs2 (by omega)
 have HE:Hid (leastL (s.take n)=leastL l):=by show _=_;rw[List.take_of_length_le (by omega)];exact sL2
 have HM:Hid (∀k,Sm (leastL (s.take k))/\(leastL (s.take k)).length<=n):=fun k=>⟨fun x hx=>sS x (List.mem_of_mem_take (q2U hx)),by have:=q5a (s.take k);rw[List.length_take]at this;omega⟩
 have HC:Hid (∀k,k<n->∀wr,Below w2.heap.size w2 wr->wr.cell? (adOf p k)=some (.int .u64 ((s.getD k 0:Nat):Int))):=fun k hk wr hb=>by
  rw[(hU.up hb).cell k hk]
  congr 2
  simp only[List.getD_eq_getElem?_getD,iU,List.getElem?_map]
  cases s[k]?<;>rfl
 have HX:Hid (∀k,k<n->s.getD k 0<2 ^ 64):=fun k hk=>by
  have hk':k<s.length:=by omega
  rw[List.getD_eq_getElem?_getD,lge hk'];exact sS _ (List.getElem_mem hk')
 have hidx:=fun (k:Nat) (w:World) (h:k<n)=>hU.idx n k w h nlr
 have HB0:=hiq hB;clear hU hs2 sS sN sL2 hB;go_wp2
 go_loopw [4,13] (fun v i wr=>∃k:Nat,k<=n/\i=.int .i64 (k:Int)/\Hid (wr.ownsRow w2.heap.size 55 1 v (leastL (s.take k)).length ((iU (leastL (s.take k))).map (Value.int .u64)))/\Hid (Below w2.heap.size w2 wr)) (fun _ i _=>n-(intOf i).toNat)
 case atStart=>exact⟨0,Nat.zero_le _,rfl,⟨rfl,Or.inl ⟨rfl,rfl⟩⟩,Below.refl _ _⟩
 case round=>
  obtain⟨k,hk,rfl,HO,HW⟩:=hrel;obtain⟨va,vc,rfl,hUs⟩:=qa8 HO.out;by_cases hlt:k<n
  ·have hc:=HC.out k hlt wr HW.out
   have hx:=fun w'=>hidx k w' hlt
   have hho:=q2W va _ vc _ (s.getD k 0) wr hUs (HM.out k).1 (HX.out k hlt);have HS:Hid _:=HT.out k hlt;have hb:=(HM.out k).2;clear HC HX HT HM hidx hUs;generalize s.getD k 0=x at *;have HL:Hid (leastL (s.take k)=leastL (s.take k)):=rfl;generalize hq:leastL (s.take k)=r at *;clear HL;by_cases hh:hoB r x=true
   ·rw[hh]at hho
    have HSE:Hid (leastL (s.take (k+1))=r):=by show _=_;rw[HS.out,if_pos hh]
    clear HS hh
    go_wp2_with fail
    refine hho.mono ?_
    rintro e w3 ⟨rfl,hb3⟩
    have HO3:Hid _:=q1b HO.out hb3;have HW3:Hid _:=HW.out.trans (hb3.mono HW.out.size);clear hho HO HW hb3;go_wp2
    go_roundw
    case rel=>exact⟨k+1,by omega,by go_num,by rw[HSE.out];exact HO3,HW3⟩
    case measure=>simp[intOf];omega
   ·have hh2:hoB r x=false:=by cases h:hoB r x;rfl;exact absurd h hh
    rw[hh2]at hho;have HSE:Hid (leastL (s.take (k+1))=r++[x]):=by show _=_;rw[HS.out,if_neg hh]
    clear HS hh hh2
    go_wp2_with fail
    refine hho.mono ?_
    rintro e w3 ⟨rfl,hb3⟩
    have HO3:Hid _:=q1b HO.out hb3;have HW3:Hid (Below w2.heap.size w2 w3):=HW.out.trans (hb3.mono HW.out.size);clear hho HO HW hb3;have HOA:Hid ((w3.alloc (.cells #[.int .u64 (x:Int)] 55)).ownsRow w2.heap.size 55 1 (.slice va r.length vc) r.length ((iU r).map (Value.int .u64))):=World.ownsRow.alloc HO3.out _;have HCA:Hid ((w3.alloc (.cells #[.int .u64 (x:Int)] 55)).cell? ⟨w3.heap.size,0,none⟩=some (.int .u64 (x:Int))):=qb (mha w3 _).1 0;have HWA:Hid (Below w2.heap.size w2 (w3.alloc (.cells #[.int .u64 (x:Int)] 55))):=HW3.out.alloc HW3.out.size _;have hszA:w2.heap.size<=(w3.alloc (.cells #[.int .u64 (x:Int)] 55)).heap.size:=HWA.out.size;have HGE:Hid (∀q,(Value.slice va r.length vc).ownBlock=some q->w2.heap.size<=q):=q3o HO3.out;clear HO3 HW3
    go_wp2_with (at_builtin;refine q5i rfl _ _ rfl w2.heap.size _ r.length (iU r) rfl HOA.out w3.heap.size (x:Int) rfl HCA.out (by omega) hszA ?_)
    intro v7 w7 hown7 hgr7;have HO7:Hid (w7.ownsRow w2.heap.size 55 1 v7 (r.length+1) ((iU r++[(x:Int)]).map (Value.int .u64))):=by show World.ownsRow _ _ _ _ _ _ _;simpa using hown7
    have HW7:Hid (Below w2.heap.size w2 w7):=HWA.out.grown hgr7 hszA (fun q e=>HGE.out q e)
    clear hown7 hgr7 HOA HCA HWA hszA HGE;go_wp2
    go_roundw
    case rel=>
     refine⟨k+1,by omega,by go_num,?_,HW7⟩
     show World.ownsRow _ _ _ _ _ _ _
     rw[HSE.out,List.length_append,q9H];exact HO7.out
    case measure=>simp[intOf];omega
  ·obtain rfl:k=n:=by omega
   obtain⟨va2,vc2,hv2,hU2,hf2⟩:=qhr HO.out;injection hv2 with hv2 _ hv3;subst hv2 hv3;have HUs:Hid _:=hUs;have HFS:Hid _:=hf2;clear hUs hU2 hf2;go_wp2;go_ret
   refine⟨va,vc,?_,?_,qd HB0.out HW.out,?_⟩
   ·rw[<-HE.out];rfl
   ·rw[<-HE.out];exact HUs.out
   ·rw[<-HE.out];exact fun k hk=>Nat.le_trans HB0.out.size (HFS.out k hk)
theorem q8B(n:Nat):(Builtin.zeroCells (Value.int .u64 0).cells n).size=n*1:=by
 rw[size_zeroCells];rfl
theorem qfr(l k:List Nat):iU (l++k)=iU l++iU k:=by simp[iU]
theorem q8M{w:World}{ops:Array Oper}{rest:List Oper}{o:Oper}{a:Act}{Q:Exit->Act->World->Prop}(hgd:o.guard=none)(s x:Operand)
  (ho:o.op=.call { callee:=.builtin .append,args:=#[s,x],argTypes:=#[46,46] }) (base:Nat)
  (v:Value) (xs ys:List Nat) (b:Option Addr) (len cap:Nat) (hs:a.eval s=v) (hx:a.eval x=.slice b len cap) (hown:w.ownsRow base 55 1 v xs.length ((iU xs).map (Value.int .u64))) (hT:USl w b len cap ys)
  (hn:xs.length<=10000000) (hm:ys.length<=10000000) (hbase:base<=w.heap.size)
  (h:∀v' w',w'.ownsRow base 55 1 v' (xs++ys).length ((iU (xs++ys)).map (Value.int .u64))->w.grownBy w' v.ownBlock->wpList Tryz.prog ops Q rest (a.put o.dst v') w'):wpList Tryz.prog ops Q (o::rest) a w:=by
 obtain⟨i,hi,hz0,hz1,hz2⟩:=info_parts q2p;have hl:=hT.len
 cases b with
 |none=>
  have hc:=hT.nn rfl;have hcl:=hT.hcap;obtain rfl:len=0:=by omega
  subst hc;have hy:ys=[]:=List.eq_nil_of_length_eq_zero hl.symm;subst hy;refine wpList_plain hgd fun _ hK=>?_
  have hrun:=run_append_owned_none (P:=Tryz.prog) w base 46 o.type 55 i 1 Tryz.underlying46 hi v xs.length _ hown;unfold Oper.wp execOp;simp only[ho,resolve,invoke,builtin,Sem.run_bind,Sem.run_pure,Result.andThen_ok,List.map_toArray,List.map_cons,List.map_nil,hs,hx,hrun]
  refine hK _ _ ?_
  exact h v w (by rw[List.append_nil];exact hown) (World.grownBy.refl _ _)
 |some y=>
  refine wpList_append_own w hgd s x 46 ho base 55 i _ 1 8 Tryz.underlying46 hi hz0 hz1 hz2 rfl (by decide) v xs.length _ hs hown y len cap ((iU ys).map (Value.int .u64)) hx (by simp[hl]) (qaJ hT) (ints_oneCell .u64 (iU ys)) (by unfold maxLen;omega) (by omega) hbase ?_
  intro v' w' h1 h2 _;exact h v' w' (by rw[qfr,List.map_append,List.length_append,<-hl];exact h1) h2
theorem q5J{w:World}{ops:Array Oper}{rest:List Oper}{o:Oper}{a:Act}{Q:Exit->Act->World->Prop}(hgd:o.guard=none)(s x:Operand)
  (ho:o.op=.call { callee:=.builtin .append,args:=#[s,x],argTypes:=#[46,3] }) (n:Nat) (hs:a.eval s=.slice none 0 0) (hx:a.eval x=.int .i64 (n:Int)) (h0:0<n) (hn:n<=1000000)
  (h:∀G w',n<=G->w'.ownsRow w.heap.size 55 1 (.slice (some ⟨w.heap.size,0,none⟩) 0 G) 0 (([]:List Value))->Below w.heap.size w w'->wpList Tryz.prog ops Q rest (a.put o.dst (.slice (some ⟨w.heap.size,0,none⟩) n G)) w'):wpList Tryz.prog ops Q (o::rest) a w:=by
 refine wpList_plain hgd fun _ hK=>?_
 obtain⟨i,hi,hz0,hz1,hz2⟩:=info_parts q2p
 have hrz:∀ty,(Builtin.append_ #[46,3] ty #[.slice none 0 0,.int .i64 (n:Int)]).run Tryz.prog w=.ok (.slice (some ⟨w.heap.size,0,none⟩) n (grownCap w n 0 55)) (w.drew.alloc (.cells (Builtin.zeroCells (Value.int .u64 0).cells n++Builtin.zeroCells (Value.int .u64 0).cells (grownCap w n 0 55-n)) 55)):=fun ty=>by
  have h:=Lib.run_append_grow_zeros w 46 3 ty 55 i (.int .u64 0) .i64 .i64 Tryz.underlying46 Tryz.underlying3 hi hz0 none 0 0 [] (run_firstCells_none w.drew i.size 0 0 0) n (by omega) (by omega) (by omega) (by omega) (by rw[hz2];omega) (growslice_fits (by omega) (by rw[hz2];omega))
  simpa using h
 have hG:=grownCap_ge w n 0 55;have hG2:=grownCap_le_maxLen w n 0 55 (by unfold maxLen;omega)
 have hcs:(Builtin.zeroCells (Value.int .u64 0).cells n++Builtin.zeroCells (Value.int .u64 0).cells (grownCap w n 0 55-n)).size=grownCap w n 0 55*1:=by
  rw[Array.size_append,q8B,q8B];omega
 generalize Builtin.zeroCells (Value.int .u64 0).cells n++Builtin.zeroCells (Value.int .u64 0).cells (grownCap w n 0 55-n)=cs at *;generalize grownCap w n 0 55=G at *;have HW:(w.drew.alloc (.cells cs 55)).ownsRow w.heap.size 55 1 (.slice (some ⟨w.heap.size,0,none⟩) 0 G) 0 (([]:List Value)):=⟨rfl,Or.inr ⟨w.heap.size,G,cs,rfl,Nat.le_refl _,(MapKept.heap_alloc w.drew _).1,Nat.zero_le _,hG2,hcs,rfl⟩⟩;have HB:Below w.heap.size w (w.drew.alloc (.cells cs 55)):=(Below.refl _ w).drew.alloc (Nat.le_refl _) _;have hrun:=hrz o.type;unfold Oper.wp execOp;simp only[ho,resolve,invoke,builtin,Sem.run_bind,Sem.run_pure,Result.andThen_ok,List.map_toArray,List.map_cons,List.map_nil,hs,hx,hrun]
 exact hK _ _ (h G _ hG HW HB)
theorem q91(n:Nat)(w:World)(hn:n<=1000000):
  Calls Tryz.prog 169 #[.slice none 0 0,.int .i64 (n:Int)] w fun e w'=>∃v,e=.returned v/\w'.ownsRow w.heap.size 55 1 v 0 (([]:List Value))/\Below w.heap.size w w':=by
 have h1:¬((n:Int)<0):=by omega
 by_cases h0:n=0
 ·subst h0
  go_enter Tryz.func169,Tryz.ntmps169
  go_wp2;go_ret
  exact⟨_,rfl,⟨rfl,Or.inl ⟨rfl,rfl⟩⟩,Below.refl _ _⟩
 ·have hpos:(0:Int)<(n:Int):=by omega
  have hw2:IntKind.i64.wrap ((n:Int)-0)=(n:Int):=by rw[IntKind.wrap_i64];omega
  go_enter Tryz.func169,Tryz.ntmps169
  go_wp2_with (at_builtin;refine q5J rfl _ _ rfl n rfl rfl (by omega) hn ?_)
  intro G w' hG HW HB;have HW1:=hiq HW;clear HW;have hG0:G≠0:=by omega
  go_wp2;go_ret
  exact⟨.slice (some ⟨w.heap.size,0,none⟩) 0 G,rfl,HW1.out,HB⟩
structure PcU where
 a:Option Addr
 len:Nat
 cap:Nat
 ts:List Nat
def joinU (ps:List PcU):List Nat:=ps.flatMap (·.ts)
def lensU (ps:List PcU) (k:Nat):Nat:=(joinU (ps.take k)).length
theorem q8p{ps:List PcU}{k:Nat}(h:k<ps.length):joinU (ps.take (k+1))=joinU (ps.take k)++ps[k].ts:=by
 unfold joinU;rw[List.take_add_one,List.getElem?_eq_getElem h,List.flatMap_append];simp
theorem qgD(ps:List PcU)(k:Nat):(joinU (ps.take k)).length<=(joinU ps).length:=by
 have h:joinU ps=joinU (ps.take k)++joinU (ps.drop k):=by
  unfold joinU;rw[<-List.flatMap_append,List.take_append_drop]
 rw[h,List.length_append];omega
theorem q5X:(Tryz.prog.info? 46).map (·.size)=some 1:=by kernel_rfl
theorem q6O(g:Nat)(ps:List PcU)(w:World)(hc:∀k (h:k<ps.length),w.cell? ⟨g,k,none⟩=some (.slice ps[k].a ps[k].len ps[k].cap))(hg:g<w.heap.size)(hT:∀p∈ps,USl w p.a p.len p.cap p.ts)(hn:(joinU ps).length<=1000000)(hp:ps.length<=1000):
  Calls Tryz.prog 160 #[.slice (some ⟨g,0,none⟩) ps.length ps.length] w fun e w'=>∃v,e=.returned v/\w'.ownsRow w.heap.size 55 1 v (joinU ps).length ((iU (joinU ps)).map (Value.int .u64))/\Below w.heap.size w w':=by
 have hix:∀k w',k<ps.length->(Instr.indexAt 41 (.slice (some ⟨g,0,none⟩) ps.length ps.length) (.int .i64 (k:Nat))).run Tryz.prog w'=.ok (.pointer (some ⟨g,k,none⟩)) w':=fun k w' h=>by
  have:=q1a (a:=some ⟨g,0,none⟩) (cap:=ps.length) (n:=ps.length) Tryz.underlying41 q5X (by simp) k w' h
  simpa [adOf,qg] using this
 have HC:Hid _:=hc;have HT:Hid _:=hT;clear hc hT;have hgr:=fun (n:Nat) (h:n<=1000000) w'=>q91 n w' h
 obtain⟨n,hnn⟩:∃n,n=ps.length:=⟨_,rfl⟩
 have HN:=hiq hnn;rw[<-hnn]at hp hix ⊢;clear hnn;have hbk0:∀k,(joinU (ps.take k)).length<=1000000:=fun k=>Nat.le_trans (qgD ps k) hn
 go_enter Tryz.func160,Tryz.ntmps160
 go_wp2
 go_loopw [3,11] (fun s j wr=>∃k:Nat,k<=n/\j=.int .i64 k/\s=.int .i64 (lensU ps k:Nat)/\wr=w) (fun _ j _=>n-(intOf j).toNat)
 case atStart=>exact⟨0,Nat.zero_le _,rfl,by simp[lensU,joinU],rfl⟩
 case round=>
  obtain⟨k,hk,rfl,rfl,hww⟩:=hrel;obtain rfl:w=wr:=hww.symm
  by_cases hlt:k<n
  ·have hkl:k<ps.length:=by rw[<-HN.out];exact hlt
   have hi:=fun w'=>hix k w' hlt
   have hc1:=HC.out k hkl;have hl:=(HT.out ps[k] (List.getElem_mem hkl)).len;have HLL:Hid _:=hl
   have HS:Hid (lensU ps (k+1)=lensU ps k+ps[k].len):=by
    show _=_;unfold lensU;rw[q8p hkl,List.length_append,hl]
   have hb1:lensU ps k+ps[k].len<=1000000:=by rw[<-HS.out];exact hbk0 (k+1)
   generalize lensU ps k=S at *;generalize ps[k]=p at *;obtain⟨pa,pl,pc,pt⟩:=p;dsimp only at *
   have hw:IntKind.i64.wrap ((S:Int)+(pl:Int))=((S+pl:Nat):Int):=by rw[IntKind.wrap_i64];omega
   have hneg:¬(((S+pl:Nat):Int)<0):=by omega
   clear hix;go_wp2
   go_roundw
   case rel=>exact⟨k+1,by omega,by go_num,by rw[HS.out];simp[HLL.out],trivial⟩
   case measure=>simp[intOf];omega
  ·obtain rfl:k=n:=by omega
   have hbn:=hbk0 k;have HJ:Hid (joinU (ps.take k)=joinU ps):=by show _=_;rw[List.take_of_length_le (by rw[HN.out];exact nlr)]
   have hgn:=hgr (lensU ps k) hbn;generalize lensU ps k=S at *;clear hix
   have hix:∀j w',j<k->(Instr.indexAt 41 (.slice (some ⟨g,0,none⟩) k k) (.int .i64 (j:Nat))).run Tryz.prog w'=.ok (.pointer (some ⟨g,j,none⟩)) w':=fun j w' h=>by
    have:=q1a (a:=some ⟨g,0,none⟩) (cap:=k) (n:=k) Tryz.underlying41 q5X (by simp) j w' h
    simpa [adOf,qg] using this
   go_wp2_with fail
   refine (hgn _).mono ?_
   rintro e w1 ⟨v,rfl,hown,hw1⟩
   have HO:=hiq hown;clear hown;go_wp2
   go_loopw [6,27] (fun s j w2=>∃m:Nat,m<=k/\j=.int .i64 m/\Hid (w2.ownsRow w.heap.size 55 1 s (joinU (ps.take m)).length ((iU (joinU (ps.take m))).map (Value.int .u64)))/\Hid (Below w.heap.size w w2)) (fun _ j _=>k-(intOf j).toNat)
   case atStart=>exact⟨0,Nat.zero_le _,rfl,HO,hw1⟩
   case round=>
    obtain⟨m,hm,rfl,HO2,hb2⟩:=hrel;by_cases hltm:m<k
    ·have hml:m<ps.length:=by rw[<-HN.out];exact hltm
     have hi:=fun w'=>hix m w' hltm
     have hc1:=(hb2.out.cell hg).trans (HC.out m hml);have hTm:=(HT.out ps[m] (List.getElem_mem hml)).up hb2.out;have HS:Hid (joinU (ps.take (m+1))=joinU (ps.take m)++ps[m].ts):=q8p hml;have hbm:=hbk0 m
     have hpm:ps[m].ts.length<=1000000:=by
      have:=hbk0 (m+1);rw[HS.out,List.length_append]at this;omega
     have hlt:=World.ownsRow.lt HO2.out;have hsz:=hb2.out.size;generalize joinU (ps.take m)=J at *;generalize ps[m]=p at *;obtain⟨pa,pl,pc,pt⟩:=p;dsimp only at *
     clear hix
     go_wp2_with (at_builtin;refine q8M rfl _ _ rfl w.heap.size _ J pt pa pl pc rfl rfl HO2.out hTm (by omega) (by omega) (by omega) ?_)
     intro v3 w3 hown3 hgr3;have HO3:Hid (w3.ownsRow w.heap.size 55 1 v3 (J++pt).length ((iU (J++pt)).map (Value.int .u64))):=by show World.ownsRow _ _ _ _ _ _ _;rw[List.length_append];simpa using hown3
     have hb3:Hid (Below w.heap.size w w3):=hb2.out.grown hgr3 hsz (fun j e=>(hlt j e).1)
     clear hown3 hgr3;go_wp2
     go_roundw
     case rel=>exact⟨m+1,by omega,by go_num,by rw[HS.out];exact HO3,hb3⟩
     case measure=>simp[intOf];omega
    ·obtain rfl:m=k:=by omega
     have HF:Hid _:=HO2.out;rw[HJ.out]at HF;go_wp2;go_ret
     exact⟨_,rfl,HF.out,hb2.out⟩
theorem qdq(a:Option Addr)(n c:Nat)(l:List Nat)(b:Option Addr)(m d:Nat)(k:List Nat)(w:World)(hA:USl w a n c l)(hB:USl w b m d k)(sL:Sm l)(sK:Sm k)(hn:n+m<=1024):
  Calls Tryz.prog 151 #[.slice a n c,.slice b m d] w (LEN 0 (leastL (l++k)) w):=by
 have hl:=hA.len;have hk:=hB.len;have hbn:=qc w (.cells #[.slice a n c,.slice b m d] 46);have hrow:=(MapKept.heap_alloc w (.cells #[.slice a n c,.slice b m d] 46)).1;have hj:joinU [⟨a,n,c,l⟩,⟨b,m,d,k⟩]=l++k:=by simp[joinU]
 have hcc:=q6O w.heap.size [⟨a,n,c,l⟩,⟨b,m,d,k⟩] (w.alloc (.cells #[.slice a n c,.slice b m d] 46)) (fun i hi=>by
   rw[qb hrow i]
   match i,hi with
   | 0,_=>rfl
   | 1,_=>rfl) (by simp) (fun p hp=>by
   rcases List.mem_cons.1 hp with rfl|hp
   ·exact hA.up hbn
   ·rcases List.mem_cons.1 hp with rfl|hp
    ·exact hB.up hbn
    ·cases hp) (by rw[hj,List.length_append];omega) (by simp)
 rw[hj]at hcc;dsimp only[List.length_cons,List.length_nil,Nat.zero_add,Nat.reduceAdd]at hcc
 have HL:Hid (∀w1 v,w1.ownsRow (w.alloc (.cells #[.slice a n c,.slice b m d] 46)).heap.size 55 1 v (l++k).length ((iU (l++k)).map (Value.int .u64))->∃q C,v=.slice q (l++k).length C/\Calls Tryz.prog 36 #[.slice q (l++k).length C] w1 (LRN (leastL (l++k)) w1)):=fun w1 v ho=>by
  obtain⟨q,C,rfl,hU⟩:=qa8 ho;exact⟨q,C,rfl,q4v q _ C _ w1 hU (qfX sL sK) (by rw[List.length_append];omega)⟩
 have HBN:Hid _:=hbn;have hw1:IntKind.i64.wrap ((n:Int)+(m:Int))=((n+m:Nat):Int):=by rw[IntKind.wrap_i64];omega
 have hg1:¬((1024:Int)<((n+m:Nat):Int)):=by omega
 have hb1:=hA.bd;have hb2:=hB.bd;clear hbn hrow hA hB sL sK hj hl hk;generalize leastL (l++k)=r at *;generalize l++k=lk at *;go_enter Tryz.func151,Tryz.ntmps151
 go_wp2_with fail
 refine hcc.mono ?_
 rintro e w1 ⟨v,rfl,hown,hb⟩
 obtain⟨q,C,rfl,hle⟩:=HL.out w1 v hown;have HB1:Hid (Below w.heap.size w w1):=qd HBN.out hb;clear hown hb hcc HL HBN
 go_wp2_with fail
 refine hle.mono ?_
 rintro e w2 ⟨q2,C2,rfl,hU2,hb2,hf2⟩
 have HU:Hid _:=hU2;have HB2:Hid (Below w.heap.size w w2):=qd HB1.out hb2;have HFS:Hid (∀k,k<r.length->w.heap.size<=(adOf q2 k).block):=fun k hk=>Nat.le_trans HB1.out.size (hf2 k hk)
 clear hU2 hb2 HB1 hle hf2;go_wp2;go_ret2
 exact⟨q2,C2,rfl,HU.out,HB2.out,HFS.out⟩
theorem qem(a:Option Addr)(n c:Nat)(b:Option Addr)(m d:Nat)(w:World)(hn1:n<=1000000)(hn2:m<=1000000)(hn:1024<n+m):
  Calls Tryz.prog 151 #[.slice a n c,.slice b m d] w (LE 9 [] w):=by
 have hw1:IntKind.i64.wrap ((n:Int)+(m:Int))=((n+m:Nat):Int):=by rw[IntKind.wrap_i64];omega
 have hg1:(1024:Int)<((n+m:Nat):Int):=by omega
 go_enter Tryz.func151,Tryz.ntmps151
 go_wp2;go_ret2
 exact⟨none,0,rfl,q6u,Below.refl _ _⟩
theorem q5r(n m:Nat)(w:World)(_hn:n<=1000000)(_hm:m<=1000000):
  Calls Tryz.prog 159 #[.int .i64 (n:Int),.int .i64 (m:Int)] w fun e w'=>e=.returned (.bool (decide (1024<n*m)))/\w'=w:=by
 by_cases h0:n=0
 ·subst h0
  go_enter Tryz.func159,Tryz.ntmps159
  go_wp2;go_ret
  exact⟨by simp,rfl⟩
 ·have hpos:(0:Int)<(n:Int):=by omega
  have hne:¬((n:Int)=0):=by omega
  have hq:IntKind.i64.wrap ((1024:Int).tdiv (n:Int))=((1024 / n:Nat):Int):=by
   have:(1024:Int).tdiv (n:Int)=((1024 / n:Nat):Int):=rfl
   rw[this,IntKind.wrap_i64];have h2:=Nat.div_le_self 1024 n;generalize 1024 / n=q at *
   omega
  have HD:Hid (decide (1024 / n<m)=decide (1024<n*m)):=by
   show _=_
   have h1:1024 / n<m↔1024<n*m:=by rw[Nat.div_lt_iff_lt_mul (by omega),Nat.mul_comm]
   by_cases h:1024<n*m
   ·rw[decide_eq_true h,decide_eq_true (h1.2 h)]
   ·rw[decide_eq_false h,decide_eq_false fun k=>h (h1.1 k)]
  generalize 1024 / n=q at *;go_enter Tryz.func159,Tryz.ntmps159
  go_wp2;go_ret
  exact⟨by rw[<-HD.out];rfl,rfl⟩
theorem qho(l k:List Nat)(i j:Nat)(x:Nat)(hi:i<l.length)(hj:j<=k.length):(uniL (l.take i) k++(k.take j).map fun y=>x ||| y).length<=l.length*k.length:=by
 rw[List.length_append,q4p,List.length_map,List.length_take,List.length_take,Nat.min_eq_left (by omega),Nat.min_eq_left hj]
 have:(i+1)*k.length<=l.length*k.length:=Nat.mul_le_mul_right _ hi
 rw[Nat.succ_mul]at this
 omega
theorem qeg{w:World}{a:Option Addr}{n c:Nat}{l:List Nat}(h:USl w a n c l){k:Nat}(hk:k<n):w.cell? (adOf a k)=some (.int .u64 ((l.getD k 0:Nat):Int)):=by
 rw[h.cell k hk]
 congr 2
 simp only[List.getD_eq_getElem?_getD,iU,List.getElem?_map]
 cases l[k]?<;>rfl
theorem qfY{l:List Nat}(h:Sm l){k:Nat}(hk:k<l.length):l.getD k 0<18446744073709551616:=by
 rw[List.getD_eq_getElem?_getD,lge hk];exact h _ (List.getElem_mem hk)
theorem qbz(a:Option Addr)(n c:Nat)(l:List Nat)(b:Option Addr)(m d:Nat)(k:List Nat)(w:World)(hA:USl w a n c l)(hB:USl w b m d k)(sL:Sm l)(sK:Sm k)(hn:n*m<=1024)(hn1:n<=2000)(hm1:m<=2000):
  Calls Tryz.prog 150 #[.slice a n c,.slice b m d] w (LEN 0 (leastL (uniL l k)) w):=by
 have hl:=hA.len;have hk:=hB.len;have hmany:=q5r n m w (by omega) (by omega)
 rw[decide_eq_false (by omega:¬(1024<n*m))]at hmany
 have HL:Hid (∀w1 v,w1.ownsRow w.heap.size 55 1 v (uniL l k).length ((iU (uniL l k)).map (Value.int .u64))->∃q C,v=.slice q (uniL l k).length C/\Calls Tryz.prog 36 #[.slice q (uniL l k).length C] w1 (LRN (leastL (uniL l k)) w1)):=fun w1 v ho=>by
  obtain⟨q,C,rfl,hU⟩:=qa8 ho;exact⟨q,C,rfl,q4v q _ C _ w1 hU (qj9 sL sK) (by rw[q4p,<-hl,<-hk];omega)⟩
 have HLT:Hid (uniL (l.take n) k=uniL l k):=by show _=_;rw[List.take_of_length_le (by omega)]
 have HN:Hid (∀i,i<n->uniL (l.take (i+1)) k=uniL (l.take i) k++(k.take m).map fun y=>l.getD i 0 ||| y):=fun i hi=>by
  rw[qhp (by omega),List.take_of_length_le (l:=k) (by omega)]
 have HM:Hid (∀x j,j<m->((k.take (j+1)).map fun y=>x ||| y)=((k.take j).map fun y=>x ||| y)++[x ||| k.getD j 0]):=fun x j hj=>qgK (by omega)
 have HW:Hid (∀i j x,i<n->j<=m->(uniL (l.take i) k++(k.take j).map fun y=>x ||| y).length<=1024):=fun i j x hi hj=>by
  have:=qho l k i j x (by omega) (by omega)
  rw[<-hl,<-hk]at this
  omega
 have HCA:Hid (∀i,i<n->∀wr,Below w.heap.size w wr->wr.cell? (adOf a i)=some (.int .u64 ((l.getD i 0:Nat):Int))):=fun i hi wr hb=>qeg (hA.up hb) hi
 have HCB:Hid (∀i,i<m->∀wr,Below w.heap.size w wr->wr.cell? (adOf b i)=some (.int .u64 ((k.getD i 0:Nat):Int))):=fun i hi wr hb=>qeg (hB.up hb) hi
 have HO:Hid (∀i j,i<n->j<m->bits .or .u64 ((l.getD i 0:Nat):Int) ((k.getD j 0:Nat):Int)=((l.getD i 0 ||| k.getD j 0:Nat):Int)):=fun i j hi hj=>u64_or_nat _ _ (qfY sL (by omega)) (qfY sK (by omega))
 have hidA:=fun (i:Nat) (w:World) (h:i<n)=>hA.idx n i w h nlr
 have hidB:=fun (i:Nat) (w:World) (h:i<m)=>hB.idx m i w h nlr
 clear hA hB sL sK hl hk hn;go_enter Tryz.func150,Tryz.ntmps150
 go_wp2_with fail
 refine hmany.mono ?_
 rintro e w0 ⟨rfl,hw0⟩
 obtain rfl:w=w0:=hw0.symm
 clear hmany;go_wp2
 go_loopw [6,18] (fun v i wr=>∃p:Nat,p<=n/\i=.int .i64 (p:Int)/\Hid (wr.ownsRow w.heap.size 55 1 v (uniL (l.take p) k).length ((iU (uniL (l.take p) k)).map (Value.int .u64)))/\Hid (Below w.heap.size w wr)) (fun _ i _=>n-(intOf i).toNat)
 case atStart=>exact⟨0,Nat.zero_le _,rfl,⟨rfl,Or.inl ⟨rfl,rfl⟩⟩,Below.refl _ _⟩
 case round=>
  obtain⟨p,hp,rfl,HV,HB⟩:=hrel;by_cases hlt:p<n
  ·have hc:=HCA.out p hlt wr HB.out
   have hx:=fun w'=>hidA p w' hlt
   have HNp:Hid _:=HN.out p hlt;have HWp:Hid (∀j x,j<=m->(uniL (l.take p) k++(k.take j).map fun y=>x ||| y).length<=1024):=fun j x hj=>HW.out p j x hlt hj
   have HOp:Hid (∀j,j<m->bits .or .u64 ((l.getD p 0:Nat):Int) ((k.getD j 0:Nat):Int)=((l.getD p 0 ||| k.getD j 0:Nat):Int)):=fun j hj=>HO.out p j hlt hj
   have HMp:Hid (∀j,j<m->((k.take (j+1)).map fun y=>l.getD p 0 ||| y)=((k.take j).map fun y=>l.getD p 0 ||| y)++[l.getD p 0 ||| k.getD j 0]):=fun j hj=>HM.out _ j hj
   clear hidA HCA HN HW HO HM HL HLT;generalize l.getD p 0=x at *;generalize hU:uniL (l.take p) k=U at *;clear hU;go_wp2;clear hc hx
   go_loopw [6,24] (fun v i w3=>∃j:Nat,j<=m/\i=.int .i64 (j:Int)/\Hid (w3.ownsRow w.heap.size 55 1 v (U++(k.take j).map fun y=>x ||| y).length ((iU (U++(k.take j).map fun y=>x ||| y)).map (Value.int .u64)))/\Hid (Below w.heap.size w w3)) (fun _ i _=>m-(intOf i).toNat)
   case atStart=>exact⟨0,Nat.zero_le _,rfl,by show World.ownsRow _ _ _ _ _ _ _;simpa using HV.out,HB⟩
   case round=>
    clear HV HB;obtain⟨j,hj,rfl,HV,HB⟩:=hrel;by_cases hltj:j<m
    ·have hc:=HCB.out j hltj _ HB.out
     have hx:=fun w'=>hidB j w' hltj
     have hor:=HOp.out j hltj;have HMj:Hid _:=HMp.out j hltj;have hbd:=HWp.out j x (by omega)
     obtain⟨va,vc,rfl⟩:=q2b HV.out;clear HWp HOp HMp HCB hidB HNp;generalize k.getD j 0=y at *;generalize hR:(U++(k.take j).map fun y=>x ||| y)=R at *;have HRE:Hid (U++(k.take (j+1)).map (fun y=>x ||| y)=R++[x ||| y]):=by show _=_;rw[HMj.out,<-List.append_assoc,hR]
     clear HMj hR;generalize x ||| y=z at *;have HOA:Hid ((wr.alloc (.cells #[.int .u64 (z:Int)] 55)).ownsRow w.heap.size 55 1 (.slice va R.length vc) R.length ((iU R).map (Value.int .u64))):=World.ownsRow.alloc HV.out _;have HCA:Hid ((wr.alloc (.cells #[.int .u64 (z:Int)] 55)).cell? ⟨wr.heap.size,0,none⟩=some (.int .u64 (z:Int))):=qb (mha wr _).1 0;have HWA:Hid (Below w.heap.size w (wr.alloc (.cells #[.int .u64 (z:Int)] 55))):=HB.out.alloc HB.out.size _;have hszA:w.heap.size<=(wr.alloc (.cells #[.int .u64 (z:Int)] 55)).heap.size:=HWA.out.size;have HGE:Hid (∀q,(Value.slice va R.length vc).ownBlock=some q->w.heap.size<=q):=q3o HV.out;clear HV HB
     go_wp2_with (at_builtin;refine q5i rfl _ _ rfl w.heap.size _ R.length (iU R) rfl HOA.out wr.heap.size (z:Int) rfl HCA.out (by omega) hszA ?_)
     intro v7 w7 hown7 hgr7;have HO7:Hid (w7.ownsRow w.heap.size 55 1 v7 (R.length+1) ((iU R++[(z:Int)]).map (Value.int .u64))):=by show World.ownsRow _ _ _ _ _ _ _;simpa using hown7
     have HW7:Hid (Below w.heap.size w w7):=HWA.out.grown hgr7 hszA (fun q e=>HGE.out q e)
     clear hown7 hgr7 HOA HCA HWA hszA HGE;go_wp2
     go_roundw
     case rel=>
      refine⟨j+1,by omega,by go_num,?_,HW7⟩
      show World.ownsRow _ _ _ _ _ _ _
      rw[HRE.out,List.length_append,q9H];exact HO7.out
     case measure=>simp[intOf];omega
    ·obtain rfl:j=m:=by omega
     clear HWp HOp HMp HCB hidB;go_wp2
     go_roundw
     case rel=>
      refine⟨p+1,by omega,by go_num,?_,HB⟩
      show World.ownsRow _ _ _ _ _ _ _
      rw[HNp.out];exact HV.out
     case measure=>simp[intOf];omega
  ·obtain rfl:p=n:=by omega
   have HV2:Hid _:=HV.out;rw[HLT.out]at HV2;obtain⟨q,C,rfl,hle⟩:=HL.out wr _ HV2.out;clear HV HV2 HN HM HW HCA HCB HO HL HLT hidA hidB;generalize leastL (uniL l k)=r at *;generalize (uniL l k).length=N at *
   go_wp2_with fail
   refine hle.mono ?_
   rintro e w2 ⟨q2,C2,rfl,hU2,hb2,hf2⟩
   have HU:Hid _:=hU2;have HB2:Hid (Below w.heap.size w w2):=qd HB.out hb2;have HFS:Hid (∀k,k<r.length->w.heap.size<=(adOf q2 k).block):=fun k hk=>Nat.le_trans HB.out.size (hf2 k hk)
   clear hU2 hb2 hle hf2;go_wp2;go_ret2
   exact⟨q2,C2,rfl,HU.out,HB2.out,HFS.out⟩
theorem qd6(a:Option Addr)(n c:Nat)(b:Option Addr)(m d:Nat)(w:World)(hn1:n<=2000)(hm1:m<=2000)(hn:1024<n*m):
  Calls Tryz.prog 150 #[.slice a n c,.slice b m d] w (LE 9 [] w):=by
 have hmany:=q5r n m w (by omega) (by omega)
 rw[decide_eq_true hn]at hmany;clear hn;go_enter Tryz.func150,Tryz.ntmps150
 go_wp2_with fail
 refine hmany.mono ?_
 rintro e w0 ⟨rfl,hw0⟩
 obtain rfl:w=w0:=hw0.symm
 clear hmany;go_wp2;go_ret2
 exact⟨none,0,rfl,q6u,Below.refl _ _⟩
def Tab64 (w:World):Prop:=∀j,j<64->w.cell? ⟨1,j,none⟩=some (.int .u8 ((Lib.deBruijn64tab.getD j 0:Nat):Int))
theorem Tab64.up{w w':World}(h:Tab64 w)(hb:Below w.heap.size w w'):Tab64 w':=fun j hj=>qn (h j hj) hb
theorem qch(x k idx:Nat)(w:World)(hx0:((x:Int)==0)=false)
  (key:IntKind.u64.wrap (bits BinOp.and IntKind.u64 (x:Int) (IntKind.u64.wrap (-(x:Int)))*285870213051353865) / 288230376151711744=(idx:Int))
  (hi:idx<64) (hk:k<64) (hcell:w.cell? ⟨1,idx,none⟩=some (.int .u8 (k:Int))):
  Calls Tryz.prog 166 #[.int .u64 (x:Int)] w fun e w'=>e=.returned (.int .i64 (k:Int))/\w'=w:=by
 go_enter Tryz.func166,Tryz.ntmps166
 go_wp2_with (simp only[key])
 go_ret
 exact⟨rfl,rfl⟩
theorem qjc(x a:Nat)(hx:x<18446744073709551616)(hx0:x≠0)(hlow:x &&& (18446744073709551616-x)=a):
  IntKind.u64.wrap (bits BinOp.and IntKind.u64 (x:Int) (IntKind.u64.wrap (-(x:Int)))*285870213051353865) / 288230376151711744=((a*285870213051353865 % 18446744073709551616 / 288230376151711744:Nat):Int):=by
 have e1:IntKind.u64.wrap (-(x:Int))=((18446744073709551616-x:Nat):Int):=by rw[IntKind.wrap_u64];omega
 rw[e1,u64_and_nat x _ hx (by omega),hlow,IntKind.wrap_u64]
 omega
theorem qdu(x:Nat)(hx:x<2 ^ 64)(hx0:x≠0)(w:World)(hT:Tab64 w):
  Calls Tryz.prog 166 #[.int .u64 (x:Int)] w fun e w'=>e=.returned (.int .i64 ((Lib.ctz 64 x:Nat):Int))/\w'=w:=by
 obtain⟨hlow,hk⟩:=Lib.lowest_bit 64 x hx0 hx;obtain⟨hi,htab⟩:=Lib.deBruijn64_at _ hk;have hcell:=hT _ hi;rw[htab]at hcell;exact qch x _ _ w (by simp;omega) (qjc x _ hx hx0 hlow) hi hk hcell
theorem qbJ:(Tryz.prog.info? 3).map (fun i=>(i.zero,i.size,i.bytes))=some (some (.int .i64 0),1,8):=by kernel_rfl
theorem qca:(Tryz.prog.info? 3).map (·.size)=some 1:=by kernel_rfl
theorem qaN{w:World}{ops:Array Oper}{rest:List Oper}{o:Oper}{a:Act}{Q:Exit->Act->World->Prop}(hgd:o.guard=none)(s x:Operand)
  (ho:o.op=.call { callee:=.builtin .append,args:=#[s,x],argTypes:=#[29,29] }) (base:Nat)
  (v:Value) (n:Nat) (zs:List Int) (hs:a.eval s=v) (hown:w.ownsRow base 3 1 v n (zs.map (Value.int .i64))) (g':Nat) (z:Int) (hx:a.eval x=.slice (some ⟨g',0,none⟩) 1 1) (hc:w.cell? ⟨g',0,none⟩=some (.int .i64 z))
  (hn:n+1<=2000000) (hbase:base<=w.heap.size)
  (h:∀v' w',w'.ownsRow base 3 1 v' (n+1) ((zs++[z]).map (Value.int .i64))->w.grownBy w' v.ownBlock->wpList Tryz.prog ops Q rest (a.put o.dst v') w'):wpList Tryz.prog ops Q (o::rest) a w:=by
 obtain⟨i,hi,hz0,hz1,hz2⟩:=info_parts qbJ;refine wpList_append_own w hgd s x 29 ho base 3 i _ 1 8 Tryz.underlying29 hi hz0 hz1 hz2 rfl (by decide) v n _ hs hown ⟨g',0,none⟩ 1 1 [.int .i64 z] hx rfl ?_ (fun u hu=>by simp at hu;subst hu;rfl) (by unfold maxLen;omega) (by omega) hbase ?_
 ·intro j u hj
  match j with
  | 0=>simp at hj;rw[<-hj,qg];exact hc
  |j+1=>simp at hj
 ·intro v' w' h1 h2 _
  exact h v' w' (by rw[List.map_append];exact h1) h2
abbrev ISl (w:World) (a:Option Addr) (len cap:Nat) (l:List Nat):Prop:=IntSl Tryz.prog 29 .i64 w a len cap (iU l)
theorem qih{w:World}{base n:Nat}{v:Value}{l:List Nat}(h:w.ownsRow base 3 1 v n ((iU l).map (Value.int .i64))):∃a cap,v=.slice a n cap/\ISl w a n cap l:=by
 obtain⟨hl,h⟩:=h;simp at hl
 rcases h with⟨rfl,rfl⟩|⟨g,cap,cur,rfl,hg,hcell,hnc,hcm,hsz,htk⟩
 ·have:l=[]:=List.eq_nil_of_length_eq_zero hl
  subst this;exact⟨none,0,rfl,⟨rfl,nlr,Nat.zero_le _,fun m k w hk hm=>absurd hk (by omega),fun k hk=>absurd hk (by omega),fun k hk=>absurd hk (by omega),fun _=>rfl⟩⟩
 ·have had:∀k,adOf (some ⟨g,0,none⟩) k=⟨g,k,none⟩:=fun k=>by simp[adOf,qg]
  have hlt:g<w.heap.size:=(aes hcell).1
  refine⟨some ⟨g,0,none⟩,cap,rfl,⟨by simpa using hl,hnc,hcm,fun m k w hk hm=>q1a Tryz.underlying29 qca (by simp) k w hk,fun k hk=>?_,fun k hk=>by rw[had];exact hlt,by simp⟩⟩
  rw[had]
  have hk2:(cur.toList.take (n*1))[k]? =some (.int .i64 ((iU l).getD k 0)):=by
   rw[htk];simp[List.getD_eq_getElem?_getD,List.getElem?_eq_getElem (show k<l.length by omega)]
  rw[List.getElem?_take,if_pos (by omega)]at hk2
  simp[World.cell?,hcell]
  simpa using hk2
theorem q2a(w:World):Calls Tryz.prog 124 #[] w (LRN [0] w):=by
 have HU:Hid _:=q3M [0] w (by decide)
 have HB:Hid _:=qc w (.cells ((iU [0]).map (Value.int .u64)).toArray 55);go_enter Tryz.func124,Tryz.ntmps124
 go_wp2;go_ret
 exact⟨_,_,rfl,HU.out,HB.out,fun k _=>by simp[adOf,qg]⟩
def pgV (p:Nat):Value:=.pointer (some ⟨p,0,none⟩)
structure US (w:World) (F:Nat->Prop) (a:Option Addr) (n c:Nat) (l:List Nat):Prop where
 sl:USl w a n c l
 nf:∀k,k<n->¬F (adOf a k).block
theorem US.fr{w w':World}{F F':Nat->Prop}{a:Option Addr}{n c:Nat}{l:List Nat}(h:US w F a n c l)(fr:Fr w w' F F'):US w' F' a n c l:=⟨fr.intSl h.sl h.nf,fun k hk=>fr.out (h.nf k hk) (h.sl.blk k hk)⟩
theorem US.up{w w':World}{F:Nat->Prop}{a:Option Addr}{n c:Nat}{l:List Nat}(h:US w F a n c l)(hb:Below w.heap.size w w'):US w' F a n c l:=⟨h.sl.up hb,h.nf⟩
theorem qfx(w:World)(F:Nat->Prop):US w F none 0 0 []:=⟨q6u,fun k hk=>absurd hk (by omega)⟩
def thrownP:List PanicEntry:=[{ v:=.iface 185 (.int .i64 9),recovered:=false }]
def TwoR (r:Option (List Nat)) (w:World) (e:Ending) (w':World):Prop:=Below w.heap.size w w'/\((∃L q d,r=some L/\e=.returned (.slice q L.length d)/\USl w' q L.length d L/\∀k,k<L.length->w.heap.size<=(adOf q k).block)\/(r=none/\e=.panicked thrownP))
theorem q5v(a:Option Addr)(n c:Nat)(w:World):Calls Tryz.prog 149 #[.slice a n c,.int .i64 0] w fun e w'=>e=.returned (.slice a n c)/\w'=w:=by
 go_enter Tryz.func149,Tryz.ntmps149
 go_wp2;go_ret
 exact⟨rfl,rfl⟩
theorem q5u(a:Option Addr)(n c:Nat)(w:World):Calls Tryz.prog 149 #[.slice a n c,.int .i64 9] w fun e w'=>e=.panicked thrownP/\w'=w:=by
 go_enter Tryz.func149,Tryz.ntmps149
 go_wp2;exact⟨rfl,rfl,rfl⟩
theorem q4x(a:Option Addr)(n c:Nat)(l:List Nat)(b:Option Addr)(m d:Nat)(k:List Nat)(w:World)(hA:USl w a n c l)(hB:USl w b m d k)(sL:Sm l)(sK:Sm k)(hn:n<=2000)(hm:m<=2000):
  Calls Tryz.prog 125 #[.slice a n c,.slice b m d] w (TwoR (andM l k) w):=by
 have hl:=hA.len;have hk:=hB.len;by_cases h:n*m<=1024
 ·have hs:andM l k=some (leastL (uniL l k)):=by unfold andM;rw[if_pos (by rw[<-hl,<-hk];exact h)]
  have jj:=qbz a n c l b m d k w hA hB sL sK h hn hm;rw[hs];clear hs hA hB hl hk h;generalize leastL (uniL l k)=r at *;go_enter Tryz.func125,Tryz.ntmps125
  go_wp2_with fail
  refine jj.mono ?_
  rintro e w1 ⟨q,C,rfl,hU,hb,hf⟩
  have HU:Hid _:=hU;have HB:Hid _:=hb;have HFS:Hid _:=hf;clear jj hU hb hf
  go_wp2_with fail
  refine (q5v _ _ _ _).mono ?_
  rintro e w2 ⟨rfl,rfl⟩
  go_wp2;go_ret
  exact⟨HB.out,Or.inl ⟨r,q,C,rfl,rfl,HU.out,HFS.out⟩⟩
 ·have hs:andM l k=none:=by unfold andM;rw[if_neg (by rw[<-hl,<-hk];exact h)]
  have jj:=qd6 a n c b m d w hn hm (by omega)
  rw[hs];clear hs hA hB hl hk h;go_enter Tryz.func125,Tryz.ntmps125
  go_wp2_with fail
  refine jj.mono ?_
  rintro e w1 ⟨q,C,rfl,hU,hb⟩
  have HB:Hid _:=hb;clear jj hU hb
  go_wp2_with fail
  refine (q5u _ _ _ _).mono ?_
  rintro e w2 ⟨rfl,rfl⟩
  exact⟨rfl,HB.out,Or.inr ⟨rfl,rfl⟩⟩
theorem q3L(a:Option Addr)(n c:Nat)(l:List Nat)(b:Option Addr)(m d:Nat)(k:List Nat)(w:World)(hA:USl w a n c l)(hB:USl w b m d k)(sL:Sm l)(sK:Sm k)(hn:n<=2000)(hm:m<=2000):
  Calls Tryz.prog 126 #[.slice a n c,.slice b m d] w (TwoR (orM l k) w):=by
 have hl:=hA.len;have hk:=hB.len;by_cases h:n+m<=1024
 ·have hs:orM l k=some (leastL (l++k)):=by unfold orM;rw[if_pos (by rw[<-hl,<-hk];exact h)]
  have jj:=qdq a n c l b m d k w hA hB sL sK h;rw[hs];clear hs hA hB hl hk h;generalize leastL (l++k)=r at *;go_enter Tryz.func126,Tryz.ntmps126
  go_wp2_with fail
  refine jj.mono ?_
  rintro e w1 ⟨q,C,rfl,hU,hb,hf⟩
  have HU:Hid _:=hU;have HB:Hid _:=hb;have HFS:Hid _:=hf;clear jj hU hb hf
  go_wp2_with fail
  refine (q5v _ _ _ _).mono ?_
  rintro e w2 ⟨rfl,rfl⟩
  go_wp2;go_ret
  exact⟨HB.out,Or.inl ⟨r,q,C,rfl,rfl,HU.out,HFS.out⟩⟩
 ·have hs:orM l k=none:=by unfold orM;rw[if_neg (by rw[<-hl,<-hk];exact h)]
  have jj:=qem a n c b m d w (by omega) (by omega) (by omega)
  rw[hs];clear hs hA hB hl hk h;go_enter Tryz.func126,Tryz.ntmps126
  go_wp2_with fail
  refine jj.mono ?_
  rintro e w1 ⟨q,C,rfl,hU,hb⟩
  have HB:Hid _:=hb;clear jj hU hb
  go_wp2_with fail
  refine (q5u _ _ _ _).mono ?_
  rintro e w2 ⟨rfl,rfl⟩
  exact⟨rfl,HB.out,Or.inr ⟨rfl,rfl⟩⟩
def NewL (l:List Nat) (w:World) (e:Ending) (w':World):Prop:=∃q C,e=.returned (.slice q l.length C)/\USl w' q l.length C l/\Below w.heap.size w w'/\∀k,k<l.length->w.heap.size<=(adOf q k).block
theorem q3U(w w':World)(h:Below w.heap.size w w'):NewL [] w (.returned (.slice none 0 0)) w':=⟨none,0,rfl,q6u,h,fun k hk=>absurd hk (by simp)⟩
theorem q4E(b:Bool)(w:World):Calls Tryz.prog 174 #[.bool b] w (NewL (yesM b) w):=by
 cases b with
 |true=>
  have jj:=q2a w;go_enter Tryz.func174,Tryz.ntmps174
  go_wp2_with fail
  refine jj.mono ?_
  rintro e w1 ⟨q,C,rfl,hU,hb,hf⟩
  have HU:Hid (NewL (yesM true) w (.returned (.slice q [0].length C)) w1):=⟨q,C,rfl,hU,hb,hf⟩;clear jj hU hb hf;go_wp2;go_ret
  exact HU.out
 |false=>
  go_enter Tryz.func174,Tryz.ntmps174
  go_wp2;go_ret
  exact q3U w w (Below.refl _ _)
theorem qgw:∀x:Fin 256,∀q:Fin 8,(bits BinOp.and IntKind.u8 ((x.val:Nat):Int) ((2 ^ q.val:Nat):Int) != 0)=x.val.testBit q.val:=by decide +kernel
def rdV (p x bn bl:Nat):Value:=.agg #[.pointer (some ⟨p,0,none⟩),.int .u8 (x:Int),.map (some bn),.map (some bl)]
def rdO (p x bn bl:Nat):Obj:=.cells #[.pointer (some ⟨p,0,none⟩),.int .u8 (x:Int),.map (some bn),.map (some bl)] 191 (0,0)
theorem q5t(p x bn bl q:Nat)(hx:x<256)(hq:q<=7)(w:World):Calls Tryz.prog 175 #[rdV p x bn bl,.int .u8 (q:Int)] w fun e w'=>e=.returned (.bool (x.testBit q))/\Below w.heap.size w w':=by
 have HB:=qc w (rdO p x bn bl);unfold rdV;unfold rdO at HB;have:q=0\/q=1\/q=2\/q=3\/q=4\/q=5\/q=6\/q=7:=by omega
 have hh:=qgw ⟨x,hx⟩ ⟨q,by omega⟩
 dsimp only at hh
 rcases this with rfl|rfl|rfl|rfl|rfl|rfl|rfl|rfl <;>
 ·have HH:Hid _:=hh
  clear hh;go_enter Tryz.func175,Tryz.ntmps175
  go_wp2;go_ret
  exact⟨congrArg Ending.returned (congrArg Value.bool HH.out),HB⟩
def txOf (f:List Tk):ByteArray:=⟨(f.map fun k=>UInt8.ofNat (k.1*8+k.2)).toArray⟩
def SmT (f:List Tk):Prop:=∀k∈f,k.1<=23/\k.2<=7
theorem qgh{a b:Tk}(ha:a.1<=23/\a.2<=7)(hb:b.1<=23/\b.2<=7)(h:UInt8.ofNat (a.1*8+a.2)=UInt8.ofNat (b.1*8+b.2)):a=b:=by
 have:=congrArg UInt8.toNat h
 simp at this
 obtain⟨a1,a2⟩:=a;obtain⟨b1,b2⟩:=b;simp only[Prod.mk.injEq]
 dsimp only at *
 omega
theorem qhn:∀{f g:List Tk},SmT f->SmT g->txOf f=txOf g->f=g:=by
 intro f g hf hg h
 have h1:(f.map fun k=>UInt8.ofNat (k.1*8+k.2))=g.map fun k=>UInt8.ofNat (k.1*8+k.2):=by
  have:=congrArg (fun x:ByteArray=>x.data.toList) h
  simpa [txOf] using this
 clear h
 induction f generalizing g with
 |nil=>cases g with
  |nil=>rfl
  |cons y g=>simp at h1
 |cons x f ih=>cases g with
  |nil=>simp at h1
  |cons y g=>
   rw[List.map_cons,List.map_cons]at h1;injection h1 with e1 e2;rw[qgh (hf x (by simp)) (hg y (by simp)) e1,ih (fun k hk=>hf k (by simp[hk])) (fun k hk=>hg k (by simp[hk])) e2]
def nmF (M:Mt) (s:ByteArray):Option Nat:=M.findIdx? fun f=>decide (txOf f=s)
theorem q63{p q:List Tk->Bool}:∀{M:Mt},(∀f∈M,p f=q f)->M.findIdx? p=M.findIdx? q
 | [],_=>rfl
 |f::M,h=>by
  rw[List.findIdx?_cons,List.findIdx?_cons,h f (by simp),q63 fun g hg=>h g (by simp[hg])]
theorem qcL{M:Mt}(hM:∀f∈M,SmT f){g:List Tk}(hg:SmT g):nmF M (txOf g)=M.findIdx? (· == g):=by
 refine q63 fun f hf=>?_
 by_cases e:f=g
 ·subst e;simp
 ·have:¬txOf f=txOf g:=fun h=>e (qhn (hM f hf) hg h)
  simp[e,this]
theorem qgO{M:Mt}(hM:∀f∈M,SmT f){g:List Tk}(hg:SmT g)(hn:M.findIdx? (· == g)=none)(y:ByteArray):(if y=txOf g then some M.length else nmF M y)=nmF (M++[g]) y:=by
 by_cases e:y=txOf g
 ·subst e
  rw[if_pos rfl];unfold nmF;rw[List.findIdx?_append,show M.findIdx? (fun f=>decide (txOf f=txOf g))=none from (qcL hM hg).trans hn];simp
 ·rw[if_neg e]
  unfold nmF;rw[List.findIdx?_append];have:¬txOf g=y:=fun h=>e h.symm
  simp[this]
theorem PtR.setRest{w:World}{b mp n j:Nat}{T:TypeId}{rest:List Value}{vi vt:Value}{items:List It}{texts:List ByteArray}{f:It->Option Nat}(h:PtR w b T rest vi mp vt items texts n f)(v:Value):
  PtR (w.setCell ⟨b,3+j,none⟩ v) b T (rest.set j v) vi mp vt items texts n f:=by
 have st:∀k,k≠b->(w.setCell ⟨b,3+j,none⟩ v).heap[k]? =w.heap[k]? := fun k hk=>Below.heap_setCell _ _ _ _ hk
 refine⟨h.ty,?_,qs h.ri fun k hk=>st k (fun e=>h.ib (e ▸ hk)),qs h.rt fun k hk=>st k (fun e=>h.tb (e ▸ hk)),h.num.far (st mp h.mb)⟩
 rw[heap_setCell_same w b (3+j) _ _ v h.blk];unfold ptA
 congr 2
 rw[show 3+j=j+1+1+1 by omega]
 simp
theorem PtO.setRest{T0:Tr}{w:World}{G:Nat->Prop}{b j:Nat}{T:TypeId}{rest:List Value}{items:List It}(h:PtO T0 w G b T rest items)(v:Value):
  PtO T0 (w.setCell ⟨b,3+j,none⟩ v) G b T (rest.set j v) items:=by
 obtain⟨texts,hp,ht⟩:=h.ex;obtain⟨vi,mp,vt,hr,hG⟩:=hp.ex;exact⟨h.t0,h.low,h.cov,texts,⟨hp.nd,hp.tl,hp.few,hp.ok,hp.tok,vi,mp,vt,hr.setRest v,hG⟩,ht⟩
theorem PtO.blk{T0:Tr}{w:World}{G:Nat->Prop}{b:Nat}{T:TypeId}{rest:List Value}{items:List It}(h:PtO T0 w G b T rest items):∃vi mp vt,w.heap[b]? =some (.cells (ptA vi mp vt rest) T (0,0))/\G b:=by
 obtain⟨texts,hp,ht⟩:=h.ex;obtain⟨vi,mp,vt,hr,hG⟩:=hp.ex;exact⟨vi,mp,vt,hr.blk,(hG b).2 (Or.inl rfl)⟩
def pgRest (p mn:Nat) (vm vs:Value):List Value:=[pgV p,.map (some mn),vm,vs]
def MetOk (items:List It) (met:List Nat) (M:Mt):Prop:=met.length=M.length/\∀(n i:Nat),met[n]? =some i->∃S:Tr,Rep items i S/\M[n]? =some S.flat
theorem MetOk.pre{items items':List It}{met:List Nat}{M:Mt}(h:MetOk items met M)(hp:items <+: items'):MetOk items' met M:=⟨h.1,fun n i hi=>by
 obtain⟨S,h1,h2⟩:=h.2 n i hi;exact⟨S,h1.pre hp,h2⟩⟩
structure PgR (T0:Tr) (w:World) (G:Nat->Prop) (p mn:Nat) (vm vs:Value) (items:List It) (met:List Nat) (M:Mt):Prop where
 po:PtO T0 w G p 128 (pgRest p mn vm vs) items
 row:w.ownsRow 0 3 1 vm met.length (encM met)
 num:NumS w mn met.length (nmF M)
 met:MetOk items met M
 ng:¬G mn
 nv:∀k,vm.ownBlock=some k->¬G k
def FQ (G:Nat->Prop) (mn:Nat) (vm:Value) (k:Nat):Prop:=G k\/k=mn\/vm.ownBlock=some k
structure PgO (T0:Tr) (w:World) (F:Nat->Prop) (p:Nat) (vs:Value) (items:List It) (M:Mt):Prop where
 few:M.length<=64
 nd:M.Nodup
 of:∀f∈M,∃S,KT S/\InC T0 S/\f=S.flat
 ex:∃G mn vm met,PgR T0 w G p mn vm vs items met M/\∀k,F k↔FQ G mn vm k
section
variable {T0:Tr} {w:World} {G:Nat->Prop} {p mn:Nat} {vm vs:Value} {items:List It} {met:List Nat} {M:Mt}
theorem PgR.vn(h:PgR T0 w G p mn vm vs items met M):vm.ownBlock≠some mn:=by
 obtain⟨es,c,hm⟩:=h.num.isMap;exact q2H h.row hm fun cs e=>by cases e
theorem PgR.lt(h:PgR T0 w G p mn vm vs items met M):∀k,FQ G mn vm k->k<w.heap.size:=fun k hk=>by
 rcases hk with hk|rfl|hk
 ·exact h.po.lt k hk
 ·exact h.num.lt
 ·exact qS h.row k hk
theorem PgR.far{w':World}(h:PgR T0 w G p mn vm vs items met M)(hb:∀k,FQ G mn vm k->w'.heap[k]? =w.heap[k]?):PgR T0 w' G p mn vm vs items met M :=
 ⟨h.po.far fun k hk=>hb k (Or.inl hk),qs h.row fun k hk=>hb k (Or.inr (Or.inr hk)),h.num.far (hb mn (Or.inr (Or.inl rfl))),h.met,h.ng,h.nv⟩
theorem PgR.c4(h:PgR T0 w G p mn vm vs items met M):w.cell? ⟨p,4,none⟩=some (.map (some mn)):=by
 obtain⟨vi,mp,vt,hb,_⟩:=h.po.blk;exact qb hb 4
theorem PgR.c3(h:PgR T0 w G p mn vm vs items met M):w.cell? ⟨p,3,none⟩=some (.pointer (some ⟨p,0,none⟩)):=by
 obtain⟨vi,mp,vt,hb,_⟩:=h.po.blk;exact qb hb 3
theorem PgR.c5(h:PgR T0 w G p mn vm vs items met M):w.cell? ⟨p,5,none⟩=some vm:=by
 obtain⟨vi,mp,vt,hb,_⟩:=h.po.blk;exact qb hb 5
theorem PgR.c6(h:PgR T0 w G p mn vm vs items met M):w.cell? ⟨p,6,none⟩=some vs:=by
 obtain⟨vi,mp,vt,hb,_⟩:=h.po.blk;exact qb hb 6
theorem PgR.gp(h:PgR T0 w G p mn vm vs items met M):G p:=by
 obtain⟨vi,mp,vt,hb,hg⟩:=h.po.blk;exact hg
theorem PgR.fz(h:PgR T0 w G p mn vm vs items met M)(j:Nat):w.frozen? ⟨p,j,none⟩=false:=by
 obtain⟨vi,mp,vt,hb,_⟩:=h.po.blk;exact frozen_of_row w p j _ _ hb
theorem PgR.part{w':World}{G':Nat->Prop}{items':List It}(h:PgR T0 w G p mn vm vs items met M)(hp:PtO T0 w' G' p 128 (pgRest p mn vm vs) items')(hi:items <+: items')(fr:Fr w w' G G'):PgR T0 w' G' p mn vm vs items' met M/\Fr w w' (FQ G mn vm) (FQ G' mn vm):=by
 refine⟨⟨hp,qs h.row fun k hk=>fr.keep k (qS h.row k hk) (h.nv k hk),h.num.far (fr.keep mn h.num.lt h.ng),h.met.pre hi,fr.out h.ng h.num.lt,fun k hk=>fr.out (h.nv k hk) (qS h.row k hk)⟩,fr.os,fr.tape,fr.output,fr.size,fun k hk hF=>fr.keep k hk fun e=>hF (Or.inl e),fun k hk=>?_⟩
 rcases hk with hk|hk|hk
 ·exact(fr.foot k hk).imp Or.inl id
 ·exact Or.inl (Or.inr (Or.inl hk))
 ·exact Or.inl (Or.inr (Or.inr hk))
theorem PgR.put{w':World}(h:PgR T0 w G p mn vm vs items met M)(hg:w.grownBy w' (some mn)):PtO T0 w' G p 128 (pgRest p mn vm vs) items/\w'.ownsRow 0 3 1 vm met.length (encM met)/\Fr w w' (FQ G mn vm) (FQ G mn vm):=by
 have st:∀k,k<w.heap.size->k≠mn->w'.heap[k]? =w.heap[k]? := fun k hk hne=>hg.block k hk (fun e=>hne (by injection e))
 exact⟨h.po.far fun k hk=>st k (h.po.lt k hk) (fun e=>h.ng (e ▸ hk)),qs h.row fun k hk=>st k (qS h.row k hk) (fun e=>h.vn (e ▸ hk)),hg.os,hg.tape,hg.output,hg.size,fun k hk hF=>st k hk fun e=>hF (Or.inr (Or.inl e)),fun _ hk=>Or.inl hk⟩
end
section
variable {T0:Tr} {w:World} {F:Nat->Prop} {p:Nat} {vs:Value} {items:List It} {M:Mt}
theorem PgO.lt(h:PgO T0 w F p vs items M):∀k,F k->k<w.heap.size:=fun k hk=>by
 obtain⟨G,mn,vm,met,hr,hF⟩:=h.ex;exact hr.lt k ((hF k).1 hk)
theorem PgO.far{w':World}(h:PgO T0 w F p vs items M)(hb:∀k,F k->w'.heap[k]? =w.heap[k]?):PgO T0 w' F p vs items M:=by
 obtain⟨G,mn,vm,met,hr,hF⟩:=h.ex;exact⟨h.few,h.nd,h.of,G,mn,vm,met,hr.far fun k hk=>hb k ((hF k).2 hk),hF⟩
theorem PgO.up{w':World}(h:PgO T0 w F p vs items M)(hb:Below w.heap.size w w'):PgO T0 w' F p vs items M:=h.far fun k hk=>hb.block k (h.lt k hk)
theorem PgO.small(h:PgO T0 w F p vs items M)(t0:KT T0):∀f∈M,SmT f:=fun f hf=>by
 obtain⟨S,_,h2,rfl⟩:=h.of f hf;exact qcC t0 h2
theorem PgO.t0(h:PgO T0 w F p vs items M):T0k T0:=by
 obtain⟨G,mn,vm,met,hr,hF⟩:=h.ex;exact hr.po.t0
theorem PgO.good(h:PgO T0 w F p vs items M):GoodM M:=⟨fun f hf=>by
 obtain⟨S,h1,_,rfl⟩:=h.of f hf;exact⟨S,h1,rfl⟩,h.few⟩
end
def MetR (T0:Tr) (w:World) (F:Nat->Prop) (p:Nat) (vs:Value) (items:List It) (M:Mt) (S:Tr) (e:Ending) (w':World):Prop :=
 ∃F',Fr w w' F F'/\((∃(n:Nat) (M':Mt),meetM S.flat M=some ([2 ^ n],M')/\n<64/\e=.returned (.int .i64 (n:Int))/\PgO T0 w' F' p vs items M')\/(meetM S.flat M=none/\e=.panicked thrownP/\PgO T0 w' F' p vs items M))
theorem qiV{items:List It}{M:Mt}{met:List Nat}(h:MetOk items met M){n:Nat}{g:List Tk}(hn:M.findIdx? (· == g)=some n):n<met.length:=by
 have:=(List.findIdx?_eq_some_iff_getElem.1 hn).1
 rw[h.1];exact this
theorem PgR.met1{T0:Tr}{w w5:World}{G:Nat->Prop}{p mn:Nat}{vm vs v5:Value}{items:List It}{met:List Nat}{M:Mt}{S:Tr}{i:Nat}(t0:KT T0)(hM:∀f∈M,SmT f)(hS:InC T0 S)(hi:Rep items i S)(hno:M.findIdx? (· == S.flat)=none)
  (hpo:PtO T0 w G p 128 (pgRest p mn vm vs) items) (hrow:w.ownsRow 0 3 1 vm met.length (encM met)) (hnum:NumS w mn (met.length+1) (fun y=>if y=txB S then some met.length else nmF M y)) (hmet:MetOk items met M) (hng:¬G mn) (hnv:∀k,vm.ownBlock=some k->¬G k)
  (hg:(w.alloc (.cells #[.int .i64 (i:Int)] 3)).grownBy w5 vm.ownBlock) (ho:w5.ownsRow 0 3 1 v5 (met.length+1) (encM met++[.int .i64 (i:Int)])) (hl:v5.ownBlock=vm.ownBlock\/v5.ownBlock=some (w.heap.size+1)):
  w5.cell? ⟨p,5,none⟩=some vm/\w5.frozen? ⟨p,5,none⟩=false/\PgR T0 (w5.setCell ⟨p,5,none⟩ v5) G p mn v5 vs items (met++[i]) (M++[S.flat])/\Fr w (w5.setCell ⟨p,5,none⟩ v5) (FQ G mn vm) (FQ G mn v5):=by
 have hb1:=qc w (.cells #[.int .i64 (i:Int)] 3);have hz:(w.alloc (.cells #[.int .i64 (i:Int)] 3)).heap.size=w.heap.size+1:=by simp
 have hs:=hg.size;have st:∀k,k<w.heap.size->vm.ownBlock≠some k->w5.heap[k]? =w.heap[k]? := fun k hk hne=>(hg.block k (by omega) (fun e=>hne e.symm)).trans (hb1.block k hk)
 have hGv:∀k,G k->vm.ownBlock≠some k:=fun k hk e=>hnv k e hk
 have hpo5:=hpo.far (w':=w5) fun k hk=>st k (hpo.lt k hk) (hGv k hk)
 obtain⟨es,cl,hmap⟩:=hnum.isMap;have hvn:vm.ownBlock≠some mn:=q2H hrow hmap fun cs e=>by cases e
 obtain⟨vi,mp,vt,hb5,hgp⟩:=hpo5.blk
 have hv5:∀k,v5.ownBlock=some k->¬G k:=fun k hk hG=>by
  rcases hl with e|e
  ·rw[e]at hk;exact hnv k hk hG
  ·rw[e]at hk;injection hk with hk;have:=hpo.lt k hG;omega
 have s6:∀k,k≠p->(w5.setCell ⟨p,5,none⟩ v5).heap[k]? =w5.heap[k]? := fun k hk=>Below.heap_setCell _ _ _ _ hk
 refine⟨qb hb5 5,frozen_of_row w5 p 5 _ _ hb5,⟨hpo5.setRest (j:=2) v5,?_,?_,⟨by simp[hmet.1],fun n j hj=>?_⟩,hng,hv5⟩,hg.os,hg.tape,hg.output,by simp;omega,fun k hk hF=>?_,fun k hk=>?_⟩
 ·rw[List.length_append]
  have:encM (met++[i])=encM met++[.int .i64 (i:Int)]:=by simp[encM]
  rw[this];exact qs ho fun k hk=>s6 k (fun e=>hv5 k hk (e ▸ hgp))
 ·rw[List.length_append]
  refine ((hnum.far (w':=w5.setCell ⟨p,5,none⟩ v5) ((s6 mn (fun e=>hng (e ▸ hgp))).trans (st mn hnum.lt hvn))).alike fun y _=>?_)
  rw[hmet.1];exact qgO hM (qcC t0 hS) hno y
 ·by_cases hlt:n<met.length
  ·rw[List.getElem?_append_left hlt]at hj
   obtain⟨S',h1,h2⟩:=hmet.2 n j hj;exact⟨S',h1,by rw[List.getElem?_append_left (by rw[<-hmet.1];exact hlt)];exact h2⟩
  ·have hn:n=met.length:=by
    have:=(List.getElem?_eq_some_iff.1 hj).1
    simp at this
    omega
   subst hn;simp at hj
   subst hj;exact⟨S,hi,by rw[hmet.1];simp⟩
 ·exact(s6 k fun e=>hF (Or.inl (e ▸ hgp))).trans (st k hk fun e=>hF (Or.inr (Or.inr e)))
 ·rcases hk with hk|hk|hk
  ·exact Or.inl (Or.inl hk)
  ·exact Or.inl (Or.inr (Or.inl hk))
  ·rcases hl with e|e
   ·rw[e]at hk;exact Or.inl (Or.inr (Or.inr hk))
   ·rw[e]at hk;injection hk with hk;right;omega
theorem q9m{T0:Tr}{w:World}{F:Nat->Prop}{p:Nat}{vs:Value}{items:List It}{M:Mt}(h:PgO T0 w F p vs items M)(i:Nat)(S:Tr)(hi:Rep items i S)(hS:InC T0 S)(kS:KT S):
  Calls Tryz.prog 127 #[.pointer (some ⟨p,0,none⟩),.int .i64 (i:Int)] w (MetR T0 w F p vs items M S):=by
 obtain⟨G,mn,vm,met,hr,hF⟩:=h.ex;have t0:=h.t0;have hsm:=h.small t0.kt;have jt:=q4D hr.po i S hi hS;have HT:Hid (∀w1,TextP T0 w G p 128 (pgRest p mn vm vs) items w1->PgR T0 w1 G p mn vm vs items met M/\Fr w w1 (FQ G mn vm) (FQ G mn vm)):=fun w1 hq=>hr.part hq.1 (List.prefix_refl _) hq.2
 have hso:SOk (txB S):=by unfold SOk;rw[q7A];have:=(q55 t0.sz hS).1;omega
 have hlk:nmF M (txB S)=M.findIdx? (· == S.flat):=qcL hsm (qcC t0.kt hS);have hfr:∀{w':World} {G':Nat->Prop} {mn':Nat} {vm':Value},Fr w w' (FQ G mn vm) (FQ G' mn' vm')->Fr w w' F (FQ G' mn' vm'):=fun fr=>fr.alike (fun k hk=>(hF k).2 hk) (fun k hk=>hk)
 have hml:=hr.met.1;have hfew:=h.few
 cases hf:M.findIdx? (· == S.flat) with
 |some n=>
  have hn:=qiV hr.met hf;have hm:meetM S.flat M=some ([2 ^ n],M):=by unfold meetM;rw[hf]
  have HFIN:Hid (∀w1,TextP T0 w G p 128 (pgRest p mn vm vs) items w1->MetR T0 w F p vs items M S (.returned (.int .i64 (n:Int))) w1):=fun w1 hq=>by
   obtain⟨h1,h2⟩:=HT.out w1 hq;exact⟨_,hfr h2,Or.inl ⟨n,M,hm,by omega,rfl,h.few,h.nd,h.of,G,mn,vm,met,h1,fun k=>Iff.rfl⟩⟩
  have HLK:Hid (∀w1,PgR T0 w1 G p mn vm vs items met M->(Instr.lookup 76 (.map (some mn)) (.string (txB S)) true).run Tryz.prog w1=.ok (.tuple #[.int .i64 (n:Int),.bool true]) w1):=fun w1 h1=>by
   have:=h1.num.look hso
   rw[hlk,hf]at this;exact this
  clear h hr hF t0 hsm hi hS kS hso hlk hfr hml hfew hf hn hm;generalize txB S=s at *;go_enter Tryz.func127,Tryz.ntmps127
  go_wp2_with fail
  refine jt.mono ?_
  rintro e w1 ⟨rfl,hq⟩
  have hR:=(HT.out w1 hq).1;have c4:=hR.c4;have hlook:=HLK.out w1 hR;have HQ:Hid _:=HFIN.out w1 hq;clear jt hq hR HT HFIN HLK;go_wp2;go_ret
  exact HQ.out
 |none=>
  by_cases hl:M.length<64
  ·have hm:meetM S.flat M=some ([2 ^ met.length],M++[S.flat]):=by unfold meetM;rw[hf,hml];dsimp only;rw[if_pos hl]
   have HLK:Hid (∀w1,PgR T0 w1 G p mn vm vs items met M->(Instr.lookup 76 (.map (some mn)) (.string (txB S)) true).run Tryz.prog w1=.ok (.tuple #[.int .i64 0,.bool false]) w1/\∃w',(Instr.mapUpdate 76 (.map (some mn)) (.string (txB S)) (.int .i64 (met.length:Int))).run Tryz.prog w1=.ok () w'/\NumS w' mn (met.length+1) (fun y=>if y=txB S then some met.length else nmF M y)/\w1.grownBy w' (some mn)):=fun w1 h1=>by
    have:=h1.num.look hso
    rw[hlk,hf]at this;exact⟨this,h1.num.put (by omega) hso (hlk.trans hf) met.length (by omega)⟩
   have HM1:Hid _:=fun (w:World) (w5:World) (v5:Value) a b c d e f=>PgR.met1 (w:=w) (w5:=w5) (v5:=v5) (p:=p) (mn:=mn) (vm:=vm) (vs:=vs) (G:=G) (met:=met) t0.kt hsm hS hi hf a b c hr.met hr.ng hr.nv d e f
   have HFIN:Hid (∀w6 v5,PgR T0 w6 G p mn v5 vs items (met++[i]) (M++[S.flat])->Fr w w6 (FQ G mn vm) (FQ G mn v5)->MetR T0 w F p vs items M S (.returned (.int .i64 (met.length:Int))) w6):=fun w6 v5 h1 h2=>by
    refine⟨_,hfr h2,Or.inl ⟨met.length,_,hm,by omega,rfl,by simp;omega,List.nodup_append.2 ⟨h.nd,by simp,fun a ha b hb=>by simp at hb;subst hb;exact fun e=>(by have:=List.findIdx?_eq_none_iff.1 hf a ha;simp[e]at this)⟩,fun f hf2=>?_,G,mn,v5,_,h1,fun k=>Iff.rfl⟩⟩
    rcases List.mem_append.1 hf2 with h3|h3
    ·exact h.of f h3
    ·exact⟨S,kS,hS,by simpa using h3⟩
   obtain⟨av,cv,rfl⟩:=qM hr.row;have hl64:((met.length:Int)==64)=false:=by rw[bqn];omega
   have hl65:met.length<=64:=by omega
   clear h hr hF t0 hsm hi hS kS hso hlk hfr hml hfew hf hm hl;generalize hs:txB S=s at *;clear hs;generalize hML:met.length=L at *;go_enter Tryz.func127,Tryz.ntmps127
   go_wp2_with fail
   refine jt.mono ?_
   rintro e w1 ⟨rfl,hq⟩
   have hR:=HT.out w1 hq;have c4:=hR.1.c4;have c5:=hR.1.c5;obtain⟨hlook,w2,hrun,hn2,hg2⟩:=HLK.out w1 hR.1;obtain⟨hpo2,hrow2,fr2⟩:=hR.1.put hg2;obtain⟨vi,mp,vt,hb2,hgp⟩:=hpo2.blk;have d5:w2.cell? ⟨p,5,none⟩=some (.slice av L cv):=qb hb2 5;have hc3:(w2.alloc (.cells #[.int .i64 (i:Int)] 3)).cell? ⟨w2.heap.size,0,none⟩=some (.int .i64 (i:Int)):=qb (mha w2 _).1 0;rw[hML]at hrow2;have hO3:(w2.alloc (.cells #[.int .i64 (i:Int)] 3)).ownsRow 0 3 1 (.slice av L cv) L (encM met):=World.ownsRow.alloc hrow2 _;have HPO:Hid _:=hpo2;have HROW:Hid _:=hrow2;have HN2:Hid _:=hn2;have HFR2:Hid (Fr w w2 _ _):=hR.2.trans fr2;clear jt hq hR HT HLK hpo2 hrow2 fr2 hb2 hgp hn2 hg2
   go_wp2_with (at_builtin;refine q2z Tryz.underlying29 q5n rfl (by decide) rfl _ _ rfl 0 _ L (encM met) (.int .i64 (i:Int)) w2.heap.size rfl rfl hO3 hc3 rfl (by omega) (Nat.zero_le _) ?_)
   intro v5 w5 hown5 hgr5 hloc5;obtain⟨a5,k5,rfl⟩:=qM hown5;obtain⟨e5,z5,hR5,fr5⟩:=HM1.out w2 w5 _ HPO.out HROW.out HN2.out hgr5 hown5 hloc5;have HQ:Hid _:=HFIN.out _ _ hR5 (HFR2.out.trans fr5);clear hO3 hc3 hown5 hgr5 hloc5 hR5 fr5 d5 HPO HROW HN2 HFR2 HFIN HM1;go_wp2;go_ret
   exact HQ.out
  ·have hm:meetM S.flat M=none:=by unfold meetM;rw[hf];dsimp only;rw[if_neg hl]
   have HLK:Hid (∀w1,PgR T0 w1 G p mn vm vs items met M->(Instr.lookup 76 (.map (some mn)) (.string (txB S)) true).run Tryz.prog w1=.ok (.tuple #[.int .i64 0,.bool false]) w1):=fun w1 h1=>by
    have:=h1.num.look hso
    rw[hlk,hf]at this;exact this
   have HFIN:Hid (∀w1,TextP T0 w G p 128 (pgRest p mn vm vs) items w1->MetR T0 w F p vs items M S (.panicked thrownP) w1):=fun w1 hq=>by
    obtain⟨h1,h2⟩:=HT.out w1 hq;exact⟨_,hfr h2,Or.inr ⟨hm,rfl,h.few,h.nd,h.of,G,mn,vm,met,h1,fun k=>Iff.rfl⟩⟩
   obtain⟨av,cv,rfl⟩:=qM hr.row;have hl64:((met.length:Int)==64)=true:=by rw[beq_iff_eq];omega
   clear h hr hF t0 hsm hi hS kS hso hlk hfr hml hfew hf hm hl;generalize txB S=s at *;go_enter Tryz.func127,Tryz.ntmps127
   go_wp2_with fail
   refine jt.mono ?_
   rintro e w1 ⟨rfl,hq⟩
   have hR:=(HT.out w1 hq).1;have c4:=hR.c4;have c5:=hR.c5;have hlook:=HLK.out w1 hR;have HQ:Hid _:=HFIN.out w1 hq;clear jt hq hR HT HFIN HLK;go_wp2;obtain⟨F',fr,⟨_,_,_,_,h,_⟩|⟨h1,_,h3⟩⟩:=HQ.out
   ·cases h
   ·exact⟨rfl,F',fr,Or.inr ⟨h1,rfl,h3⟩⟩
theorem qeC(a b:Nat)(ha:a<4611686018427387904)(hb:b<4611686018427387904):bits .or .i64 (a:Int) (b:Int)=((a ||| b:Nat):Int):=by
 have hx:a ||| b<2 ^ 62:=Nat.or_lt_two_pow (by omega) (by omega)
 show IntKind.i64.wrap ((BitVec.ofInt 64 (a:Int) ||| BitVec.ofInt 64 (b:Int)).toNat:Int)=_
 rw[BitVec.toNat_or,ofInt_u64 a (by omega),ofInt_u64 b (by omega),IntKind.wrap_i64]
 omega
theorem qdE(a b:Nat)(ha:a<4611686018427387904)(hb:b<4611686018427387904):bits .and .i64 (a:Int) (b:Int)=((a &&& b:Nat):Int):=by
 have hx:a &&& b<2 ^ 62:=Nat.and_lt_two_pow _ (by omega)
 show IntKind.i64.wrap ((BitVec.ofInt 64 (a:Int) &&& BitVec.ofInt 64 (b:Int)).toNat:Int)=_
 rw[BitVec.toNat_and,ofInt_u64 a (by omega),ofInt_u64 b (by omega),IntKind.wrap_i64]
 omega
theorem qew{ts:List Tk}{k:Nat}(h:k<ts.length):bitsL (ts.take (k+1))=if ts[k].1=2 then bitsL (ts.take k) ||| 2 ^ ts[k].2 else bitsL (ts.take k):=by
 rw[List.take_add_one,lge h];exact qfa _ _
theorem q6I{ts:List Tk}(h:∀t∈ts,t.2<=7)(k:Nat):bitsL (ts.take k)<256:=qhz (n:=8) fun p hp=>by
 have:=h _ (List.mem_of_mem_take hp)
 dsimp only at this
 omega
theorem pow7{p:Nat}(h:p<=7):(2:Nat) ^ p<=128:=Nat.pow_le_pow_right (n:=2) (by decide) h
theorem qap{T:Tr}(h:KT T):∀t∈T.flat,t.2<=7:=fun t ht=>(q1V T h.1 t ht).2
theorem q7x(x k:Nat):((x:Int) / 2 ^ k)=((x >>> k:Nat):Int):=by
 rw[Nat.shiftRight_eq_div_pow];simp
theorem q6J{ts:List Tk}(h:∀t∈ts,t.2<=7):bitsL ts<256:=by
 have:=q6I h ts.length
 rwa [List.take_length]at this
theorem q8T(a:Option Addr)(len cap:Nat)(ts:List Tk)(w:World)(hT:TkSl w a len cap ts)(h7:∀t∈ts,t.2<=7)(hsz:len<=1000000):
  Calls Tryz.prog 66 #[.slice a len cap] w fun e w'=>e=.returned (.int .i64 (bitsL ts:Int))/\Below w.heap.size w w':=by
 have hlen:=hT.hlen;have HT:Hid _:=hT;have H7:Hid _:=h7;clear hT h7;go_enter Tryz.func66,Tryz.ntmps66
 go_wp2
 go_loopw [3,8] (fun m j wr=>∃(k:Nat),k<=len/\j=.int .i64 k/\m=.int .i64 (bitsL (ts.take k):Int)/\Hid (Below w.heap.size w wr)) (fun _ j _=>len-(intOf j).toNat)
 case atStart=>exact⟨0,Nat.zero_le _,rfl,rfl,Below.refl _ _⟩
 case round=>
  obtain⟨k,hk,rfl,rfl,hbk⟩:=hrel;by_cases hlt:k<len
  ·have hkl:k<ts.length:=by omega
   obtain⟨g,o,s,hidx0,hc0,hc1,hgw,_⟩:=(HT.out.up hbk.out).at Tryz.underlying22 q1G k hlt;have hidx:=fun w'=>hidx0 len w' hlt
   have hp7:=H7.out ts[k] (List.getElem_mem hkl);have hsm:=q6I H7.out k;have HN:Hid _:=qew hkl;clear hidx0;generalize ts[k]=t at *;generalize bitsL (ts.take k)=x at *;obtain⟨op,pp⟩:=t;dsimp only at *
   by_cases h2:op=2
   ·subst h2
    have hmin:min pp 64=pp:=by omega
    have HP:=pow7 hp7
    have HSH:Hid (wrap64 ((2:Int) ^ pp)=(2:Int) ^ pp):=by
     show _=_
     rw[show ((2:Int) ^ pp)=((2 ^ pp:Nat):Int) by simp]
     generalize 2 ^ pp=y at HP ⊢
     unfold wrap64
     omega
    have HOR:Hid _:=qeC x (2 ^ pp) (by omega) (by omega)
    have HN2:Hid (bitsL (ts.take (k+1))=x ||| 2 ^ pp):=by show _=_;rw[HN.out];rfl
    go_wp2
    go_roundw
    case rel=>
     refine⟨k+1,by omega,by go_num,?_,hbk.out.alloc hbk.out.size _⟩
     rw[HN2.out,<-HOR.out];simp
     rw[HSH.out]
    case measure=>simp[intOf];omega
   ·have HN2:Hid (bitsL (ts.take (k+1))=x):=by
     show _=_
     rw[HN.out,if_neg h2]
    have h2':((op:Int)==2)=false:=by rw[bqn];omega
    go_wp2
    go_roundw
    case rel=>exact⟨k+1,by omega,by go_num,by rw[HN2.out],hbk.out.alloc hbk.out.size _⟩
    case measure=>simp[intOf];omega
  ·obtain rfl:k=len:=by omega
   have HF:Hid (bitsL (ts.take k)=bitsL ts):=by show _=_;rw[List.take_of_length_le (by omega)]
   go_wp2;go_ret
   exact⟨by rw[HF.out];rfl,hbk.out⟩
end Go.Proofs.YtailhklbmenaoaaGreatDoor
