/- Texts of the proof, put together: what it uses. -/
import Derived.Test.YtekeaodpdcnfjaaGreatDoorX04
set_option maxRecDepth 100000
set_option maxHeartbeats 16000000
namespace Go.Proofs.YtekeaodpdcnfjaaGreatDoor
open Go.RowKit Go.Maps
open Go.Sort (swp PermIn SortedIn)
structure PI (d0:Array Int) (a b i j:Nat) (d:Array Int) (p:Int):Prop where
 sz:d.size=d0.size
 perm:PermIn a b d0 d
 piv:d[a]! = p
 ia:a+1≤i
 ij:i≤j+1
 jb:j<b
 lo:∀ x,a<x→x<i→lt64 d[x]! p=true
 hi:∀ x,j<x→x<b→lt64 d[x]! p=false
theorem PI.up{d0:Array Int}{a b i j:Nat}{d:Array Int}{p:Int}(h:PI d0 a b i j d p)(hij:i≤j)(hl:lt64 d[i]! p=true):PI d0 a b (i+1) j d p :=
 ⟨h.sz,h.perm,h.piv,by have:=h.ia;omega,by omega,h.jb,fun x h1 h2=>by
  by_cases e:x=i
  ·subst e;exact hl
  ·exact h.lo x h1 (by omega),h.hi⟩
theorem PI.down{d0:Array Int}{a b i j:Nat}{d:Array Int}{p:Int}(h:PI d0 a b i (j+1) d p)(hij:i≤j+1)(hl:lt64 d[j+1]! p=false):PI d0 a b i j d p :=
 ⟨h.sz,h.perm,h.piv,h.ia,hij,by have:=h.jb;omega,h.lo,fun x h1 h2=>by
  by_cases e:x=j+1
  ·subst e;exact hl
  ·exact h.hi x (by omega) h2⟩
theorem PI.swap{d0:Array Int}{a b i j:Nat}{d:Array Int}{p:Int}(h:PI d0 a b i (j+1) d p)(hb:b≤d0.size)(hij:i≤j+1)(h1:lt64 d[i]! p=false)(h2:lt64 d[j+1]! p=true):PI d0 a b (i+1) j (swp d i (j+1)) p:=by
 have hne:i≠j+1:=fun e=>by subst e;rw[h1]at h2;cases h2
 have hia:=h.ia
 have hjb:=h.jb
 have hsz:=h.sz
 refine ⟨by rw[Go.Sort.size_swp,hsz],Go.Sort.permIn_trans _ _ _ _ _ h.perm (Go.Sort.swp_permIn d a b i (j+1) (by omega) (by omega) (by omega) hjb (by omega)),?_,by omega,by omega,by omega,fun x k1 k2=>?_,fun x k1 k2=>?_⟩
 ·rw[Go.Sort.swp_other _ _ _ _ (by omega) (by omega)];exact h.piv
 ·by_cases e:x=i
  ·subst e
   rw[Go.Sort.swp_left _ _ _ (by omega) hne];exact h2
  ·rw[Go.Sort.swp_other _ _ _ _ e (by omega)];exact h.lo x k1 (by omega)
 ·by_cases e:x=j+1
  ·subst e
   rw[Go.Sort.swp_right _ _ _ (by omega)];exact h1
  ·rw[Go.Sort.swp_other _ _ _ _ (by omega) e];exact h.hi x (by omega) k2
structure Parted (d0:Array Int) (a b m:Nat) (d:Array Int):Prop where
 sz:d.size=d0.size
 ma:a≤m
 mb:m<b
 perm:PermIn a b d0 d
 lo:∀ x,a≤x→x<m→lt64 d[x]! d[m]! = true
 hi:∀ x,m<x→x<b→lt64 d[x]! d[m]! = false
theorem PI.fin{d0:Array Int}{a b i j:Nat}{d:Array Int}{p:Int}(h:PI d0 a b i j d p)(hb:b≤d0.size)(hij:¬ i≤j):Parted d0 a b j (swp d j a):=by
 have hia:=h.ia
 have h0:=h.ij
 have hjb:=h.jb
 have hsz:=h.sz
 have e0:i=j+1:=by omega
 subst e0
 have hj:(swp d j a)[j]! = p:=by
  by_cases e:j=a
  ·subst e;rw[Go.Sort.swp_right _ _ _ (by omega)];exact h.piv
  ·rw[Go.Sort.swp_left _ _ _ (by omega) e];exact h.piv
 refine ⟨by rw[Go.Sort.size_swp,hsz],by omega,hjb,Go.Sort.permIn_trans _ _ _ _ _ h.perm (Go.Sort.swp_permIn d a b j a (by omega) hjb (Nat.le_refl _) (by omega) (by omega)),fun x k1 k2=>?_,fun x k1 k2=>?_⟩
 ·rw[hj]
  by_cases e:x=a
  ·subst e
   rw[Go.Sort.swp_right _ _ _ (by omega)]
   exact h.lo j (by omega) (by omega)
  ·rw[Go.Sort.swp_other _ _ _ _ (by omega) e]
   exact h.lo x (by omega) (by omega)
 ·rw[hj,Go.Sort.swp_other _ _ _ _ (by omega) (by omega)]
  exact h.hi x k1 k2
theorem qcr{d0:Array Int}{a b q:Nat}(hab:a<b)(hb:b≤d0.size)(hq1:a≤q)(hq2:q<b):PI d0 a b (a+1) (b - 1) (swp d0 a q) (swp d0 a q)[a]! :=
 ⟨Go.Sort.size_swp _ _ _,Go.Sort.swp_permIn d0 a b a q (Nat.le_refl _) hab hq1 hq2 hb,rfl,Nat.le_refl _,by omega,by omega,fun x h1 h2=>by omega,fun x h1 h2=>by omega⟩
theorem q8o(g c a b q0:Nat)(d0:Array Int)(t:List Int)(w:World)(h:SoAt w g d0 t)(hab:a<b)(hb:b≤d0.size)(hq1:a≤q0)(hq2:q0<b)(hn:d0.size≤1000000) :
  Calls Tryz.prog 164 #[.slice (some ⟨g,0,none⟩) d0.size c,.int .i64 (a:Int),.int .i64 (b:Int),.int .i64 (q0:Int)] w fun e w'=>∃ (m:Nat) (f:Bool) (d1:Array Int),e=.returned (.tuple #[.int .i64 (m:Int),.bool f])∧Parted d0 a b m d1∧SoAt w' g d1 t∧w.grownBy w' (some g):=by
 obtain ⟨N,hN⟩:∃ N,d0.size=N:=⟨_,rfl⟩
 have HS0:Hid (SoAt w g d0 t):=h
 have HD0:Hid (d0.size=N):=hN
 have HG0:Hid (w.grownBy w (some g)):=World.grownBy.refl _ _
 have HP0:Hid _:=qcr hab hb hq1 hq2
 obtain ⟨J,hJ⟩:∃ J,b - 1=J:=⟨_,rfl⟩
 rw[hJ]at HP0
 have HB:Hid (b≤d0.size):=hb
 rw[hN]at hb hn ⊢
 clear h hN
 go_enter Tryz.func164,Tryz.ntmps164
 have wi:IntKind.i64.wrap ((a:Int)+1)=((a+1:Nat):Int):=by rw[IntKind.wrap_i64];omega
 have wj:IntKind.i64.wrap ((b:Int) - 1)=(J:Int):=by rw[IntKind.wrap_i64];omega
 have ej:(b:Int) - 1=(J:Int):=by omega
 clear hJ
 go_wp2
 obtain ⟨p,hp⟩:∃ p,(swp d0 a q0)[a]! = p:=⟨_,rfl⟩
 rw[hp]at HP0
 clear hp
 have hi1:=fun w'=>qf g N c a w' (by omega)
 have hi2:=fun w'=>qf g N c q0 w' (by omega)
 have hsw:SoAt w g d0 t:=HS0.out
 have c3:=hsw.cell (i:=a) (by rw[HD0.out];omega)
 have c4:=hsw.cell (i:=q0) (by rw[HD0.out];omega)
 have f3:=hsw.fz a
 have f4:=hsw.fz q0
 have hswb:SoAt (w.setCell ⟨g,a,none⟩ (.int .u64 d0[q0]!)) g (d0.setIfInBounds a d0[q0]!) t:=hsw.set (by rw[HD0.out];omega) _
 have f5:=hswb.fz q0
 have c5:=hswb.cell (i:=q0) (by rw[Array.size_setIfInBounds,HD0.out];omega)
 have HSa1:Hid (SoAt ((w.setCell ⟨g,a,none⟩ (.int .u64 d0[q0]!)).setCell ⟨g,q0,none⟩ (.int .u64 d0[a]!)) g (swp d0 a q0) t):=hsw.swap (by rw[HD0.out];omega) (by rw[HD0.out];omega)
 have HGa1:Hid (w.grownBy ((w.setCell ⟨g,a,none⟩ (.int .u64 d0[q0]!)).setCell ⟨g,q0,none⟩ (.int .u64 d0[a]!)) (some g)):=qk (qk HG0.out _) _
 have HD1:Hid ((swp d0 a q0).size=N):=by show _=_;rw[Go.Sort.size_swp];exact HD0.out
 clear hsw hswb
 generalize (d0.setIfInBounds a d0[q0]!)[q0]! = ysw at *
 generalize d0[a]! = xi at *
 generalize d0[q0]! = xj at *
 go_upto_region 15 with fail
 go_region
 all_goals
  have HS1:Hid (SoAt ((w.setCell ⟨g,a,none⟩ (.int .u64 xj)).setCell ⟨g,q0,none⟩ (.int .u64 xi)).drew g (swp d0 a q0) t):=SoAt.drew HSa1.out
  have HG1:Hid (w.grownBy ((w.setCell ⟨g,a,none⟩ (.int .u64 xj)).setCell ⟨g,q0,none⟩ (.int .u64 xi)).drew (some g)):=qr HGa1.out
  clear HSa1 HGa1 c3 c4 f3 f4 f5 c5 hi1 hi2
  generalize ((w.setCell ⟨g,a,none⟩ (.int .u64 xj)).setCell ⟨g,q0,none⟩ (.int .u64 xi)).drew=w1 at *
  generalize swp d0 a q0=d1 at *
  go_wp2
  clear wi wj ej
  go_loopw [10] (fun sv wr=>∃ i:Nat,sv=.int .i64 (i:Int)∧Hid (PI d0 a b i J d1 p)∧Hid (SoAt wr g d1 t)∧Hid (w.grownBy wr (some g))∧Hid (a+1≤i)) (fun sv _=>N+1 - (intOf sv).toNat)
  case atStart=>exact ⟨a+1,by first | rfl | go_num,HP0,HS1,HG1,Nat.le_refl _⟩
  case round =>
   obtain ⟨i,rfl,HP2,HSr2,HGr2,HL2⟩:=hrel
   have bL:=HL2.out
   clear HP0 HS1 HG1
   have b1:=HP2.out.ia
   have b2:=HP2.out.ij
   have b3:=HP2.out.jb
   obtain ⟨q,hq⟩:∃ q:Bool,q=(decide (i≤J)&&lt64 d1[i]! d1[a]!):=⟨_,rfl⟩
   have HQ:Hid (q=(decide (i≤J)&&lt64 d1[i]! d1[a]!)):=hq
   clear hq
   go_upto_region 15 with fail
   go_cut [43] (fun cv wx=>cv=.bool q∧Hid (SoAt wx g d1 t)∧Hid (w.grownBy wx (some g)))
   case first =>
    by_cases hij:i≤J
    ·have hd:decide ((i:Int)≤(J:Int))=true:=decide_eq_true (by omega)
     have hi1:=fun w'=>qf g N c i w' (by omega)
     have hi2:=fun w'=>qf g N c a w' (by omega)
     have hsw:SoAt wr g d1 t:=HSr2.out
     have c3:=hsw.cell (i:=i) (by rw[HD1.out];omega)
     have c4:=hsw.cell (i:=a) (by rw[HD1.out];omega)
     have hless:=fun w'=>qn d1[i]! d1[a]! w'
     have HQ2:Hid (q=(lt64 d1[i]! d1[a]!)):=by
      show _=_
      rw[HQ.out,decide_eq_true hij];rfl
     clear hsw HQ
     generalize lt64 d1[i]! d1[a]! = lv at *
     generalize d1[i]! = xv at *
     generalize d1[a]! = xa at *
     obtain rfl:=HQ2.out
     go_quiet ((go_at_call 162;exact Calls.quiet_of_same (hless _)))
     go_wp2
     go_meet
     case rel=>exact ⟨rfl,SoAt.drewN HSr2.out _,qi HGr2.out _⟩
    ·have hd:decide ((i:Int)≤(J:Int))=false:=decide_eq_false (by omega)
     have HQ2:Hid (q=false):=by
      show _=_
      rw[HQ.out,decide_eq_false hij];rfl
     clear HQ
     obtain rfl:=HQ2.out
     go_quiet (fail)
     go_wp2
     go_meet
     case rel=>exact ⟨rfl,SoAt.drewN HSr2.out _,qi HGr2.out _⟩
   case rest =>
    obtain ⟨rfl,HS2,HG2⟩:=hcut
    clear HSr2 HGr2
    cases q with
    | true =>
     have hq:=HQ.out.symm
     rw[Bool.and_eq_true,decide_eq_true_eq]at hq
     have HPX:Hid (PI d0 a b (i+1) J d1 p):=HP2.out.up hq.1 (by have h2:=hq.2;have h3:=HP2.out.piv;rw[← h3];simpa using h2)
     clear HQ HP2
     go_wp2
     go_roundw
     case rel=>exact ⟨i+1,by go_num,HPX,HS2,HG2,by show _≤_;omega⟩
     case measure=>simp[intOf];omega
    | false =>
     have HX2:Hid (i≤J→lt64 d1[i]! d1[a]! = false):=fun h=>by
      have:=HQ.out
      rw[decide_eq_true h]at this
      simpa using this.symm
     clear HQ
     generalize wc=w2 at *
     go_wp2
     go_loopw [11] (fun sv wr=>∃ j:Nat,sv=.int .i64 (j:Int)∧Hid (PI d0 a b i j d1 p)∧Hid (SoAt wr g d1 t)∧Hid (w.grownBy wr (some g))∧Hid (j≤J)) (fun sv _=>(intOf sv).toNat)
     case atStart=>exact ⟨J,by first | rfl | go_num,HP2,HS2,HG2,Nat.le_refl _⟩
     case round =>
      obtain ⟨j,rfl,HP3,HSr3,HGr3,HL3⟩:=hrel
      have bL:=HL3.out
      clear HP2 HS2 HG2
      have b1:=HP3.out.ia
      have b2:=HP3.out.ij
      have b3:=HP3.out.jb
      obtain ⟨q,hq⟩:∃ q:Bool,q=(decide (i≤j) && !lt64 d1[j]! d1[a]!):=⟨_,rfl⟩
      have HQ:Hid (q=(decide (i≤j) && !lt64 d1[j]! d1[a]!)):=hq
      clear hq
      go_upto_region 15 with fail
      go_cut [60] (fun cv wx=>cv=.bool q∧Hid (SoAt wx g d1 t)∧Hid (w.grownBy wx (some g)))
      case first =>
       by_cases hij:i≤j
       ·have hd:decide ((i:Int)≤(j:Int))=true:=decide_eq_true (by omega)
        have hi1:=fun w'=>qf g N c j w' (by omega)
        have hi2:=fun w'=>qf g N c a w' (by omega)
        have hsw:SoAt wr g d1 t:=HSr3.out
        have c3:=hsw.cell (i:=j) (by rw[HD1.out];omega)
        have c4:=hsw.cell (i:=a) (by rw[HD1.out];omega)
        have hless:=fun w'=>qn d1[j]! d1[a]! w'
        have HQ2:Hid (q=!(lt64 d1[j]! d1[a]!)):=by
         show _=_
         rw[HQ.out,decide_eq_true hij];rfl
        clear hsw HQ
        generalize lt64 d1[j]! d1[a]! = lv at *
        generalize d1[j]! = xv at *
        generalize d1[a]! = xa at *
        obtain rfl:=HQ2.out
        go_quiet ((go_at_call 162;exact Calls.quiet_of_same (hless _)))
        go_wp2
        go_meet
        case rel=>exact ⟨rfl,SoAt.drewN HSr3.out _,qi HGr3.out _⟩
       ·have hd:decide ((i:Int)≤(j:Int))=false:=decide_eq_false (by omega)
        have HQ2:Hid (q=false):=by
         show _=_
         rw[HQ.out,decide_eq_false hij];rfl
        clear HQ
        obtain rfl:=HQ2.out
        go_quiet (fail)
        go_wp2
        go_meet
        case rel=>exact ⟨rfl,SoAt.drewN HSr3.out _,qi HGr3.out _⟩
      case rest =>
       obtain ⟨rfl,HS3,HG3⟩:=hcut
       clear HSr3 HGr3
       cases q with
       | true =>
        have hq:=HQ.out.symm
        rw[Bool.and_eq_true,decide_eq_true_eq]at hq
        obtain ⟨jm,hjm⟩:∃ jm,j=jm+1:=⟨j - 1,by omega⟩
        have hdec:IntKind.i64.wrap ((j:Int) - 1)=(jm:Int):=by rw[IntKind.wrap_i64];omega
        have HPX:Hid (PI d0 a b i jm d1 p):=by
         subst hjm
         exact HP3.out.down hq.1 (by have h2:=hq.2;have h3:=HP3.out.piv;rw[← h3];simpa using h2)
        have hlt:jm<j:=by omega
        clear HQ HP3 hjm hq
        go_wp2
        go_roundw
        case rel=>exact ⟨jm,rfl,HPX,HS3,HG3,by show _≤_;omega⟩
        case measure=>simp[intOf];omega
       | false =>
        have HX3:Hid (i≤j→lt64 d1[j]! d1[a]! = true):=fun h=>by
         have:=HQ.out
         rw[decide_eq_true h]at this
         simpa using this.symm
        clear HQ
        generalize wc=w3 at *
        by_cases hij:i≤j
        ·have hij2:¬ (j:Int)<(i:Int):=by omega
         obtain ⟨jm,hjm⟩:∃ jm,j=jm+1:=⟨j - 1,by omega⟩
         have hdec:IntKind.i64.wrap ((j:Int) - 1)=(jm:Int):=by rw[IntKind.wrap_i64];omega
         have ejm:(j:Int) - 1=(jm:Int):=by omega
         have HPS:Hid (PI d0 a b (i+1) jm (swp d1 i j) p):=by
          have h1:=HX2.out (by omega)
          have h2:=HX3.out hij
          rw[HP3.out.piv]at h1 h2
          subst hjm
          exact HP3.out.swap HB.out hij h1 h2
         clear HX2 HX3 HP3 hjm
         go_wp2
         have hi1:=fun w'=>qf g N c i w' (by omega)
         have hi2:=fun w'=>qf g N c j w' (by omega)
         have hsw:SoAt w3 g d1 t:=HS3.out
         have c3:=hsw.cell (i:=i) (by rw[HD1.out];omega)
         have c4:=hsw.cell (i:=j) (by rw[HD1.out];omega)
         have f3:=hsw.fz i
         have f4:=hsw.fz j
         have hswb:SoAt (w3.setCell ⟨g,i,none⟩ (.int .u64 d1[j]!)) g (d1.setIfInBounds i d1[j]!) t:=hsw.set (by rw[HD1.out];omega) _
         have f5:=hswb.fz j
         have c5:=hswb.cell (i:=j) (by rw[Array.size_setIfInBounds,HD1.out];omega)
         have HSa4:Hid (SoAt ((w3.setCell ⟨g,i,none⟩ (.int .u64 d1[j]!)).setCell ⟨g,j,none⟩ (.int .u64 d1[i]!)) g (swp d1 i j) t):=hsw.swap (by rw[HD1.out];omega) (by rw[HD1.out];omega)
         have HGa4:Hid (w.grownBy ((w3.setCell ⟨g,i,none⟩ (.int .u64 d1[j]!)).setCell ⟨g,j,none⟩ (.int .u64 d1[i]!)) (some g)):=qk (qk HG3.out _) _
         have HD4:Hid ((swp d1 i j).size=N):=by show _=_;rw[Go.Sort.size_swp];exact HD1.out
         clear hsw hswb
         generalize (d1.setIfInBounds i d1[j]!)[j]! = ysw at *
         generalize d1[i]! = xi at *
         generalize d1[j]! = xj at *
         go_upto_region 15 with fail
         go_region
         all_goals
          have HS4:Hid (SoAt ((w3.setCell ⟨g,i,none⟩ (.int .u64 xj)).setCell ⟨g,j,none⟩ (.int .u64 xi)).drew g (swp d1 i j) t):=SoAt.drew HSa4.out
          have HG4:Hid (w.grownBy ((w3.setCell ⟨g,i,none⟩ (.int .u64 xj)).setCell ⟨g,j,none⟩ (.int .u64 xi)).drew (some g)):=qr HGa4.out
          clear HSa4 HGa4 c3 c4 f3 f4 f5 c5 hi1 hi2
          generalize ((w3.setCell ⟨g,i,none⟩ (.int .u64 xj)).setCell ⟨g,j,none⟩ (.int .u64 xi)).drew=w4 at *
          generalize swp d1 i j=d4 at *
          go_wp2
          clear hdec ejm
          go_loopw [10,11] (fun iv jv wr=>∃ i j:Nat,iv=.int .i64 (i:Int)∧jv=.int .i64 (j:Int)∧∃ dm:Array Int,Hid (dm.size=N)∧Hid (PI d0 a b i j dm p)∧Hid (SoAt wr g dm t)∧Hid (w.grownBy wr (some g))) (fun iv jv _=>(intOf jv+1 - intOf iv).toNat)
          case atStart=>exact ⟨i+1,jm,by go_num,rfl,d4,HD4,HPS,HS4,HG4⟩
          case round =>
           obtain ⟨i0,j0,rfl,rfl,dm,HDm,HPm,HSm,HGm⟩:=hrel
           clear HD4 HPS HS4 HG4 hij hij2 b1 b2 b3 bL
           have a1:=HPm.out.ia
           have a2:=HPm.out.ij
           have a3:=HPm.out.jb
           go_wp2
           go_loopw [10] (fun sv wr=>∃ i:Nat,sv=.int .i64 (i:Int)∧Hid (PI d0 a b i j0 dm p)∧Hid (SoAt wr g dm t)∧Hid (w.grownBy wr (some g))∧Hid (i0≤i)) (fun sv _=>N+1 - (intOf sv).toNat)
           case atStart=>exact ⟨i0,by first | rfl | go_num,HPm,HSm,HGm,Nat.le_refl _⟩
           case round =>
            obtain ⟨i,rfl,HP5,HSr5,HGr5,HL5⟩:=hrel
            have bL:=HL5.out
            clear HPm HSm HGm
            have b1:=HP5.out.ia
            have b2:=HP5.out.ij
            have b3:=HP5.out.jb
            obtain ⟨q,hq⟩:∃ q:Bool,q=(decide (i≤j0)&&lt64 dm[i]! dm[a]!):=⟨_,rfl⟩
            have HQ:Hid (q=(decide (i≤j0)&&lt64 dm[i]! dm[a]!)):=hq
            clear hq
            go_upto_region 15 with fail
            go_cut [112] (fun cv wx=>cv=.bool q∧Hid (SoAt wx g dm t)∧Hid (w.grownBy wx (some g)))
            case first =>
             by_cases hij:i≤j0
             ·have hd:decide ((i:Int)≤(j0:Int))=true:=decide_eq_true (by omega)
              have hi1:=fun w'=>qf g N c i w' (by omega)
              have hi2:=fun w'=>qf g N c a w' (by omega)
              have hsw:SoAt wr g dm t:=HSr5.out
              have c3:=hsw.cell (i:=i) (by rw[HDm.out];omega)
              have c4:=hsw.cell (i:=a) (by rw[HDm.out];omega)
              have hless:=fun w'=>qn dm[i]! dm[a]! w'
              have HQ2:Hid (q=(lt64 dm[i]! dm[a]!)):=by
               show _=_
               rw[HQ.out,decide_eq_true hij];rfl
              clear hsw HQ
              generalize lt64 dm[i]! dm[a]! = lv at *
              generalize dm[i]! = xv at *
              generalize dm[a]! = xa at *
              obtain rfl:=HQ2.out
              go_quiet ((go_at_call 162;exact Calls.quiet_of_same (hless _)))
              go_wp2
              go_meet
              case rel=>exact ⟨rfl,SoAt.drewN HSr5.out _,qi HGr5.out _⟩
             ·have hd:decide ((i:Int)≤(j0:Int))=false:=decide_eq_false (by omega)
              have HQ2:Hid (q=false):=by
               show _=_
               rw[HQ.out,decide_eq_false hij];rfl
              clear HQ
              obtain rfl:=HQ2.out
              go_quiet (fail)
              go_wp2
              go_meet
              case rel=>exact ⟨rfl,SoAt.drewN HSr5.out _,qi HGr5.out _⟩
            case rest =>
             obtain ⟨rfl,HS5,HG5⟩:=hcut
             clear HSr5 HGr5
             cases q with
             | true =>
              have hq:=HQ.out.symm
              rw[Bool.and_eq_true,decide_eq_true_eq]at hq
              have HPX:Hid (PI d0 a b (i+1) j0 dm p):=HP5.out.up hq.1 (by have h2:=hq.2;have h3:=HP5.out.piv;rw[← h3];simpa using h2)
              clear HQ HP5
              go_wp2
              go_roundw
              case rel=>exact ⟨i+1,by go_num,HPX,HS5,HG5,by show _≤_;omega⟩
              case measure=>simp[intOf];omega
             | false =>
              have HX5:Hid (i≤j0→lt64 dm[i]! dm[a]! = false):=fun h=>by
               have:=HQ.out
               rw[decide_eq_true h]at this
               simpa using this.symm
              clear HQ
              generalize wc=w5 at *
              go_wp2
              go_loopw [11] (fun sv wr=>∃ j:Nat,sv=.int .i64 (j:Int)∧Hid (PI d0 a b i j dm p)∧Hid (SoAt wr g dm t)∧Hid (w.grownBy wr (some g))∧Hid (j≤j0)) (fun sv _=>(intOf sv).toNat)
              case atStart=>exact ⟨j0,by first | rfl | go_num,HP5,HS5,HG5,Nat.le_refl _⟩
              case round =>
               obtain ⟨j,rfl,HP6,HSr6,HGr6,HL6⟩:=hrel
               have bL:=HL6.out
               clear HP5 HS5 HG5
               have b1:=HP6.out.ia
               have b2:=HP6.out.ij
               have b3:=HP6.out.jb
               obtain ⟨q,hq⟩:∃ q:Bool,q=(decide (i≤j) && !lt64 dm[j]! dm[a]!):=⟨_,rfl⟩
               have HQ:Hid (q=(decide (i≤j) && !lt64 dm[j]! dm[a]!)):=hq
               clear hq
               go_upto_region 15 with fail
               go_cut [129] (fun cv wx=>cv=.bool q∧Hid (SoAt wx g dm t)∧Hid (w.grownBy wx (some g)))
               case first =>
                by_cases hij:i≤j
                ·have hd:decide ((i:Int)≤(j:Int))=true:=decide_eq_true (by omega)
                 have hi1:=fun w'=>qf g N c j w' (by omega)
                 have hi2:=fun w'=>qf g N c a w' (by omega)
                 have hsw:SoAt wr g dm t:=HSr6.out
                 have c3:=hsw.cell (i:=j) (by rw[HDm.out];omega)
                 have c4:=hsw.cell (i:=a) (by rw[HDm.out];omega)
                 have hless:=fun w'=>qn dm[j]! dm[a]! w'
                 have HQ2:Hid (q=!(lt64 dm[j]! dm[a]!)):=by
                  show _=_
                  rw[HQ.out,decide_eq_true hij];rfl
                 clear hsw HQ
                 generalize lt64 dm[j]! dm[a]! = lv at *
                 generalize dm[j]! = xv at *
                 generalize dm[a]! = xa at *
                 obtain rfl:=HQ2.out
                 go_quiet ((go_at_call 162;exact Calls.quiet_of_same (hless _)))
                 go_wp2
                 go_meet
                 case rel=>exact ⟨rfl,SoAt.drewN HSr6.out _,qi HGr6.out _⟩
                ·have hd:decide ((i:Int)≤(j:Int))=false:=decide_eq_false (by omega)
                 have HQ2:Hid (q=false):=by
                  show _=_
                  rw[HQ.out,decide_eq_false hij];rfl
                 clear HQ
                 obtain rfl:=HQ2.out
                 go_quiet (fail)
                 go_wp2
                 go_meet
                 case rel=>exact ⟨rfl,SoAt.drewN HSr6.out _,qi HGr6.out _⟩
               case rest =>
                obtain ⟨rfl,HS6,HG6⟩:=hcut
                clear HSr6 HGr6
                cases q with
                | true =>
                 have hq:=HQ.out.symm
                 rw[Bool.and_eq_true,decide_eq_true_eq]at hq
                 obtain ⟨jm,hjm⟩:∃ jm,j=jm+1:=⟨j - 1,by omega⟩
                 have hdec:IntKind.i64.wrap ((j:Int) - 1)=(jm:Int):=by rw[IntKind.wrap_i64];omega
                 have HPX:Hid (PI d0 a b i jm dm p):=by
                  subst hjm
                  exact HP6.out.down hq.1 (by have h2:=hq.2;have h3:=HP6.out.piv;rw[← h3];simpa using h2)
                 have hlt:jm<j:=by omega
                 clear HQ HP6 hjm hq
                 go_wp2
                 go_roundw
                 case rel=>exact ⟨jm,rfl,HPX,HS6,HG6,by show _≤_;omega⟩
                 case measure=>simp[intOf];omega
                | false =>
                 have HX6:Hid (i≤j→lt64 dm[j]! dm[a]! = true):=fun h=>by
                  have:=HQ.out
                  rw[decide_eq_true h]at this
                  simpa using this.symm
                 clear HQ
                 generalize wc=w6 at *
                 by_cases hij:i≤j
                 ·have hij2:¬ (j:Int)<(i:Int):=by omega
                  obtain ⟨jm,hjm⟩:∃ jm,j=jm+1:=⟨j - 1,by omega⟩
                  have hdec:IntKind.i64.wrap ((j:Int) - 1)=(jm:Int):=by rw[IntKind.wrap_i64];omega
                  have ejm:(j:Int) - 1=(jm:Int):=by omega
                  have HPS:Hid (PI d0 a b (i+1) jm (swp dm i j) p):=by
                   have h1:=HX5.out (by omega)
                   have h2:=HX6.out hij
                   rw[HP6.out.piv]at h1 h2
                   subst hjm
                   exact HP6.out.swap HB.out hij h1 h2
                  have hi0:i0≤i:=HL5.out
                  have hjj:jm<j0:=by omega
                  clear HX5 HX6 HP6 hjm
                  go_wp2
                  have hi1:=fun w'=>qf g N c i w' (by omega)
                  have hi2:=fun w'=>qf g N c j w' (by omega)
                  have hsw:SoAt w6 g dm t:=HS6.out
                  have c3:=hsw.cell (i:=i) (by rw[HDm.out];omega)
                  have c4:=hsw.cell (i:=j) (by rw[HDm.out];omega)
                  have f3:=hsw.fz i
                  have f4:=hsw.fz j
                  have hswb:SoAt (w6.setCell ⟨g,i,none⟩ (.int .u64 dm[j]!)) g (dm.setIfInBounds i dm[j]!) t:=hsw.set (by rw[HDm.out];omega) _
                  have f5:=hswb.fz j
                  have c5:=hswb.cell (i:=j) (by rw[Array.size_setIfInBounds,HDm.out];omega)
                  have HSa7:Hid (SoAt ((w6.setCell ⟨g,i,none⟩ (.int .u64 dm[j]!)).setCell ⟨g,j,none⟩ (.int .u64 dm[i]!)) g (swp dm i j) t):=hsw.swap (by rw[HDm.out];omega) (by rw[HDm.out];omega)
                  have HGa7:Hid (w.grownBy ((w6.setCell ⟨g,i,none⟩ (.int .u64 dm[j]!)).setCell ⟨g,j,none⟩ (.int .u64 dm[i]!)) (some g)):=qk (qk HG6.out _) _
                  have HD7:Hid ((swp dm i j).size=N):=by show _=_;rw[Go.Sort.size_swp];exact HDm.out
                  clear hsw hswb
                  generalize (dm.setIfInBounds i dm[j]!)[j]! = ysw at *
                  generalize dm[i]! = xi at *
                  generalize dm[j]! = xj at *
                  go_upto_region 15 with fail
                  go_region
                  all_goals
                   have HS7:Hid (SoAt ((w6.setCell ⟨g,i,none⟩ (.int .u64 xj)).setCell ⟨g,j,none⟩ (.int .u64 xi)).drew g (swp dm i j) t):=SoAt.drew HSa7.out
                   have HG7:Hid (w.grownBy ((w6.setCell ⟨g,i,none⟩ (.int .u64 xj)).setCell ⟨g,j,none⟩ (.int .u64 xi)).drew (some g)):=qr HGa7.out
                   clear HSa7 HGa7 c3 c4 f3 f4 f5 c5 hi1 hi2
                   generalize ((w6.setCell ⟨g,i,none⟩ (.int .u64 xj)).setCell ⟨g,j,none⟩ (.int .u64 xi)).drew=w7 at *
                   generalize swp dm i j=d7 at *
                   go_wp2
                   go_roundw
                   case rel=>exact ⟨i+1,jm,by go_num,rfl,d7,HD7,HPS,HS7,HG7⟩
                   case measure=>simp[intOf];omega
                 ·skip
                  have HPT:Hid (Parted d0 a b j (swp dm j a)):=HP6.out.fin HB.out hij
                  have hij':(j:Int)<(i:Int):=by omega
                  clear HP6
                  go_wp2
                  have hi1:=fun w'=>qf g N c j w' (by omega)
                  have hi2:=fun w'=>qf g N c a w' (by omega)
                  have hsw:SoAt w6 g dm t:=HS6.out
                  have c3:=hsw.cell (i:=j) (by rw[HDm.out];omega)
                  have c4:=hsw.cell (i:=a) (by rw[HDm.out];omega)
                  have f3:=hsw.fz j
                  have f4:=hsw.fz a
                  have hswb:SoAt (w6.setCell ⟨g,j,none⟩ (.int .u64 dm[a]!)) g (dm.setIfInBounds j dm[a]!) t:=hsw.set (by rw[HDm.out];omega) _
                  have f5:=hswb.fz a
                  have c5:=hswb.cell (i:=a) (by rw[Array.size_setIfInBounds,HDm.out];omega)
                  have HSa8:Hid (SoAt ((w6.setCell ⟨g,j,none⟩ (.int .u64 dm[a]!)).setCell ⟨g,a,none⟩ (.int .u64 dm[j]!)) g (swp dm j a) t):=hsw.swap (by rw[HDm.out];omega) (by rw[HDm.out];omega)
                  have HGa8:Hid (w.grownBy ((w6.setCell ⟨g,j,none⟩ (.int .u64 dm[a]!)).setCell ⟨g,a,none⟩ (.int .u64 dm[j]!)) (some g)):=qk (qk HG6.out _) _
                  have HD8:Hid ((swp dm j a).size=N):=by show _=_;rw[Go.Sort.size_swp];exact HDm.out
                  clear hsw hswb
                  generalize (dm.setIfInBounds j dm[a]!)[a]! = ysw at *
                  generalize dm[j]! = xi at *
                  generalize dm[a]! = xj at *
                  go_upto_region 15 with fail
                  go_region
                  all_goals
                   have HS8:Hid (SoAt ((w6.setCell ⟨g,j,none⟩ (.int .u64 xj)).setCell ⟨g,a,none⟩ (.int .u64 xi)).drew g (swp dm j a) t):=SoAt.drew HSa8.out
                   have HG8:Hid (w.grownBy ((w6.setCell ⟨g,j,none⟩ (.int .u64 xj)).setCell ⟨g,a,none⟩ (.int .u64 xi)).drew (some g)):=qr HGa8.out
                   clear HSa8 HGa8 c3 c4 f3 f4 f5 c5 hi1 hi2
                   generalize ((w6.setCell ⟨g,j,none⟩ (.int .u64 xj)).setCell ⟨g,a,none⟩ (.int .u64 xi)).drew=w8 at *
                   generalize swp dm j a=d8 at *
                   go_wp2
                   go_ret2
                   exact ⟨j,false,d8,rfl,HPT.out,HS8.out,HG8.out⟩
        ·skip
         have HPT:Hid (Parted d0 a b j (swp d1 j a)):=HP3.out.fin HB.out hij
         have hij':(j:Int)<(i:Int):=by omega
         clear HP3
         go_wp2
         have hi1:=fun w'=>qf g N c j w' (by omega)
         have hi2:=fun w'=>qf g N c a w' (by omega)
         have hsw:SoAt w3 g d1 t:=HS3.out
         have c3:=hsw.cell (i:=j) (by rw[HD1.out];omega)
         have c4:=hsw.cell (i:=a) (by rw[HD1.out];omega)
         have f3:=hsw.fz j
         have f4:=hsw.fz a
         have hswb:SoAt (w3.setCell ⟨g,j,none⟩ (.int .u64 d1[a]!)) g (d1.setIfInBounds j d1[a]!) t:=hsw.set (by rw[HD1.out];omega) _
         have f5:=hswb.fz a
         have c5:=hswb.cell (i:=a) (by rw[Array.size_setIfInBounds,HD1.out];omega)
         have HSa9:Hid (SoAt ((w3.setCell ⟨g,j,none⟩ (.int .u64 d1[a]!)).setCell ⟨g,a,none⟩ (.int .u64 d1[j]!)) g (swp d1 j a) t):=hsw.swap (by rw[HD1.out];omega) (by rw[HD1.out];omega)
         have HGa9:Hid (w.grownBy ((w3.setCell ⟨g,j,none⟩ (.int .u64 d1[a]!)).setCell ⟨g,a,none⟩ (.int .u64 d1[j]!)) (some g)):=qk (qk HG3.out _) _
         have HD9:Hid ((swp d1 j a).size=N):=by show _=_;rw[Go.Sort.size_swp];exact HD1.out
         clear hsw hswb
         generalize (d1.setIfInBounds j d1[a]!)[a]! = ysw at *
         generalize d1[j]! = xi at *
         generalize d1[a]! = xj at *
         go_upto_region 15 with fail
         go_region
         all_goals
          have HS9:Hid (SoAt ((w3.setCell ⟨g,j,none⟩ (.int .u64 xj)).setCell ⟨g,a,none⟩ (.int .u64 xi)).drew g (swp d1 j a) t):=SoAt.drew HSa9.out
          have HG9:Hid (w.grownBy ((w3.setCell ⟨g,j,none⟩ (.int .u64 xj)).setCell ⟨g,a,none⟩ (.int .u64 xi)).drew (some g)):=qr HGa9.out
          clear HSa9 HGa9 c3 c4 f3 f4 f5 c5 hi1 hi2
          generalize ((w3.setCell ⟨g,j,none⟩ (.int .u64 xj)).setCell ⟨g,a,none⟩ (.int .u64 xi)).drew=w9 at *
          generalize swp d1 j a=d9 at *
          go_wp2
          go_ret2
          exact ⟨j,true,d9,rfl,HPT.out,HS9.out,HG9.out⟩
structure PE (d0:Array Int) (a b i j:Nat) (d:Array Int) (p:Int):Prop where
 sz:d.size=d0.size
 perm:PermIn a b d0 d
 piv:d[a]! = p
 ia:a+1≤i
 ij:i≤j+1
 jb:j<b
 lo:∀ x,a≤x→x<i→lt64 p d[x]! = false
 hi:∀ x,j<x→x<b→lt64 p d[x]! = true
theorem PE.up{d0:Array Int}{a b i j:Nat}{d:Array Int}{p:Int}(h:PE d0 a b i j d p)(hij:i≤j)(hl:lt64 p d[i]! = false):PE d0 a b (i+1) j d p :=
 ⟨h.sz,h.perm,h.piv,by have:=h.ia;omega,by omega,h.jb,fun x h1 h2=>by
  by_cases e:x=i
  ·subst e;exact hl
  ·exact h.lo x h1 (by omega),h.hi⟩
theorem PE.down{d0:Array Int}{a b i j:Nat}{d:Array Int}{p:Int}(h:PE d0 a b i (j+1) d p)(hij:i≤j+1)(hl:lt64 p d[j+1]! = true):PE d0 a b i j d p :=
 ⟨h.sz,h.perm,h.piv,h.ia,hij,by have:=h.jb;omega,h.lo,fun x h1 h2=>by
  by_cases e:x=j+1
  ·subst e;exact hl
  ·exact h.hi x (by omega) h2⟩
theorem PE.swap{d0:Array Int}{a b i j:Nat}{d:Array Int}{p:Int}(h:PE d0 a b i (j+1) d p)(hb:b≤d0.size)(hij:i≤j+1)(h1:lt64 p d[i]! = true)(h2:lt64 p d[j+1]! = false):PE d0 a b (i+1) j (swp d i (j+1)) p:=by
 have hne:i≠j+1:=fun e=>by subst e;rw[h1]at h2;cases h2
 have hia:=h.ia
 have hjb:=h.jb
 have hsz:=h.sz
 refine ⟨by rw[Go.Sort.size_swp,hsz],Go.Sort.permIn_trans _ _ _ _ _ h.perm (Go.Sort.swp_permIn d a b i (j+1) (by omega) (by omega) (by omega) hjb (by omega)),?_,by omega,by omega,by omega,fun x k1 k2=>?_,fun x k1 k2=>?_⟩
 ·rw[Go.Sort.swp_other _ _ _ _ (by omega) (by omega)];exact h.piv
 ·by_cases e:x=i
  ·subst e
   rw[Go.Sort.swp_left _ _ _ (by omega) hne];exact h2
  ·rw[Go.Sort.swp_other _ _ _ _ e (by omega)];exact h.lo x k1 (by omega)
 ·by_cases e:x=j+1
  ·subst e
   rw[Go.Sort.swp_right _ _ _ (by omega)];exact h1
  ·rw[Go.Sort.swp_other _ _ _ _ (by omega) e];exact h.hi x (by omega) k2
structure EqParted (d0:Array Int) (a b m:Nat) (p:Int) (d:Array Int):Prop where
 sz:d.size=d0.size
 ma:a<m
 mb:m≤b
 perm:PermIn a b d0 d
 lo:∀ x,a≤x→x<m→lt64 p d[x]! = false
 hi:∀ x,m≤x→x<b→lt64 p d[x]! = true
theorem PE.fin{d0:Array Int}{a b i j:Nat}{d:Array Int}{p:Int}(h:PE d0 a b i j d p)(hij:¬ i≤j):EqParted d0 a b i p d:=by
 have hia:=h.ia
 have h0:=h.ij
 have hjb:=h.jb
 exact ⟨h.sz,by omega,by omega,h.perm,h.lo,fun x k1 k2=>h.hi x (by omega) k2⟩
theorem qcq{d0:Array Int}{a b q:Nat}(hab:a<b)(hb:b≤d0.size)(hq1:a≤q)(hq2:q<b):PE d0 a b (a+1) (b - 1) (swp d0 a q) d0[q]! := by
 have hp:(swp d0 a q)[a]! = d0[q]! := by
  by_cases e:a=q
  ·subst e;rw[Go.Sort.swp_right _ _ _ (by omega)]
  ·rw[Go.Sort.swp_left _ _ _ (by omega) e]
 refine ⟨Go.Sort.size_swp _ _ _,Go.Sort.swp_permIn d0 a b a q (Nat.le_refl _) hab hq1 hq2 hb,hp,Nat.le_refl _,by omega,by omega,fun x h1 h2=>?_,fun x h1 h2=>by omega⟩
 obtain rfl:x=a:=by omega
 rw[hp];exact swo64.irrefl _
theorem q67(g c a b q0:Nat)(d0:Array Int)(t:List Int)(w:World)(h:SoAt w g d0 t)(hab:a<b)(hb:b≤d0.size)(hq1:a≤q0)(hq2:q0<b)(hn:d0.size≤1000000) :
  Calls Tryz.prog 163 #[.slice (some ⟨g,0,none⟩) d0.size c,.int .i64 (a:Int),.int .i64 (b:Int),.int .i64 (q0:Int)] w fun e w'=>∃ (m:Nat) (d1:Array Int),e=.returned (.int .i64 (m:Int))∧EqParted d0 a b m d0[q0]! d1∧SoAt w' g d1 t∧w.grownBy w' (some g):=by
 obtain ⟨N,hN⟩:∃ N,d0.size=N:=⟨_,rfl⟩
 have HS0:Hid (SoAt w g d0 t):=h
 have HD0:Hid (d0.size=N):=hN
 have HG0:Hid (w.grownBy w (some g)):=World.grownBy.refl _ _
 have HP0:Hid _:=qcq hab hb hq1 hq2
 obtain ⟨J,hJ⟩:∃ J,b - 1=J:=⟨_,rfl⟩
 rw[hJ]at HP0
 have HB:Hid (b≤d0.size):=hb
 rw[hN]at hb hn ⊢
 clear h hN
 go_enter Tryz.func163,Tryz.ntmps163
 have wi:IntKind.i64.wrap ((a:Int)+1)=((a+1:Nat):Int):=by rw[IntKind.wrap_i64];omega
 have wj:IntKind.i64.wrap ((b:Int) - 1)=(J:Int):=by rw[IntKind.wrap_i64];omega
 have ej:(b:Int) - 1=(J:Int):=by omega
 clear hJ
 obtain ⟨p,hp⟩:∃ p,p=d0[q0]! := ⟨_,rfl⟩
 rw[← hp]at HP0 ⊢
 have HPP:Hid (p=d0[q0]!):=hp
 clear hp
 go_wp2
 have hi1:=fun w'=>qf g N c a w' (by omega)
 have hi2:=fun w'=>qf g N c q0 w' (by omega)
 have hsw:SoAt w g d0 t:=HS0.out
 have c3:=hsw.cell (i:=a) (by rw[HD0.out];omega)
 have c4:=hsw.cell (i:=q0) (by rw[HD0.out];omega)
 have f3:=hsw.fz a
 have f4:=hsw.fz q0
 have hswb:SoAt (w.setCell ⟨g,a,none⟩ (.int .u64 d0[q0]!)) g (d0.setIfInBounds a d0[q0]!) t:=hsw.set (by rw[HD0.out];omega) _
 have f5:=hswb.fz q0
 have c5:=hswb.cell (i:=q0) (by rw[Array.size_setIfInBounds,HD0.out];omega)
 have HSa1:Hid (SoAt ((w.setCell ⟨g,a,none⟩ (.int .u64 d0[q0]!)).setCell ⟨g,q0,none⟩ (.int .u64 d0[a]!)) g (swp d0 a q0) t):=hsw.swap (by rw[HD0.out];omega) (by rw[HD0.out];omega)
 have HGa1:Hid (w.grownBy ((w.setCell ⟨g,a,none⟩ (.int .u64 d0[q0]!)).setCell ⟨g,q0,none⟩ (.int .u64 d0[a]!)) (some g)):=qk (qk HG0.out _) _
 have HD1:Hid ((swp d0 a q0).size=N):=by show _=_;rw[Go.Sort.size_swp];exact HD0.out
 clear hsw hswb
 generalize (d0.setIfInBounds a d0[q0]!)[q0]! = ysw at *
 generalize d0[a]! = xi at *
 generalize d0[q0]! = xj at *
 go_upto_region 15 with fail
 go_region
 all_goals
  have HS1:Hid (SoAt ((w.setCell ⟨g,a,none⟩ (.int .u64 xj)).setCell ⟨g,q0,none⟩ (.int .u64 xi)).drew g (swp d0 a q0) t):=SoAt.drew HSa1.out
  have HG1:Hid (w.grownBy ((w.setCell ⟨g,a,none⟩ (.int .u64 xj)).setCell ⟨g,q0,none⟩ (.int .u64 xi)).drew (some g)):=qr HGa1.out
  clear HSa1 HGa1 c3 c4 f3 f4 f5 c5 hi1 hi2
  generalize ((w.setCell ⟨g,a,none⟩ (.int .u64 xj)).setCell ⟨g,q0,none⟩ (.int .u64 xi)).drew=w1 at *
  generalize swp d0 a q0=d1 at *
  go_wp2
  clear wi wj ej
  go_loopw [9,10] (fun iv jv wr=>∃ i j:Nat,iv=.int .i64 (i:Int)∧jv=.int .i64 (j:Int)∧∃ dm:Array Int,Hid (dm.size=N)∧Hid (PE d0 a b i j dm p)∧Hid (SoAt wr g dm t)∧Hid (w.grownBy wr (some g))) (fun iv jv _=>(intOf jv+1 - intOf iv).toNat)
  case atStart=>exact ⟨a+1,J,by go_num,rfl,d1,HD1,HP0,HS1,HG1⟩
  case round =>
   obtain ⟨i0,j0,rfl,rfl,dm,HDm,HPm,HSm,HGm⟩:=hrel
   clear HD1 HP0 HS1 HG1
   have a1:=HPm.out.ia
   have a2:=HPm.out.ij
   have a3:=HPm.out.jb
   go_wp2
   go_loopw [9] (fun sv wr=>∃ i:Nat,sv=.int .i64 (i:Int)∧Hid (PE d0 a b i j0 dm p)∧Hid (SoAt wr g dm t)∧Hid (w.grownBy wr (some g))∧Hid (i0≤i)) (fun sv _=>N+1 - (intOf sv).toNat)
   case atStart=>exact ⟨i0,by first | rfl | go_num,HPm,HSm,HGm,Nat.le_refl _⟩
   case round =>
    obtain ⟨i,rfl,HP5,HSr5,HGr5,HL5⟩:=hrel
    have bL:=HL5.out
    clear HPm HSm HGm
    have b1:=HP5.out.ia
    have b2:=HP5.out.ij
    have b3:=HP5.out.jb
    obtain ⟨q,hq⟩:∃ q:Bool,q=(decide (i≤j0) && !lt64 dm[a]! dm[i]!):=⟨_,rfl⟩
    have HQ:Hid (q=(decide (i≤j0) && !lt64 dm[a]! dm[i]!)):=hq
    clear hq
    go_upto_region 15 with fail
    go_cut [43] (fun cv wx=>cv=.bool q∧Hid (SoAt wx g dm t)∧Hid (w.grownBy wx (some g)))
    case first =>
     by_cases hij:i≤j0
     ·have hd:decide ((i:Int)≤(j0:Int))=true:=decide_eq_true (by omega)
      have hi1:=fun w'=>qf g N c i w' (by omega)
      have hi2:=fun w'=>qf g N c a w' (by omega)
      have hsw:SoAt wr g dm t:=HSr5.out
      have c3:=hsw.cell (i:=i) (by rw[HDm.out];omega)
      have c4:=hsw.cell (i:=a) (by rw[HDm.out];omega)
      have hless:=fun w'=>qn dm[a]! dm[i]! w'
      have HQ2:Hid (q=!(lt64 dm[a]! dm[i]!)):=by
       show _=_
       rw[HQ.out,decide_eq_true hij];rfl
      clear hsw HQ
      generalize lt64 dm[a]! dm[i]! = lv at *
      generalize dm[i]! = xv at *
      generalize dm[a]! = xa at *
      obtain rfl:=HQ2.out
      go_quiet ((go_at_call 162;exact Calls.quiet_of_same (hless _)))
      go_wp2
      go_meet
      case rel=>exact ⟨rfl,SoAt.drewN HSr5.out _,qi HGr5.out _⟩
     ·have hd:decide ((i:Int)≤(j0:Int))=false:=decide_eq_false (by omega)
      have HQ2:Hid (q=false):=by
       show _=_
       rw[HQ.out,decide_eq_false hij];rfl
      clear HQ
      obtain rfl:=HQ2.out
      go_quiet (fail)
      go_wp2
      go_meet
      case rel=>exact ⟨rfl,SoAt.drewN HSr5.out _,qi HGr5.out _⟩
    case rest =>
     obtain ⟨rfl,HS5,HG5⟩:=hcut
     clear HSr5 HGr5
     cases q with
     | true =>
      have hq:=HQ.out.symm
      rw[Bool.and_eq_true,decide_eq_true_eq]at hq
      have HPX:Hid (PE d0 a b (i+1) j0 dm p):=HP5.out.up hq.1 (by have h2:=hq.2;have h3:=HP5.out.piv;rw[← h3];simpa using h2)
      clear HQ HP5
      go_wp2
      go_roundw
      case rel=>exact ⟨i+1,by go_num,HPX,HS5,HG5,by show _≤_;omega⟩
      case measure=>simp[intOf];omega
     | false =>
      have HX5:Hid (i≤j0→lt64 dm[a]! dm[i]! = true):=fun h=>by
       have:=HQ.out
       rw[decide_eq_true h]at this
       simpa using this.symm
      clear HQ
      generalize wc=w5 at *
      go_wp2
      go_loopw [10] (fun sv wr=>∃ j:Nat,sv=.int .i64 (j:Int)∧Hid (PE d0 a b i j dm p)∧Hid (SoAt wr g dm t)∧Hid (w.grownBy wr (some g))∧Hid (j≤j0)) (fun sv _=>(intOf sv).toNat)
      case atStart=>exact ⟨j0,by first | rfl | go_num,HP5,HS5,HG5,Nat.le_refl _⟩
      case round =>
       obtain ⟨j,rfl,HP6,HSr6,HGr6,HL6⟩:=hrel
       have bL:=HL6.out
       clear HP5 HS5 HG5
       have b1:=HP6.out.ia
       have b2:=HP6.out.ij
       have b3:=HP6.out.jb
       obtain ⟨q,hq⟩:∃ q:Bool,q=(decide (i≤j)&&lt64 dm[a]! dm[j]!):=⟨_,rfl⟩
       have HQ:Hid (q=(decide (i≤j)&&lt64 dm[a]! dm[j]!)):=hq
       clear hq
       go_upto_region 15 with fail
       go_cut [59] (fun cv wx=>cv=.bool q∧Hid (SoAt wx g dm t)∧Hid (w.grownBy wx (some g)))
       case first =>
        by_cases hij:i≤j
        ·have hd:decide ((i:Int)≤(j:Int))=true:=decide_eq_true (by omega)
         have hi1:=fun w'=>qf g N c j w' (by omega)
         have hi2:=fun w'=>qf g N c a w' (by omega)
         have hsw:SoAt wr g dm t:=HSr6.out
         have c3:=hsw.cell (i:=j) (by rw[HDm.out];omega)
         have c4:=hsw.cell (i:=a) (by rw[HDm.out];omega)
         have hless:=fun w'=>qn dm[a]! dm[j]! w'
         have HQ2:Hid (q=(lt64 dm[a]! dm[j]!)):=by
          show _=_
          rw[HQ.out,decide_eq_true hij];rfl
         clear hsw HQ
         generalize lt64 dm[a]! dm[j]! = lv at *
         generalize dm[j]! = xv at *
         generalize dm[a]! = xa at *
         obtain rfl:=HQ2.out
         go_quiet ((go_at_call 162;exact Calls.quiet_of_same (hless _)))
         go_wp2
         go_meet
         case rel=>exact ⟨rfl,SoAt.drewN HSr6.out _,qi HGr6.out _⟩
        ·have hd:decide ((i:Int)≤(j:Int))=false:=decide_eq_false (by omega)
         have HQ2:Hid (q=false):=by
          show _=_
          rw[HQ.out,decide_eq_false hij];rfl
         clear HQ
         obtain rfl:=HQ2.out
         go_quiet (fail)
         go_wp2
         go_meet
         case rel=>exact ⟨rfl,SoAt.drewN HSr6.out _,qi HGr6.out _⟩
       case rest =>
        obtain ⟨rfl,HS6,HG6⟩:=hcut
        clear HSr6 HGr6
        cases q with
        | true =>
         have hq:=HQ.out.symm
         rw[Bool.and_eq_true,decide_eq_true_eq]at hq
         obtain ⟨jm,hjm⟩:∃ jm,j=jm+1:=⟨j - 1,by omega⟩
         have hdec:IntKind.i64.wrap ((j:Int) - 1)=(jm:Int):=by rw[IntKind.wrap_i64];omega
         have HPX:Hid (PE d0 a b i jm dm p):=by
          subst hjm
          exact HP6.out.down hq.1 (by have h2:=hq.2;have h3:=HP6.out.piv;rw[← h3];simpa using h2)
         have hlt:jm<j:=by omega
         clear HQ HP6 hjm hq
         go_wp2
         go_roundw
         case rel=>exact ⟨jm,rfl,HPX,HS6,HG6,by show _≤_;omega⟩
         case measure=>simp[intOf];omega
        | false =>
         have HX6:Hid (i≤j→lt64 dm[a]! dm[j]! = false):=fun h=>by
          have:=HQ.out
          rw[decide_eq_true h]at this
          simpa using this.symm
         clear HQ
         generalize wc=w6 at *
         by_cases hij:i≤j
         ·have hij2:¬ (j:Int)<(i:Int):=by omega
          obtain ⟨jm,hjm⟩:∃ jm,j=jm+1:=⟨j - 1,by omega⟩
          have hdec:IntKind.i64.wrap ((j:Int) - 1)=(jm:Int):=by rw[IntKind.wrap_i64];omega
          have ejm:(j:Int) - 1=(jm:Int):=by omega
          have HPS:Hid (PE d0 a b (i+1) jm (swp dm i j) p):=by
           have h1:=HX5.out (by omega)
           have h2:=HX6.out hij
           rw[HP6.out.piv]at h1 h2
           subst hjm
           exact HP6.out.swap HB.out hij h1 h2
          have hi0:i0≤i:=HL5.out
          have hjj:jm<j0:=by omega
          clear HX5 HX6 HP6 hjm
          go_wp2
          have hi1:=fun w'=>qf g N c i w' (by omega)
          have hi2:=fun w'=>qf g N c j w' (by omega)
          have hsw:SoAt w6 g dm t:=HS6.out
          have c3:=hsw.cell (i:=i) (by rw[HDm.out];omega)
          have c4:=hsw.cell (i:=j) (by rw[HDm.out];omega)
          have f3:=hsw.fz i
          have f4:=hsw.fz j
          have hswb:SoAt (w6.setCell ⟨g,i,none⟩ (.int .u64 dm[j]!)) g (dm.setIfInBounds i dm[j]!) t:=hsw.set (by rw[HDm.out];omega) _
          have f5:=hswb.fz j
          have c5:=hswb.cell (i:=j) (by rw[Array.size_setIfInBounds,HDm.out];omega)
          have HSa7:Hid (SoAt ((w6.setCell ⟨g,i,none⟩ (.int .u64 dm[j]!)).setCell ⟨g,j,none⟩ (.int .u64 dm[i]!)) g (swp dm i j) t):=hsw.swap (by rw[HDm.out];omega) (by rw[HDm.out];omega)
          have HGa7:Hid (w.grownBy ((w6.setCell ⟨g,i,none⟩ (.int .u64 dm[j]!)).setCell ⟨g,j,none⟩ (.int .u64 dm[i]!)) (some g)):=qk (qk HG6.out _) _
          have HD7:Hid ((swp dm i j).size=N):=by show _=_;rw[Go.Sort.size_swp];exact HDm.out
          clear hsw hswb
          generalize (dm.setIfInBounds i dm[j]!)[j]! = ysw at *
          generalize dm[i]! = xi at *
          generalize dm[j]! = xj at *
          go_upto_region 15 with fail
          go_region
          all_goals
           have HS7:Hid (SoAt ((w6.setCell ⟨g,i,none⟩ (.int .u64 xj)).setCell ⟨g,j,none⟩ (.int .u64 xi)).drew g (swp dm i j) t):=SoAt.drew HSa7.out
           have HG7:Hid (w.grownBy ((w6.setCell ⟨g,i,none⟩ (.int .u64 xj)).setCell ⟨g,j,none⟩ (.int .u64 xi)).drew (some g)):=qr HGa7.out
           clear HSa7 HGa7 c3 c4 f3 f4 f5 c5 hi1 hi2
           generalize ((w6.setCell ⟨g,i,none⟩ (.int .u64 xj)).setCell ⟨g,j,none⟩ (.int .u64 xi)).drew=w7 at *
           generalize swp dm i j=d7 at *
           go_wp2
           go_roundw
           case rel=>exact ⟨i+1,jm,by go_num,rfl,d7,HD7,HPS,HS7,HG7⟩
           case measure=>simp[intOf];omega
         ·have HPT:Hid (EqParted d0 a b i p dm):=HP6.out.fin hij
          have hij':(j:Int)<(i:Int):=by omega
          clear HP6
          go_wp2
          go_ret
          exact ⟨i,dm,rfl,HPT.out,HS6.out,HG6.out⟩
def CB (w:World) (sb s:Nat):Prop:=w.heap[sb]? = some (.cells #[.int .i64 (s:Int)] 3 (0,0))
theorem CB.ne{w:World}{g sb s:Nat}{d:Array Int}{t:List Int}(h:CB w sb s)(k:SoAt w g d t):g≠sb:=fun e=>by
 unfold CB at h
 unfold SoAt at k
 rw[← e,k]at h
 injection h with h
 injection h with _ h _
 exact absurd h (by decide)
theorem SoAt.grown{w w':World}{g sb:Nat}{d:Array Int}{t:List Int}(h:SoAt w g d t)(hg:w.grownBy w' (some sb))(hne:g≠sb):SoAt w' g d t:=(hg.block g h.lt (fun e=>hne (by injection e))).trans h
theorem q2h(g c x y sb s:Nat)(d:Array Int)(t:List Int)(w:World)(h:SoAt w g d t)(hc:CB w sb s)(hx:x<d.size)(hy:y<d.size)(hs:s≤1000) :
  Calls Tryz.prog 170 #[.slice (some ⟨g,0,none⟩) d.size c,.int .i64 (x:Int),.int .i64 (y:Int),.pointer (some ⟨sb,0,none⟩)] w fun e w' =>
   ∃ x' y' s':Nat,e=.returned (.tuple #[.int .i64 (x':Int),.int .i64 (y':Int)])∧(x'=x∧y'=y∨x'=y∧y'=x)∧s'≤s+1∧CB w' sb s'∧w.grownBy w' (some sb):=by
 have hi1:=fun w'=>qf g d.size c x w' hx
 have hi2:=fun w'=>qf g d.size c y w' hy
 have c1:=h.cell hx
 have c2:=h.cell hy
 have hless:=fun w'=>qn d[y]! d[x]! w'
 have HC:Hid (CB w sb s):=hc
 clear h hc
 generalize d.size=N at *
 generalize d[x]! = vx at *
 generalize d[y]! = vy at *
 cases hl:lt64 vy vx with
 | false =>
  rw[hl]at hless
  clear hl
  go_enter Tryz.func170,Tryz.ntmps170
  go_upto_region 15 with fail
  go_quiet ((go_at_call 162;exact Calls.quiet_of_same (hless _)))
  go_wp2
  go_ret2
  exact ⟨x,y,s,rfl,Or.inl ⟨rfl,rfl⟩,by omega,(below_drewN (Below.refl w.heap.size w) _).block sb (Array.getElem?_eq_some_iff.1 HC.out).1 |>.trans HC.out,qi (World.grownBy.refl _ _) _⟩
 | true =>
  rw[hl]at hless
  clear hl
  go_enter Tryz.func170,Tryz.ntmps170
  go_upto_region 15 with fail
  go_quiet ((go_at_call 162;exact Calls.quiet_of_same (hless _)))
  have hcb:CB (w.drewN nq) sb s:=(below_drewN (Below.refl w.heap.size w) _).block sb (Array.getElem?_eq_some_iff.1 HC.out).1 |>.trans HC.out
  have q0:(w.drewN nq).cell? ⟨sb,0,none⟩=some (.int .i64 (s:Int)):=qb hcb 0
  have z0:(w.drewN nq).frozen? ⟨sb,0,none⟩=false:=frozen_of_row _ sb 0 _ _ hcb
  have wS:IntKind.i64.wrap ((s:Int)+1)=((s+1:Nat):Int):=by rw[IntKind.wrap_i64];omega
  have HC2:Hid (CB ((w.drewN nq).setCell ⟨sb,0,none⟩ (.int .i64 ((s+1:Nat):Int))) sb (s+1)):=by
   show CB _ _ _
   unfold CB
   rw[heap_setCell_same _ sb 0 _ _ _ hcb];rfl
  have HG2:Hid (w.grownBy ((w.drewN nq).setCell ⟨sb,0,none⟩ (.int .i64 ((s+1:Nat):Int))) (some sb)):=qk (qi (World.grownBy.refl _ _) _) _
  obtain ⟨S1,hS1⟩:∃ S1,s+1=S1:=⟨_,rfl⟩
  rw[hS1]at wS HC2 HG2
  have HS1:Hid (s+1=S1):=hS1
  clear hcb c1 c2 hS1
  have eS:(s:Int)+1=(S1:Int):=by have:=HS1.out;omega
  go_wp2
  go_ret2
  exact ⟨y,x,S1,rfl,Or.inr ⟨rfl,rfl⟩,by have:=HS1.out;omega,HC2.out,HG2.out⟩
theorem q2g(g c x y z sb s:Nat)(d:Array Int)(t:List Int)(w:World)(h:SoAt w g d t)(hc:CB w sb s)(hx:x<d.size)(hy:y<d.size)(hz:z<d.size)(hs:s≤100) :
  Calls Tryz.prog 168 #[.slice (some ⟨g,0,none⟩) d.size c,.int .i64 (x:Int),.int .i64 (y:Int),.int .i64 (z:Int),.pointer (some ⟨sb,0,none⟩)] w fun e w' =>
   ∃ m s':Nat,e=.returned (.int .i64 (m:Int))∧(m=x∨m=y∨m=z)∧s'≤s+3∧CB w' sb s'∧w.grownBy w' (some sb):=by
 have hne:=hc.ne h
 have j1:=q2h g c x y sb s d t w h hc hx hy (by omega)
 have HS:Hid _:=h
 go_enter Tryz.func168,Tryz.ntmps168
 go_wp2_with fail
 refine j1.mono ?_
 rintro e w1 ⟨x1,y1,s1,rfl,hp1,hs1,hc1,hg1⟩
 have j2:=q2h g c y1 z sb s1 d t w1 (SoAt.grown HS.out hg1 hne) hc1 (by omega) hz (by omega)
 clear j1
 go_wp2_with fail
 refine j2.mono ?_
 rintro e w2 ⟨y2,z2,s2,rfl,hp2,hs2,hc2,hg2⟩
 have hg12:=qz hg1 hg2
 have j3:=q2h g c x1 y2 sb s2 d t w2 (SoAt.grown HS.out hg12 hne) hc2 (by omega) (by omega) (by omega)
 clear j2
 go_wp2_with fail
 refine j3.mono ?_
 rintro e w3 ⟨x3,y3,s3,rfl,hp3,hs3,hc3,hg3⟩
 have HF:Hid (CB w3 sb s3∧w.grownBy w3 (some sb)∧(y3=x∨y3=y∨y3=z)∧s3≤s+3):=⟨hc3,qz hg12 hg3,by omega,by omega⟩
 clear j3 hc1 hc2 hc3 hg1 hg2 hg3 hg12 hp1 hp2 hp3 hs1 hs2 hs3
 go_wp2
 go_ret
 exact ⟨y3,s3,rfl,HF.out.2.2.1,HF.out.2.2.2,HF.out.1,HF.out.2.1⟩
theorem q1J(g c x sb s:Nat)(d:Array Int)(t:List Int)(w:World)(h:SoAt w g d t)(hc:CB w sb s)(h1:1≤x)(hx:x+1<d.size)(hs:s≤100)(hn:d.size≤1000000) :
  Calls Tryz.prog 167 #[.slice (some ⟨g,0,none⟩) d.size c,.int .i64 (x:Int),.pointer (some ⟨sb,0,none⟩)] w fun e w' =>
   ∃ m s':Nat,e=.returned (.int .i64 (m:Int))∧x - 1≤m∧m≤x+1∧s'≤s+3∧CB w' sb s'∧w.grownBy w' (some sb):=by
 obtain ⟨x0,hx0⟩:∃ x0,x0=x - 1:=⟨_,rfl⟩
 obtain ⟨x1,hx1⟩:∃ x1,x1=x+1:=⟨_,rfl⟩
 have j1:=q2g g c x0 x x1 sb s d t w h hc (by omega) (by omega) (by omega) hs
 have w0:IntKind.i64.wrap ((x:Int) - 1)=(x0:Int):=by rw[IntKind.wrap_i64];omega
 have e0:(x:Int) - 1=(x0:Int):=by omega
 have w1:IntKind.i64.wrap ((x:Int)+1)=(x1:Int):=by rw[IntKind.wrap_i64];omega
 have e1:(x:Int)+1=(x1:Int):=by omega
 have HX:Hid (x0=x - 1∧x1=x+1):=⟨hx0,hx1⟩
 clear h hc hx0 hx1
 go_enter Tryz.func167,Tryz.ntmps167
 go_wp2_with fail
 refine j1.mono ?_
 rintro e w2 ⟨m,s',rfl,hm,hs',hc',hg'⟩
 have HF:Hid (CB w2 sb s'∧w.grownBy w2 (some sb)∧x - 1≤m∧m≤x+1):=⟨hc',hg',by have:=HX.out;omega,by have:=HX.out;omega⟩
 clear j1 hc' hg' hm
 go_wp2
 go_ret
 exact ⟨m,s',rfl,HF.out.2.2.1,HF.out.2.2.2,hs',HF.out.1,HF.out.2.1⟩
theorem q9q{w w':World}{o:Obj}(h:(w.alloc o).grownBy w' (some w.heap.size)):w.grownBy w' none:=by
 have hb:=qc w o
 exact ⟨h.os.trans hb.os,h.tape.trans hb.tape,h.output.trans hb.output,Nat.le_trans hb.size h.size,fun j hj _=>(h.block j (Nat.lt_of_lt_of_le hj hb.size) (fun e=>by injection e with e;omega)).trans (hb.block j hj)⟩
theorem SoAt.grown0{w w':World}{g:Nat}{d:Array Int}{t:List Int}(h:SoAt w g d t)(hg:w.grownBy w' none):SoAt w' g d t:=(hg.block g h.lt (fun e=>by cases e)).trans h
theorem q5T(g c a b:Nat)(d:Array Int)(t:List Int)(w:World)(h:SoAt w g d t)(hab:a+12<b)(hb:b≤d.size)(hn:d.size≤1000000) :
  Calls Tryz.prog 159 #[.slice (some ⟨g,0,none⟩) d.size c,.int .i64 (a:Int),.int .i64 (b:Int)] w fun e w' =>
   ∃ m k:Nat,e=.returned (.tuple #[.int .i64 (m:Int),.int .i64 (k:Int)])∧a≤m∧m<b∧k≤2∧SoAt w' g d t∧w.grownBy w' none:=by
 obtain ⟨L,hL⟩:∃ L,L=b - a:=⟨_,rfl⟩
 obtain ⟨T,hT⟩:∃ T,T=L / 4:=⟨_,rfl⟩
 obtain ⟨T2,hT2⟩:∃ T2,T2=T*2:=⟨_,rfl⟩
 obtain ⟨T3,hT3⟩:∃ T3,T3=T*3:=⟨_,rfl⟩
 obtain ⟨I,hI⟩:∃ I,I=a+T:=⟨_,rfl⟩
 obtain ⟨J,hJ⟩:∃ J,J=a+T2:=⟨_,rfl⟩
 obtain ⟨K,hK⟩:∃ K,K=a+T3:=⟨_,rfl⟩
 have wL:IntKind.i64.wrap ((b:Int) - (a:Int))=(L:Int):=by rw[IntKind.wrap_i64];omega
 have eL:(b:Int) - (a:Int)=(L:Int):=by omega
 have tT:((L:Int)).tdiv 4=(T:Int):=by rw[Int.tdiv_eq_ediv_of_nonneg (by omega)];omega
 have wT2:IntKind.i64.wrap ((T:Int)*2)=(T2:Int):=by rw[IntKind.wrap_i64];omega
 have eT2:(T:Int)*2=(T2:Int):=by omega
 have wT3:IntKind.i64.wrap ((T:Int)*3)=(T3:Int):=by rw[IntKind.wrap_i64];omega
 have eT3:(T:Int)*3=(T3:Int):=by omega
 have wI:IntKind.i64.wrap ((a:Int)+(T:Int))=(I:Int):=by rw[IntKind.wrap_i64];omega
 have eI:(a:Int)+(T:Int)=(I:Int):=by omega
 have wJ:IntKind.i64.wrap ((a:Int)+(T2:Int))=(J:Int):=by rw[IntKind.wrap_i64];omega
 have eJ:(a:Int)+(T2:Int)=(J:Int):=by omega
 have wK:IntKind.i64.wrap ((a:Int)+(T3:Int))=(K:Int):=by rw[IntKind.wrap_i64];omega
 have eK:(a:Int)+(T3:Int)=(K:Int):=by omega
 have h8:((8:Int)≤(L:Int)):=by omega
 have HIJ:Hid (a≤I∧a≤J∧a≤K∧K+1<b∧J+1<b∧I+1<b∧(50≤L→a+1≤I∧a+1≤J∧a+1≤K)):=by
  refine ⟨by omega,by omega,by omega,by omega,by omega,by omega,fun _=>⟨by omega,by omega,by omega⟩⟩
 have hb1:=qc w (.cells #[.int .i64 0] 3)
 have hs1:SoAt (w.alloc (.cells #[.int .i64 0] 3)) g d t:=(hb1.block g h.lt).trans h
 have hc1:CB (w.alloc (.cells #[.int .i64 0] 3)) w.heap.size 0:=(MapKept.heap_alloc w _).1
 have hne:=hc1.ne hs1
 have HS0:Hid _:=h
 have HF:Hid (∀ (w':World) (m k:Nat),(w.alloc (.cells #[.int .i64 0] 3)).grownBy w' (some w.heap.size)→a≤m→m<b→k≤2→∃ m' k':Nat,Ending.returned (.tuple #[.int .i64 (m:Int),.int .i64 (k:Int)])=.returned (.tuple #[.int .i64 (m':Int),.int .i64 (k':Int)])∧a≤m'∧m'<b∧k'≤2∧SoAt w' g d t∧w.grownBy w' none):=fun w' m k hg h1 h2 h3=>⟨m,k,rfl,h1,h2,h3,h.grown0 (q9q hg),q9q hg⟩
 clear hL hT hT2 hT3 hI hJ hK
 have HIJ1:=HIJ.out
 by_cases h50:50≤L
 ·have h50':((50:Int)≤(L:Int)):=by omega
  have j1:=q1J g c I w.heap.size 0 d t _ hs1 hc1 (by omega) (by omega) (by omega) hn
  have HS1:Hid (SoAt _ g d t):=hs1
  clear hs1 hc1 hb1 h
  go_enter Tryz.func159,Tryz.ntmps159
  go_wp2_with fail
  generalize w.alloc (.cells #[.int .i64 0] 3)=w1 at *
  refine j1.mono ?_
  rintro e w2 ⟨m2,s2,rfl,p2,q2,hs2,hc2,hg2⟩
  have j2:=q1J g c J w.heap.size s2 d t w2 (SoAt.grown HS1.out hg2 hne) hc2 (by omega) (by omega) (by omega) hn
  clear j1
  go_wp2_with fail
  refine j2.mono ?_
  rintro e w3 ⟨m3,s3,rfl,p3,q3,hs3,hc3,hg3⟩
  have hg23:=qz hg2 hg3
  have j3:=q1J g c K w.heap.size s3 d t w3 (SoAt.grown HS1.out hg23 hne) hc3 (by omega) (by omega) (by omega) hn
  clear j2
  go_wp2_with fail
  refine j3.mono ?_
  rintro e w4 ⟨m4,s4,rfl,p4,q4,hs4,hc4,hg4⟩
  have hg24:=qz hg23 hg4
  have j4:=q2g g c m2 m3 m4 w.heap.size s4 d t w4 (SoAt.grown HS1.out hg24 hne) hc4 (by omega) (by omega) (by omega) (by omega)
  clear j3
  go_wp2_with fail
  refine j4.mono ?_
  rintro e w5 ⟨m5,s5,rfl,p5,hs5,hc5,hg5⟩
  have HZ:Hid (CB w5 w.heap.size s5∧w1.grownBy w5 (some w.heap.size)∧a≤m5∧m5<b):=⟨hc5,qz hg24 hg5,by omega,by omega⟩
  clear j4 hc2 hc3 hc4 hc5 hg2 hg3 hg4 hg5 hg23 hg24 p2 p3 p4 p5 q2 q3 q4
  have q0:w5.cell? ⟨w.heap.size,0,none⟩=some (.int .i64 (s5:Int)):=qb HZ.out.1 0
  by_cases z0:s5=0
  ·obtain rfl:=z0
   go_wp2
   go_ret2
   exact HF.out w5 m5 1 HZ.out.2.1 HZ.out.2.2.1 HZ.out.2.2.2 (by omega)
  ·have z0':((s5:Int) == 0)=false:=by rw[beq_eq_false_iff_ne];omega
   by_cases z1:s5=12
   ·obtain rfl:=z1
    go_wp2
    go_ret2
    exact HF.out w5 m5 2 HZ.out.2.1 HZ.out.2.2.1 HZ.out.2.2.2 (by omega)
   ·have z1':((s5:Int) == 12)=false:=by rw[beq_eq_false_iff_ne];omega
    go_wp2
    go_ret2
    exact HF.out w5 m5 0 HZ.out.2.1 HZ.out.2.2.1 HZ.out.2.2.2 (by omega)
 ·have h50':¬ ((50:Int)≤(L:Int)):=by omega
  have j4:=q2g g c I J K w.heap.size 0 d t _ hs1 hc1 (by omega) (by omega) (by omega) (by omega)
  clear hs1 hc1 hb1 h
  go_enter Tryz.func159,Tryz.ntmps159
  go_wp2_with fail
  generalize w.alloc (.cells #[.int .i64 0] 3)=w1 at *
  refine j4.mono ?_
  rintro e w5 ⟨m5,s5,rfl,p5,hs5,hc5,hg5⟩
  have HZ:Hid (CB w5 w.heap.size s5∧w1.grownBy w5 (some w.heap.size)∧a≤m5∧m5<b):=⟨hc5,hg5,by omega,by omega⟩
  clear j4 hc5 hg5 p5
  have q0:w5.cell? ⟨w.heap.size,0,none⟩=some (.int .i64 (s5:Int)):=qb HZ.out.1 0
  by_cases z0:s5=0
  ·obtain rfl:=z0
   go_wp2
   go_ret2
   exact HF.out w5 m5 1 HZ.out.2.1 HZ.out.2.2.1 HZ.out.2.2.2 (by omega)
  ·have z0':((s5:Int) == 0)=false:=by rw[beq_eq_false_iff_ne];omega
   by_cases z1:s5=12
   ·obtain rfl:=z1
    go_wp2
    go_ret2
    exact HF.out w5 m5 2 HZ.out.2.1 HZ.out.2.2.1 HZ.out.2.2.2 (by omega)
   ·have z1':((s5:Int) == 12)=false:=by rw[beq_eq_false_iff_ne];omega
    go_wp2
    go_ret2
    exact HF.out w5 m5 0 HZ.out.2.1 HZ.out.2.2.1 HZ.out.2.2.2 (by omega)
end Go.Proofs.YtekeaodpdcnfjaaGreatDoor
