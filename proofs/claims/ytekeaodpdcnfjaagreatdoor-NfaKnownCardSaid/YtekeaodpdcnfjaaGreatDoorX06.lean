/- Texts of the proof, put together: what it uses. -/
import Derived.Deep.DeepCutAuto
import Derived.Lib.AppendZerosOnto
import Derived.Test.YtekeaodpdcnfjaaGreatDoorX00
import Derived.Test.YtekeaodpdcnfjaaGreatDoorX03
import Derived.Test.YtekeaodpdcnfjaaGreatDoorX05
set_option maxRecDepth 100000
set_option maxHeartbeats 16000000
namespace Go.Proofs.YtekeaodpdcnfjaaGreatDoor
open Go.RowKit Go.Maps
open Go.Sort (swp PermIn SortedIn)
def dnD (a i:Nat) (d:Array Int):Array Int:=if i - a ≥ 2 then Go.Sort.shiftDown lt64 (i - 1) d else d
def upD (b i:Nat) (d:Array Int):Array Int:=if b - i ≥ 2 then Go.Sort.shiftUp lt64 b (i+1) d else d
theorem qbJ(a b s i:Nat)(d:Array Int):Go.Sort.partialIns lt64 a b (s+1) i d=if Go.Sort.scanSorted lt64 d b i=b then (d,true) else if b - a<50 then (d,false) else Go.Sort.partialIns lt64 a b s (Go.Sort.scanSorted lt64 d b i) (upD b (Go.Sort.scanSorted lt64 d b i) (dnD a (Go.Sort.scanSorted lt64 d b i) (swp d (Go.Sort.scanSorted lt64 d b i) (Go.Sort.scanSorted lt64 d b i - 1)))):=rfl
theorem qcx{b i:Nat}{d:Array Int}(h:i<b)(hl:lt64 d[i]! d[i - 1]! = false):Go.Sort.scanSorted lt64 d b i=Go.Sort.scanSorted lt64 d b (i+1):=by
 conv=>lhs;unfold Go.Sort.scanSorted
 rw[if_pos]
 simp[h,hl]
theorem qdw{b i:Nat}{d:Array Int}(h:i<b→lt64 d[i]! d[i - 1]! = true):Go.Sort.scanSorted lt64 d b i=i:=by
 unfold Go.Sort.scanSorted
 rw[if_neg]
 intro hc
 rw[Bool.and_eq_true,decide_eq_true_eq]at hc
 rw[h hc.1]at hc
 simp at hc
theorem dn_no{j:Nat}{d:Array Int}(h:lt64 d[j+1]! d[j]! = false):Go.Sort.shiftDown lt64 (j+1) d=d:=by
 unfold Go.Sort.shiftDown
 rw[h];rfl
theorem qdH{j:Nat}{d:Array Int}(h:lt64 d[j+1]! d[j]! = true):Go.Sort.shiftDown lt64 (j+1) d=Go.Sort.shiftDown lt64 j (swp d (j+1) j):=by
 conv=>lhs;unfold Go.Sort.shiftDown
 rw[h];rfl
theorem q9U{b j:Nat}{d:Array Int}(h:¬ j<b):Go.Sort.shiftUp lt64 b j d=d:=by
 unfold Go.Sort.shiftUp
 rw[if_neg h]
theorem up_no{b j:Nat}{d:Array Int}(hj:j<b)(h:lt64 d[j]! d[j - 1]! = false):Go.Sort.shiftUp lt64 b j d=d:=by
 unfold Go.Sort.shiftUp
 rw[if_pos hj,h];rfl
theorem q9V{b j:Nat}{d:Array Int}(hj:j<b)(h:lt64 d[j]! d[j - 1]! = true):Go.Sort.shiftUp lt64 b j d=Go.Sort.shiftUp lt64 b (j+1) (swp d j (j - 1)):=by
 conv=>lhs;unfold Go.Sort.shiftUp
 rw[if_pos hj,h];rfl
theorem q8r(g c a b:Nat)(d:Array Int)(t:List Int)(w:World)(h:SoAt w g d t)(hab:a<b)(hb:b≤d.size)(hn:d.size≤1000000) :
  Calls Tryz.prog 161 #[.slice (some ⟨g,0,none⟩) d.size c,.int .i64 (a:Int),.int .i64 (b:Int)] w fun e w'=>e=.returned (.bool (Go.Sort.partialInsertionSort lt64 d a b).2)∧SoAt w' g (Go.Sort.partialInsertionSort lt64 d a b).1 t∧w.grownBy w' (some g):=by
 obtain ⟨N,hN⟩:∃ N,d.size=N:=⟨_,rfl⟩
 obtain ⟨R,hR⟩:∃ R,Go.Sort.partialInsertionSort lt64 d a b=R:=⟨_,rfl⟩
 have HI0:Hid (Go.Sort.partialIns lt64 a b 5 (a+1) d=R):=hR
 have HS0:Hid (SoAt w g d t):=h
 have HD0:Hid (d.size=N):=hN
 have HG0:Hid (w.grownBy w (some g)):=World.grownBy.refl _ _
 rw[hN]at hb hn ⊢
 rw[hR]
 obtain ⟨R1,R2⟩:=R
 dsimp only
 clear h hN hR
 go_enter Tryz.func161,Tryz.ntmps161
 go_wp2
 go_loopw [7,8] (fun iv kv wr=>∃ i k:Nat,a+1≤i∧i≤b∧k≤5∧iv=.int .i64 (i:Int)∧kv=.int .i64 (k:Int)∧∃ dk:Array Int,Hid (dk.size=N)∧Hid (SoAt wr g dk t)∧Hid (Go.Sort.partialIns lt64 a b (5 - k) i dk=(R1,R2))∧Hid (w.grownBy wr (some g))) (fun _ kv _=>5 - (intOf kv).toNat)
 case atStart=>exact ⟨a+1,0,Nat.le_refl _,by omega,by omega,by go_num,rfl,d,HD0,HS0,HI0,HG0⟩
 case round =>
  obtain ⟨i0,k,hi1,hi2,hk,rfl,rfl,dk,HD,HS,HI,HG⟩:=hrel
  clear HD0 HS0 HI0 HG0
  by_cases hk5:k<5
  ·have hk5':(k:Int)<5:=by omega
   obtain ⟨I,hI⟩:∃ I,Go.Sort.scanSorted lt64 dk b i0=I:=⟨_,rfl⟩
   have HST:Hid ((if I=b then (dk,true) else if b - a<50 then (dk,false) else Go.Sort.partialIns lt64 a b (5 - (k+1)) I (upD b I (dnD a I (swp dk I (I - 1)))))=(R1,R2)):=by
    have h0:=HI.out
    rw[show 5 - k=(5 - (k+1))+1 by omega,qbJ,hI]at h0
    exact h0
   have HSC:Hid (Go.Sort.scanSorted lt64 dk b i0=I):=hI
   clear hI HI
   go_wp2
   go_loopw [7] (fun sv wr=>∃ i:Nat,i0≤i∧i≤b∧sv=.int .i64 (i:Int)∧Hid (Go.Sort.scanSorted lt64 dk b i=I)∧Hid (SoAt wr g dk t)∧Hid (w.grownBy wr (some g))) (fun sv _=>N+1 - (intOf sv).toNat)
   case atStart=>exact ⟨i0,Nat.le_refl _,hi2,rfl,HSC,HS,HG⟩
   case round =>
    obtain ⟨i,ha1,ha2,rfl,HSC2,HSr,HGr⟩:=hrel
    clear HSC HS HG
    obtain ⟨im,him⟩:∃ im,im=i - 1:=⟨_,rfl⟩
    have wim:IntKind.i64.wrap ((i:Int) - 1)=(im:Int):=by rw[IntKind.wrap_i64];omega
    have eim:(i:Int) - 1=(im:Int):=by omega
    have HIM:Hid (im=i - 1):=him
    have hxm:im<i:=by omega
    clear him
    obtain ⟨q,hq⟩:∃ q:Bool,q=(decide (i<b) && !lt64 dk[i]! dk[im]!):=⟨_,rfl⟩
    have HQ:Hid (q=(decide (i<b) && !lt64 dk[i]! dk[im]!)):=hq
    clear hq
    go_upto_region 15 with fail
    go_cut [32] (fun cv wx=>cv=.bool q∧Hid (SoAt wx g dk t)∧Hid (w.grownBy wx (some g)))
    case first =>
     by_cases hij:i<b
     ·have hd:decide ((i:Int)<(b:Int))=true:=decide_eq_true (by omega)
      have j1:=fun w'=>qf g N c i w' (by omega)
      have j2:=fun w'=>qf g N c im w' (by omega)
      have hsw:SoAt wr g dk t:=HSr.out
      have c3:=hsw.cell (i:=i) (by rw[HD.out];omega)
      have c4:=hsw.cell (i:=im) (by rw[HD.out];omega)
      have hless:=fun w'=>qn dk[i]! dk[im]! w'
      have HQ2:Hid (q=!(lt64 dk[i]! dk[im]!)):=by
       show _=_
       rw[HQ.out,decide_eq_true hij];rfl
      clear hsw HQ
      generalize lt64 dk[i]! dk[im]! = lv at *
      generalize dk[i]! = xv at *
      generalize dk[im]! = xa at *
      obtain rfl:=HQ2.out
      go_quiet ((go_at_call 162;exact Calls.quiet_of_same (hless _)))
      go_wp2
      go_meet
      case rel=>exact ⟨rfl,SoAt.drewN HSr.out _,qi HGr.out _⟩
     ·have hd:decide ((i:Int)<(b:Int))=false:=decide_eq_false (by omega)
      have HQ2:Hid (q=false):=by
       show _=_
       rw[HQ.out,decide_eq_false hij];rfl
      clear HQ
      obtain rfl:=HQ2.out
      go_quiet (fail)
      go_wp2
      go_meet
      case rel=>exact ⟨rfl,SoAt.drewN HSr.out _,qi HGr.out _⟩
    case rest =>
     obtain ⟨rfl,HS5,HG5⟩:=hcut
     clear HSr HGr
     cases q with
     | true =>
      have hq:=HQ.out.symm
      rw[Bool.and_eq_true,decide_eq_true_eq]at hq
      have HPX:Hid (Go.Sort.scanSorted lt64 dk b (i+1)=I):=by
       have h1:=HSC2.out
       rw[qcx hq.1 (by rw[← HIM.out];simpa using hq.2)]at h1
       exact h1
      clear HQ HSC2
      go_wp2
      go_roundw
      case rel=>exact ⟨i+1,by omega,by omega,by go_num,HPX,HS5,HG5⟩
      case measure=>simp[intOf];omega
     | false =>
      have HII:Hid (i=I):=by
       have h1:=HSC2.out
       rw[qdw (fun h=>by
        have:=HQ.out
        rw[decide_eq_true h]at this
        rw[← HIM.out]
        simpa using this.symm)]at h1
       exact h1
      clear HQ HSC2
      obtain rfl:=HII.out
      clear HII
      generalize wc=w5 at *
      by_cases hib:i=b
      ·have hib':((i:Int) == (b:Int))=true:=by rw[beq_iff_eq];omega
       have HR:Hid (dk=R1∧true=R2):=by
        have h0:=HST.out
        rw[if_pos hib]at h0
        injection h0 with h1 h2
        exact ⟨h1,h2⟩
       clear HST hib
       go_wp2
       go_ret
       obtain ⟨rfl,rfl⟩:=HR.out
       exact ⟨rfl,HS5.out,HG5.out⟩
      ·have hib':((i:Int) == (b:Int))=false:=by rw[beq_eq_false_iff_ne];omega
       obtain ⟨L,hL⟩:∃ L,L=b - a:=⟨_,rfl⟩
       have wL:IntKind.i64.wrap ((b:Int) - (a:Int))=(L:Int):=by rw[IntKind.wrap_i64];omega
       have eL:(b:Int) - (a:Int)=(L:Int):=by omega
       by_cases h50:L<50
       ·have h50':(L:Int)<50:=by omega
        have HR:Hid (dk=R1∧false=R2):=by
         have h0:=HST.out
         rw[if_neg hib,if_pos (by omega)]at h0
         injection h0 with h1 h2
         exact ⟨h1,h2⟩
        clear HST hL
        go_wp2
        go_ret
        obtain ⟨rfl,rfl⟩:=HR.out
        exact ⟨rfl,HS5.out,HG5.out⟩
       ·have h50':¬ (L:Int)<50:=by omega
        have HST2:Hid (Go.Sort.partialIns lt64 a b (5 - (k+1)) i (upD b i (dnD a i (swp dk i im)))=(R1,R2)):=by
         have h0:=HST.out
         rw[if_neg hib,if_neg (by omega),← HIM.out]at h0
         exact h0
        clear HST hL
        go_wp2
        have hi1:=fun w'=>qf g N c i w' (by omega)
        have hi2:=fun w'=>qf g N c im w' (by omega)
        have hsw:SoAt w5 g dk t:=HS5.out
        have c3:=hsw.cell (i:=i) (by rw[HD.out];omega)
        have c4:=hsw.cell (i:=im) (by rw[HD.out];omega)
        have f3:=hsw.fz i
        have f4:=hsw.fz im
        have hswb:SoAt (w5.setCell ⟨g,i,none⟩ (.int .u64 dk[im]!)) g (dk.setIfInBounds i dk[im]!) t:=hsw.set (by rw[HD.out];omega) _
        have f5:=hswb.fz im
        have c5:=hswb.cell (i:=im) (by rw[Array.size_setIfInBounds,HD.out];omega)
        have HSa6:Hid (SoAt ((w5.setCell ⟨g,i,none⟩ (.int .u64 dk[im]!)).setCell ⟨g,im,none⟩ (.int .u64 dk[i]!)) g (swp dk i im) t):=hsw.swap (by rw[HD.out];omega) (by rw[HD.out];omega)
        have HGa6:Hid (w.grownBy ((w5.setCell ⟨g,i,none⟩ (.int .u64 dk[im]!)).setCell ⟨g,im,none⟩ (.int .u64 dk[i]!)) (some g)):=qk (qk HG5.out _) _
        have HD6:Hid ((swp dk i im).size=N):=by show _=_;rw[Go.Sort.size_swp];exact HD.out
        clear hsw hswb
        generalize (dk.setIfInBounds i dk[im]!)[im]! = ysw at *
        generalize dk[i]! = xi at *
        generalize dk[im]! = xj at *
        go_upto_region 15 with fail
        go_region
        all_goals
         have HS6:Hid (SoAt ((w5.setCell ⟨g,i,none⟩ (.int .u64 xj)).setCell ⟨g,im,none⟩ (.int .u64 xi)).drew g (swp dk i im) t):=SoAt.drew HSa6.out
         have HG6:Hid (w.grownBy ((w5.setCell ⟨g,i,none⟩ (.int .u64 xj)).setCell ⟨g,im,none⟩ (.int .u64 xi)).drew (some g)):=qr HGa6.out
         clear HSa6 HGa6 c3 c4 f3 f4 f5 c5 hi1 hi2
         generalize ((w5.setCell ⟨g,i,none⟩ (.int .u64 xj)).setCell ⟨g,im,none⟩ (.int .u64 xi)).drew=w6 at *
         generalize swp dk i im=d6 at *
         obtain ⟨Ld,hLd⟩:∃ Ld,Ld=i - a:=⟨_,rfl⟩
         have wLd:IntKind.i64.wrap ((i:Int) - (a:Int))=(Ld:Int):=by rw[IntKind.wrap_i64];omega
         have eLd:(i:Int) - (a:Int)=(Ld:Int):=by omega
         by_cases hd2:2≤Ld
         ·have hd2':(2:Int)≤(Ld:Int):=by omega
          have HDN:Hid (Go.Sort.partialIns lt64 a b (5 - (k+1)) i (upD b i (Go.Sort.shiftDown lt64 im d6))=(R1,R2)):=by
           have h0:=HST2.out
           unfold dnD at h0
           rw[if_pos (by omega),← HIM.out]at h0
           exact h0
          clear HST2 hLd
          go_wp2
          clear wLd eLd
          go_loopw [9] (fun sv wr=>∃ j:Nat,j≤im∧sv=.int .i64 (j:Int)∧∃ dj:Array Int,Hid (dj.size=N)∧Hid (SoAt wr g dj t)∧Hid (Go.Sort.partialIns lt64 a b (5 - (k+1)) i (upD b i (Go.Sort.shiftDown lt64 j dj))=(R1,R2))∧Hid (w.grownBy wr (some g))) (fun sv _=>(intOf sv).toNat)
          case atStart=>exact ⟨im,Nat.le_refl _,by first | rfl | go_num,d6,HD6,HS6,HDN,HG6⟩
          case round =>
           obtain ⟨j,hj1,rfl,dj,HDj9,HSj9,HTj9,HGj9⟩:=hrel
           clear HD6 HS6 HDN HG6
           by_cases hjc:1≤j
           ·have hjc':(1:Int)≤(j:Int):=by omega
            obtain ⟨jm,hjm⟩:∃ jm,j=jm+1:=⟨j - 1,by omega⟩
            have wjm:IntKind.i64.wrap ((j:Int) - 1)=(jm:Int):=by rw[IntKind.wrap_i64];omega
            have ejm:(j:Int) - 1=(jm:Int):=by omega
            have hjl:jm<j:=by omega
            have HJM:Hid (j=jm+1):=hjm
            clear hjm
            have j1:=fun w'=>qf g N c j w' (by omega)
            have j2:=fun w'=>qf g N c jm w' (by omega)
            have hsw:SoAt wr g dj t:=HSj9.out
            have c6:=hsw.cell (i:=j) (by rw[HDj9.out];omega)
            have c7:=hsw.cell (i:=jm) (by rw[HDj9.out];omega)
            have hless:=fun w'=>qn dj[j]! dj[jm]! w'
            cases hl:lt64 dj[j]! dj[jm]! with
            | false =>
             rw[hl]at hless
             have HT9:Hid (Go.Sort.partialIns lt64 a b (5 - (k+1)) i (upD b i dj)=(R1,R2)):=by
              have h0:=HTj9.out
              rw[show j=jm+1 from HJM.out,dn_no (by rw[← HJM.out];exact hl)]at h0
              exact h0
             clear hl hsw HTj9
             go_wp2
             go_upto_region 15 with fail
             go_quiet ((go_at_call 162;exact Calls.quiet_of_same (hless _)))
             have HSb9:Hid (SoAt (wr.drewN nq) g dj t):=SoAt.drewN HSj9.out nq
             have HGb9:Hid (w.grownBy (wr.drewN nq) (some g)):=qi HGj9.out nq
             clear HSj9 HGj9 hless c6 c7 j1 j2 wjm ejm
             generalize wr.drewN nq=wb9 at *
             obtain ⟨Lu,hLu⟩:∃ Lu,Lu=b - i:=⟨_,rfl⟩
             have wLu:IntKind.i64.wrap ((b:Int) - (i:Int))=(Lu:Int):=by rw[IntKind.wrap_i64];omega
             have eLu:(b:Int) - (i:Int)=(Lu:Int):=by omega
             by_cases hu2:2≤Lu
             ·have hu2':(2:Int)≤(Lu:Int):=by omega
              have HU11:Hid (Go.Sort.partialIns lt64 a b (5 - (k+1)) i (Go.Sort.shiftUp lt64 b (i+1) dj)=(R1,R2)):=by
               have h0:=HT9.out
               unfold upD at h0
               rw[if_pos (by omega)]at h0
               exact h0
              clear HT9 hLu
              go_wp2
              clear wLu eLu
              go_loopw [10] (fun sv wr=>∃ j:Nat,i+1≤j∧j≤b∧sv=.int .i64 (j:Int)∧∃ dj:Array Int,Hid (dj.size=N)∧Hid (SoAt wr g dj t)∧Hid (Go.Sort.partialIns lt64 a b (5 - (k+1)) i (Go.Sort.shiftUp lt64 b j dj)=(R1,R2))∧Hid (w.grownBy wr (some g))) (fun sv _=>N+1 - (intOf sv).toNat)
              case atStart=>exact ⟨i+1,Nat.le_refl _,by omega,by first | rfl | go_num,dj,HDj9,HSb9,HU11,HGb9⟩
              case round =>
               obtain ⟨j,hj1,hj2,rfl,dj,HDj11,HSj11,HTj11,HGj11⟩:=hrel
               clear HDj9 HSb9 HU11 HGb9
               by_cases hjc:j<b
               ·have hjc':(j:Int)<(b:Int):=by omega
                obtain ⟨jm,hjm⟩:∃ jm,j=jm+1:=⟨j - 1,by omega⟩
                have wjm:IntKind.i64.wrap ((j:Int) - 1)=(jm:Int):=by rw[IntKind.wrap_i64];omega
                have ejm:(j:Int) - 1=(jm:Int):=by omega
                have hjl:jm<j:=by omega
                have HJM:Hid (j=jm+1):=hjm
                clear hjm
                have j1:=fun w'=>qf g N c j w' (by omega)
                have j2:=fun w'=>qf g N c jm w' (by omega)
                have hsw:SoAt wr g dj t:=HSj11.out
                have c6:=hsw.cell (i:=j) (by rw[HDj11.out];omega)
                have c7:=hsw.cell (i:=jm) (by rw[HDj11.out];omega)
                have hless:=fun w'=>qn dj[j]! dj[jm]! w'
                cases hl:lt64 dj[j]! dj[jm]! with
                | false =>
                 rw[hl]at hless
                 have HT11:Hid (Go.Sort.partialIns lt64 a b (5 - (k+1)) i dj=(R1,R2)):=by
                  have h0:=HTj11.out
                  rw[up_no hjc (by rw[show j - 1=jm by have:=HJM.out;omega];exact hl)]at h0
                  exact h0
                 clear hl hsw HTj11
                 go_wp2
                 go_upto_region 15 with fail
                 go_quiet ((go_at_call 162;exact Calls.quiet_of_same (hless _)))
                 have HSb11:Hid (SoAt (wr.drewN nq) g dj t):=SoAt.drewN HSj11.out nq
                 have HGb11:Hid (w.grownBy (wr.drewN nq) (some g)):=qi HGj11.out nq
                 clear HSj11 HGj11 hless c6 c7 j1 j2 wjm ejm
                 generalize wr.drewN nq=wb11 at *
                 go_wp2
                 go_roundw
                 case rel=>exact ⟨i,k+1,by omega,by omega,by omega,rfl,by go_num,dj,HDj11,HSb11,HT11,HGb11⟩
                 case measure=>simp[intOf];omega
                | true =>
                 rw[hl]at hless
                 have HT11:Hid (Go.Sort.partialIns lt64 a b (5 - (k+1)) i (Go.Sort.shiftUp lt64 b (j+1) (swp dj j jm))=(R1,R2)):=by
                  have h0:=HTj11.out
                  rw[q9V hjc (by rw[show j - 1=jm by have:=HJM.out;omega];exact hl),show j - 1=jm by have:=HJM.out;omega]at h0
                  exact h0
                 clear hl hsw HTj11
                 go_wp2
                 go_upto_region 15 with fail
                 go_quiet ((go_at_call 162;exact Calls.quiet_of_same (hless _)))
                 have HSc11:Hid (SoAt (wr.drewN nq) g dj t):=SoAt.drewN HSj11.out nq
                 have HGc11:Hid (w.grownBy (wr.drewN nq) (some g)):=qi HGj11.out nq
                 clear HSj11 HGj11 hless c6 c7 j1 j2
                 generalize wr.drewN nq=wb11 at *
                 go_wp2
                 have hi1:=fun w'=>qf g N c j w' (by omega)
                 have hi2:=fun w'=>qf g N c jm w' (by omega)
                 have hsw:SoAt wb11 g dj t:=HSc11.out
                 have c3:=hsw.cell (i:=j) (by rw[HDj11.out];omega)
                 have c4:=hsw.cell (i:=jm) (by rw[HDj11.out];omega)
                 have f3:=hsw.fz j
                 have f4:=hsw.fz jm
                 have hswb:SoAt (wb11.setCell ⟨g,j,none⟩ (.int .u64 dj[jm]!)) g (dj.setIfInBounds j dj[jm]!) t:=hsw.set (by rw[HDj11.out];omega) _
                 have f5:=hswb.fz jm
                 have c5:=hswb.cell (i:=jm) (by rw[Array.size_setIfInBounds,HDj11.out];omega)
                 have HSa12:Hid (SoAt ((wb11.setCell ⟨g,j,none⟩ (.int .u64 dj[jm]!)).setCell ⟨g,jm,none⟩ (.int .u64 dj[j]!)) g (swp dj j jm) t):=hsw.swap (by rw[HDj11.out];omega) (by rw[HDj11.out];omega)
                 have HGa12:Hid (w.grownBy ((wb11.setCell ⟨g,j,none⟩ (.int .u64 dj[jm]!)).setCell ⟨g,jm,none⟩ (.int .u64 dj[j]!)) (some g)):=qk (qk HGc11.out _) _
                 have HD12:Hid ((swp dj j jm).size=N):=by show _=_;rw[Go.Sort.size_swp];exact HDj11.out
                 clear hsw hswb
                 generalize (dj.setIfInBounds j dj[jm]!)[jm]! = ysw at *
                 generalize dj[j]! = xi at *
                 generalize dj[jm]! = xj at *
                 go_upto_region 15 with fail
                 go_region
                 all_goals
                  have HS12:Hid (SoAt ((wb11.setCell ⟨g,j,none⟩ (.int .u64 xj)).setCell ⟨g,jm,none⟩ (.int .u64 xi)).drew g (swp dj j jm) t):=SoAt.drew HSa12.out
                  have HG12:Hid (w.grownBy ((wb11.setCell ⟨g,j,none⟩ (.int .u64 xj)).setCell ⟨g,jm,none⟩ (.int .u64 xi)).drew (some g)):=qr HGa12.out
                  clear HSa12 HGa12 c3 c4 f3 f4 f5 c5 hi1 hi2
                  generalize ((wb11.setCell ⟨g,j,none⟩ (.int .u64 xj)).setCell ⟨g,jm,none⟩ (.int .u64 xi)).drew=w12 at *
                  generalize swp dj j jm=d12 at *
                  go_wp2
                  go_roundw
                  case rel=>exact ⟨j+1,by omega,by omega,by go_num,d12,HD12,HS12,HT11,HG12⟩
                  case measure=>simp[intOf] <;> omega
               ·have hjc':¬ (j:Int)<(b:Int):=by omega
                have HT11:Hid (Go.Sort.partialIns lt64 a b (5 - (k+1)) i dj=(R1,R2)):=by
                 have h0:=HTj11.out
                 rw[q9U hjc]at h0
                 exact h0
                clear HTj11
                generalize wr=wb11 at *
                go_wp2
                go_roundw
                case rel=>exact ⟨i,k+1,by omega,by omega,by omega,rfl,by go_num,dj,HDj11,HSj11,HT11,HGj11⟩
                case measure=>simp[intOf];omega
             ·have hu2':¬ (2:Int)≤(Lu:Int):=by omega
              have HU11:Hid (Go.Sort.partialIns lt64 a b (5 - (k+1)) i dj=(R1,R2)):=by
               have h0:=HT9.out
               unfold upD at h0
               rw[if_neg (by omega)]at h0
               exact h0
              clear HT9 hLu
              go_wp2
              go_roundw
              case rel=>exact ⟨i,k+1,by omega,by omega,by omega,rfl,by go_num,dj,HDj9,HSb9,HU11,HGb9⟩
              case measure=>simp[intOf];omega
            | true =>
             rw[hl]at hless
             have HT9:Hid (Go.Sort.partialIns lt64 a b (5 - (k+1)) i (upD b i (Go.Sort.shiftDown lt64 jm (swp dj j jm)))=(R1,R2)):=by
              have h0:=HTj9.out
              rw[show Go.Sort.shiftDown lt64 j dj=Go.Sort.shiftDown lt64 jm (swp dj j jm) from by rw[HJM.out];exact qdH (by rw[← HJM.out];exact hl)]at h0
              exact h0
             clear hl hsw HTj9
             go_wp2
             go_upto_region 15 with fail
             go_quiet ((go_at_call 162;exact Calls.quiet_of_same (hless _)))
             have HSc9:Hid (SoAt (wr.drewN nq) g dj t):=SoAt.drewN HSj9.out nq
             have HGc9:Hid (w.grownBy (wr.drewN nq) (some g)):=qi HGj9.out nq
             clear HSj9 HGj9 hless c6 c7 j1 j2
             generalize wr.drewN nq=wb9 at *
             go_wp2
             have hi1:=fun w'=>qf g N c j w' (by omega)
             have hi2:=fun w'=>qf g N c jm w' (by omega)
             have hsw:SoAt wb9 g dj t:=HSc9.out
             have c3:=hsw.cell (i:=j) (by rw[HDj9.out];omega)
             have c4:=hsw.cell (i:=jm) (by rw[HDj9.out];omega)
             have f3:=hsw.fz j
             have f4:=hsw.fz jm
             have hswb:SoAt (wb9.setCell ⟨g,j,none⟩ (.int .u64 dj[jm]!)) g (dj.setIfInBounds j dj[jm]!) t:=hsw.set (by rw[HDj9.out];omega) _
             have f5:=hswb.fz jm
             have c5:=hswb.cell (i:=jm) (by rw[Array.size_setIfInBounds,HDj9.out];omega)
             have HSa13:Hid (SoAt ((wb9.setCell ⟨g,j,none⟩ (.int .u64 dj[jm]!)).setCell ⟨g,jm,none⟩ (.int .u64 dj[j]!)) g (swp dj j jm) t):=hsw.swap (by rw[HDj9.out];omega) (by rw[HDj9.out];omega)
             have HGa13:Hid (w.grownBy ((wb9.setCell ⟨g,j,none⟩ (.int .u64 dj[jm]!)).setCell ⟨g,jm,none⟩ (.int .u64 dj[j]!)) (some g)):=qk (qk HGc9.out _) _
             have HD13:Hid ((swp dj j jm).size=N):=by show _=_;rw[Go.Sort.size_swp];exact HDj9.out
             clear hsw hswb
             generalize (dj.setIfInBounds j dj[jm]!)[jm]! = ysw at *
             generalize dj[j]! = xi at *
             generalize dj[jm]! = xj at *
             go_upto_region 15 with fail
             go_region
             all_goals
              have HS13:Hid (SoAt ((wb9.setCell ⟨g,j,none⟩ (.int .u64 xj)).setCell ⟨g,jm,none⟩ (.int .u64 xi)).drew g (swp dj j jm) t):=SoAt.drew HSa13.out
              have HG13:Hid (w.grownBy ((wb9.setCell ⟨g,j,none⟩ (.int .u64 xj)).setCell ⟨g,jm,none⟩ (.int .u64 xi)).drew (some g)):=qr HGa13.out
              clear HSa13 HGa13 c3 c4 f3 f4 f5 c5 hi1 hi2
              generalize ((wb9.setCell ⟨g,j,none⟩ (.int .u64 xj)).setCell ⟨g,jm,none⟩ (.int .u64 xi)).drew=w13 at *
              generalize swp dj j jm=d13 at *
              go_wp2
              go_roundw
              case rel=>exact ⟨jm,by omega,rfl,d13,HD13,HS13,HT9,HG13⟩
              case measure=>simp[intOf] <;> omega
           ·have hjc':¬ (1:Int)≤(j:Int):=by omega
            have HT9:Hid (Go.Sort.partialIns lt64 a b (5 - (k+1)) i (upD b i dj)=(R1,R2)):=by
             have h0:=HTj9.out
             obtain rfl:j=0:=by omega
             exact h0
            clear HTj9
            generalize wr=wb9 at *
            obtain ⟨Lu,hLu⟩:∃ Lu,Lu=b - i:=⟨_,rfl⟩
            have wLu:IntKind.i64.wrap ((b:Int) - (i:Int))=(Lu:Int):=by rw[IntKind.wrap_i64];omega
            have eLu:(b:Int) - (i:Int)=(Lu:Int):=by omega
            by_cases hu2:2≤Lu
            ·have hu2':(2:Int)≤(Lu:Int):=by omega
             have HU14:Hid (Go.Sort.partialIns lt64 a b (5 - (k+1)) i (Go.Sort.shiftUp lt64 b (i+1) dj)=(R1,R2)):=by
              have h0:=HT9.out
              unfold upD at h0
              rw[if_pos (by omega)]at h0
              exact h0
             clear HT9 hLu
             go_wp2
             clear wLu eLu
             go_loopw [10] (fun sv wr=>∃ j:Nat,i+1≤j∧j≤b∧sv=.int .i64 (j:Int)∧∃ dj:Array Int,Hid (dj.size=N)∧Hid (SoAt wr g dj t)∧Hid (Go.Sort.partialIns lt64 a b (5 - (k+1)) i (Go.Sort.shiftUp lt64 b j dj)=(R1,R2))∧Hid (w.grownBy wr (some g))) (fun sv _=>N+1 - (intOf sv).toNat)
             case atStart=>exact ⟨i+1,Nat.le_refl _,by omega,by first | rfl | go_num,dj,HDj9,HSj9,HU14,HGj9⟩
             case round =>
              obtain ⟨j,hj1,hj2,rfl,dj,HDj14,HSj14,HTj14,HGj14⟩:=hrel
              clear HDj9 HSj9 HU14 HGj9
              by_cases hjc:j<b
              ·have hjc':(j:Int)<(b:Int):=by omega
               obtain ⟨jm,hjm⟩:∃ jm,j=jm+1:=⟨j - 1,by omega⟩
               have wjm:IntKind.i64.wrap ((j:Int) - 1)=(jm:Int):=by rw[IntKind.wrap_i64];omega
               have ejm:(j:Int) - 1=(jm:Int):=by omega
               have hjl:jm<j:=by omega
               have HJM:Hid (j=jm+1):=hjm
               clear hjm
               have j1:=fun w'=>qf g N c j w' (by omega)
               have j2:=fun w'=>qf g N c jm w' (by omega)
               have hsw:SoAt wr g dj t:=HSj14.out
               have c6:=hsw.cell (i:=j) (by rw[HDj14.out];omega)
               have c7:=hsw.cell (i:=jm) (by rw[HDj14.out];omega)
               have hless:=fun w'=>qn dj[j]! dj[jm]! w'
               cases hl:lt64 dj[j]! dj[jm]! with
               | false =>
                rw[hl]at hless
                have HT14:Hid (Go.Sort.partialIns lt64 a b (5 - (k+1)) i dj=(R1,R2)):=by
                 have h0:=HTj14.out
                 rw[up_no hjc (by rw[show j - 1=jm by have:=HJM.out;omega];exact hl)]at h0
                 exact h0
                clear hl hsw HTj14
                go_wp2
                go_upto_region 15 with fail
                go_quiet ((go_at_call 162;exact Calls.quiet_of_same (hless _)))
                have HSb14:Hid (SoAt (wr.drewN nq) g dj t):=SoAt.drewN HSj14.out nq
                have HGb14:Hid (w.grownBy (wr.drewN nq) (some g)):=qi HGj14.out nq
                clear HSj14 HGj14 hless c6 c7 j1 j2 wjm ejm
                generalize wr.drewN nq=wb14 at *
                go_wp2
                go_roundw
                case rel=>exact ⟨i,k+1,by omega,by omega,by omega,rfl,by go_num,dj,HDj14,HSb14,HT14,HGb14⟩
                case measure=>simp[intOf];omega
               | true =>
                rw[hl]at hless
                have HT14:Hid (Go.Sort.partialIns lt64 a b (5 - (k+1)) i (Go.Sort.shiftUp lt64 b (j+1) (swp dj j jm))=(R1,R2)):=by
                 have h0:=HTj14.out
                 rw[q9V hjc (by rw[show j - 1=jm by have:=HJM.out;omega];exact hl),show j - 1=jm by have:=HJM.out;omega]at h0
                 exact h0
                clear hl hsw HTj14
                go_wp2
                go_upto_region 15 with fail
                go_quiet ((go_at_call 162;exact Calls.quiet_of_same (hless _)))
                have HSc14:Hid (SoAt (wr.drewN nq) g dj t):=SoAt.drewN HSj14.out nq
                have HGc14:Hid (w.grownBy (wr.drewN nq) (some g)):=qi HGj14.out nq
                clear HSj14 HGj14 hless c6 c7 j1 j2
                generalize wr.drewN nq=wb14 at *
                go_wp2
                have hi1:=fun w'=>qf g N c j w' (by omega)
                have hi2:=fun w'=>qf g N c jm w' (by omega)
                have hsw:SoAt wb14 g dj t:=HSc14.out
                have c3:=hsw.cell (i:=j) (by rw[HDj14.out];omega)
                have c4:=hsw.cell (i:=jm) (by rw[HDj14.out];omega)
                have f3:=hsw.fz j
                have f4:=hsw.fz jm
                have hswb:SoAt (wb14.setCell ⟨g,j,none⟩ (.int .u64 dj[jm]!)) g (dj.setIfInBounds j dj[jm]!) t:=hsw.set (by rw[HDj14.out];omega) _
                have f5:=hswb.fz jm
                have c5:=hswb.cell (i:=jm) (by rw[Array.size_setIfInBounds,HDj14.out];omega)
                have HSa15:Hid (SoAt ((wb14.setCell ⟨g,j,none⟩ (.int .u64 dj[jm]!)).setCell ⟨g,jm,none⟩ (.int .u64 dj[j]!)) g (swp dj j jm) t):=hsw.swap (by rw[HDj14.out];omega) (by rw[HDj14.out];omega)
                have HGa15:Hid (w.grownBy ((wb14.setCell ⟨g,j,none⟩ (.int .u64 dj[jm]!)).setCell ⟨g,jm,none⟩ (.int .u64 dj[j]!)) (some g)):=qk (qk HGc14.out _) _
                have HD15:Hid ((swp dj j jm).size=N):=by show _=_;rw[Go.Sort.size_swp];exact HDj14.out
                clear hsw hswb
                generalize (dj.setIfInBounds j dj[jm]!)[jm]! = ysw at *
                generalize dj[j]! = xi at *
                generalize dj[jm]! = xj at *
                go_upto_region 15 with fail
                go_region
                all_goals
                 have HS15:Hid (SoAt ((wb14.setCell ⟨g,j,none⟩ (.int .u64 xj)).setCell ⟨g,jm,none⟩ (.int .u64 xi)).drew g (swp dj j jm) t):=SoAt.drew HSa15.out
                 have HG15:Hid (w.grownBy ((wb14.setCell ⟨g,j,none⟩ (.int .u64 xj)).setCell ⟨g,jm,none⟩ (.int .u64 xi)).drew (some g)):=qr HGa15.out
                 clear HSa15 HGa15 c3 c4 f3 f4 f5 c5 hi1 hi2
                 generalize ((wb14.setCell ⟨g,j,none⟩ (.int .u64 xj)).setCell ⟨g,jm,none⟩ (.int .u64 xi)).drew=w15 at *
                 generalize swp dj j jm=d15 at *
                 go_wp2
                 go_roundw
                 case rel=>exact ⟨j+1,by omega,by omega,by go_num,d15,HD15,HS15,HT14,HG15⟩
                 case measure=>simp[intOf] <;> omega
              ·have hjc':¬ (j:Int)<(b:Int):=by omega
               have HT14:Hid (Go.Sort.partialIns lt64 a b (5 - (k+1)) i dj=(R1,R2)):=by
                have h0:=HTj14.out
                rw[q9U hjc]at h0
                exact h0
               clear HTj14
               generalize wr=wb14 at *
               go_wp2
               go_roundw
               case rel=>exact ⟨i,k+1,by omega,by omega,by omega,rfl,by go_num,dj,HDj14,HSj14,HT14,HGj14⟩
               case measure=>simp[intOf];omega
            ·have hu2':¬ (2:Int)≤(Lu:Int):=by omega
             have HU14:Hid (Go.Sort.partialIns lt64 a b (5 - (k+1)) i dj=(R1,R2)):=by
              have h0:=HT9.out
              unfold upD at h0
              rw[if_neg (by omega)]at h0
              exact h0
             clear HT9 hLu
             go_wp2
             go_roundw
             case rel=>exact ⟨i,k+1,by omega,by omega,by omega,rfl,by go_num,dj,HDj9,HSj9,HU14,HGj9⟩
             case measure=>simp[intOf];omega
         ·have hd2':¬ (2:Int)≤(Ld:Int):=by omega
          have HDN:Hid (Go.Sort.partialIns lt64 a b (5 - (k+1)) i (upD b i d6)=(R1,R2)):=by
           have h0:=HST2.out
           unfold dnD at h0
           rw[if_neg (by omega)]at h0
           exact h0
          clear HST2 hLd
          obtain ⟨Lu,hLu⟩:∃ Lu,Lu=b - i:=⟨_,rfl⟩
          have wLu:IntKind.i64.wrap ((b:Int) - (i:Int))=(Lu:Int):=by rw[IntKind.wrap_i64];omega
          have eLu:(b:Int) - (i:Int)=(Lu:Int):=by omega
          by_cases hu2:2≤Lu
          ·have hu2':(2:Int)≤(Lu:Int):=by omega
           have HU16:Hid (Go.Sort.partialIns lt64 a b (5 - (k+1)) i (Go.Sort.shiftUp lt64 b (i+1) d6)=(R1,R2)):=by
            have h0:=HDN.out
            unfold upD at h0
            rw[if_pos (by omega)]at h0
            exact h0
           clear HDN hLu
           go_wp2
           clear wLu eLu
           go_loopw [10] (fun sv wr=>∃ j:Nat,i+1≤j∧j≤b∧sv=.int .i64 (j:Int)∧∃ dj:Array Int,Hid (dj.size=N)∧Hid (SoAt wr g dj t)∧Hid (Go.Sort.partialIns lt64 a b (5 - (k+1)) i (Go.Sort.shiftUp lt64 b j dj)=(R1,R2))∧Hid (w.grownBy wr (some g))) (fun sv _=>N+1 - (intOf sv).toNat)
           case atStart=>exact ⟨i+1,Nat.le_refl _,by omega,by first | rfl | go_num,d6,HD6,HS6,HU16,HG6⟩
           case round =>
            obtain ⟨j,hj1,hj2,rfl,dj,HDj16,HSj16,HTj16,HGj16⟩:=hrel
            clear HD6 HS6 HU16 HG6
            by_cases hjc:j<b
            ·have hjc':(j:Int)<(b:Int):=by omega
             obtain ⟨jm,hjm⟩:∃ jm,j=jm+1:=⟨j - 1,by omega⟩
             have wjm:IntKind.i64.wrap ((j:Int) - 1)=(jm:Int):=by rw[IntKind.wrap_i64];omega
             have ejm:(j:Int) - 1=(jm:Int):=by omega
             have hjl:jm<j:=by omega
             have HJM:Hid (j=jm+1):=hjm
             clear hjm
             have j1:=fun w'=>qf g N c j w' (by omega)
             have j2:=fun w'=>qf g N c jm w' (by omega)
             have hsw:SoAt wr g dj t:=HSj16.out
             have c6:=hsw.cell (i:=j) (by rw[HDj16.out];omega)
             have c7:=hsw.cell (i:=jm) (by rw[HDj16.out];omega)
             have hless:=fun w'=>qn dj[j]! dj[jm]! w'
             cases hl:lt64 dj[j]! dj[jm]! with
             | false =>
              rw[hl]at hless
              have HT16:Hid (Go.Sort.partialIns lt64 a b (5 - (k+1)) i dj=(R1,R2)):=by
               have h0:=HTj16.out
               rw[up_no hjc (by rw[show j - 1=jm by have:=HJM.out;omega];exact hl)]at h0
               exact h0
              clear hl hsw HTj16
              go_wp2
              go_upto_region 15 with fail
              go_quiet ((go_at_call 162;exact Calls.quiet_of_same (hless _)))
              have HSb16:Hid (SoAt (wr.drewN nq) g dj t):=SoAt.drewN HSj16.out nq
              have HGb16:Hid (w.grownBy (wr.drewN nq) (some g)):=qi HGj16.out nq
              clear HSj16 HGj16 hless c6 c7 j1 j2 wjm ejm
              generalize wr.drewN nq=wb16 at *
              go_wp2
              go_roundw
              case rel=>exact ⟨i,k+1,by omega,by omega,by omega,rfl,by go_num,dj,HDj16,HSb16,HT16,HGb16⟩
              case measure=>simp[intOf];omega
             | true =>
              rw[hl]at hless
              have HT16:Hid (Go.Sort.partialIns lt64 a b (5 - (k+1)) i (Go.Sort.shiftUp lt64 b (j+1) (swp dj j jm))=(R1,R2)):=by
               have h0:=HTj16.out
               rw[q9V hjc (by rw[show j - 1=jm by have:=HJM.out;omega];exact hl),show j - 1=jm by have:=HJM.out;omega]at h0
               exact h0
              clear hl hsw HTj16
              go_wp2
              go_upto_region 15 with fail
              go_quiet ((go_at_call 162;exact Calls.quiet_of_same (hless _)))
              have HSc16:Hid (SoAt (wr.drewN nq) g dj t):=SoAt.drewN HSj16.out nq
              have HGc16:Hid (w.grownBy (wr.drewN nq) (some g)):=qi HGj16.out nq
              clear HSj16 HGj16 hless c6 c7 j1 j2
              generalize wr.drewN nq=wb16 at *
              go_wp2
              have hi1:=fun w'=>qf g N c j w' (by omega)
              have hi2:=fun w'=>qf g N c jm w' (by omega)
              have hsw:SoAt wb16 g dj t:=HSc16.out
              have c3:=hsw.cell (i:=j) (by rw[HDj16.out];omega)
              have c4:=hsw.cell (i:=jm) (by rw[HDj16.out];omega)
              have f3:=hsw.fz j
              have f4:=hsw.fz jm
              have hswb:SoAt (wb16.setCell ⟨g,j,none⟩ (.int .u64 dj[jm]!)) g (dj.setIfInBounds j dj[jm]!) t:=hsw.set (by rw[HDj16.out];omega) _
              have f5:=hswb.fz jm
              have c5:=hswb.cell (i:=jm) (by rw[Array.size_setIfInBounds,HDj16.out];omega)
              have HSa17:Hid (SoAt ((wb16.setCell ⟨g,j,none⟩ (.int .u64 dj[jm]!)).setCell ⟨g,jm,none⟩ (.int .u64 dj[j]!)) g (swp dj j jm) t):=hsw.swap (by rw[HDj16.out];omega) (by rw[HDj16.out];omega)
              have HGa17:Hid (w.grownBy ((wb16.setCell ⟨g,j,none⟩ (.int .u64 dj[jm]!)).setCell ⟨g,jm,none⟩ (.int .u64 dj[j]!)) (some g)):=qk (qk HGc16.out _) _
              have HD17:Hid ((swp dj j jm).size=N):=by show _=_;rw[Go.Sort.size_swp];exact HDj16.out
              clear hsw hswb
              generalize (dj.setIfInBounds j dj[jm]!)[jm]! = ysw at *
              generalize dj[j]! = xi at *
              generalize dj[jm]! = xj at *
              go_upto_region 15 with fail
              go_region
              all_goals
               have HS17:Hid (SoAt ((wb16.setCell ⟨g,j,none⟩ (.int .u64 xj)).setCell ⟨g,jm,none⟩ (.int .u64 xi)).drew g (swp dj j jm) t):=SoAt.drew HSa17.out
               have HG17:Hid (w.grownBy ((wb16.setCell ⟨g,j,none⟩ (.int .u64 xj)).setCell ⟨g,jm,none⟩ (.int .u64 xi)).drew (some g)):=qr HGa17.out
               clear HSa17 HGa17 c3 c4 f3 f4 f5 c5 hi1 hi2
               generalize ((wb16.setCell ⟨g,j,none⟩ (.int .u64 xj)).setCell ⟨g,jm,none⟩ (.int .u64 xi)).drew=w17 at *
               generalize swp dj j jm=d17 at *
               go_wp2
               go_roundw
               case rel=>exact ⟨j+1,by omega,by omega,by go_num,d17,HD17,HS17,HT16,HG17⟩
               case measure=>simp[intOf] <;> omega
            ·have hjc':¬ (j:Int)<(b:Int):=by omega
             have HT16:Hid (Go.Sort.partialIns lt64 a b (5 - (k+1)) i dj=(R1,R2)):=by
              have h0:=HTj16.out
              rw[q9U hjc]at h0
              exact h0
             clear HTj16
             generalize wr=wb16 at *
             go_wp2
             go_roundw
             case rel=>exact ⟨i,k+1,by omega,by omega,by omega,rfl,by go_num,dj,HDj16,HSj16,HT16,HGj16⟩
             case measure=>simp[intOf];omega
          ·have hu2':¬ (2:Int)≤(Lu:Int):=by omega
           have HU16:Hid (Go.Sort.partialIns lt64 a b (5 - (k+1)) i d6=(R1,R2)):=by
            have h0:=HDN.out
            unfold upD at h0
            rw[if_neg (by omega)]at h0
            exact h0
           clear HDN hLu
           go_wp2
           go_roundw
           case rel=>exact ⟨i,k+1,by omega,by omega,by omega,rfl,by go_num,d6,HD6,HS6,HU16,HG6⟩
           case measure=>simp[intOf];omega
  ·have hk5':¬ (k:Int)<5:=by omega
   obtain rfl:k=5:=by omega
   have HR:Hid (dk=R1∧false=R2):=by
    have h0:=HI.out
    injection h0 with h1 h2
    exact ⟨h1,h2⟩
   clear HI
   go_wp2
   go_ret
   obtain ⟨rfl,rfl⟩:=HR.out
   exact ⟨rfl,HS.out,HG.out⟩
end Go.Proofs.YtekeaodpdcnfjaaGreatDoor
namespace Go.Proofs.YtekeaodpdcnfjaaGreatDoor
open Go.Sort (swp PermIn SortedIn)
structure PQ (a0 b0 a b:Nat) (d0 d:Array Int):Prop where
 a1:a0≤a
 ab:a≤b
 b1:b≤b0
 sz:d.size=d0.size
 perm:PermIn a0 b0 d0 d
 bel:Go.Sort.Below lt64 a b d
 fin:∀ d':Array Int,PermIn a b d d'→SortedIn lt64 a b d'→SortedIn lt64 a0 b0 d'
theorem qcs{a b:Nat}{d:Array Int}(hab:a≤b)(hB:Go.Sort.Below lt64 a b d):PQ a b a b d d :=
 ⟨Nat.le_refl _,hab,Nat.le_refl _,rfl,Go.Sort.permIn_refl d a b,hB,fun _ _ h=>h⟩
theorem PQ.up{a0 b0 a b:Nat}{d0 d d':Array Int}(h:PQ a0 b0 a b d0 d)(hb:b0≤d0.size)(hp:PermIn a b d d'):PermIn a0 b0 d0 d' :=
 Go.Sort.permIn_trans _ _ _ _ _ h.perm (Go.Sort.permIn_mono d d' a b a0 b0 h.a1 h.b1 (by rw[h.sz];exact hb) hp)
theorem qaQ{a b:Nat}{d d':Array Int}(hb:b≤d.size)(h:Go.Sort.Below lt64 a b d)(hp:PermIn a b d d'):Go.Sort.Below lt64 a b d':=by
 rcases h with h | h
 ·exact Or.inl h
 ·by_cases ha:a=0
  ·exact Or.inl ha
  ·right
   rw[hp.2.1 (a - 1) (by omega)]
   exact Go.Sort.permIn_all d d' a b (fun x=>lt64 x d[a - 1]! = false) hb hp h
theorem PQ.move{a0 b0 a b:Nat}{d0 d d':Array Int}(h:PQ a0 b0 a b d0 d)(hb:b0≤d0.size)(hp:PermIn a b d d'):PQ a0 b0 a b d0 d' :=
 ⟨h.a1,h.ab,h.b1,hp.1.trans h.sz,h.up hb hp,qaQ (by have:=h.b1;rw[h.sz];omega) h.bel hp,fun e h1 h2=>h.fin e (Go.Sort.permIn_trans _ _ _ _ _ hp h1) h2⟩
theorem q4T{a b m:Nat}{d:Array Int}{p:Int}(hp:d[m]! = p)(hl:SortedIn lt64 a m d)(hr:SortedIn lt64 (m+1) b d)(h1:∀ x,a≤x→x<m→lt64 d[x]! p=true)(h2:∀ x,m<x→x<b→lt64 d[x]! p=false):SortedIn lt64 a b d:=by
 have no:∀ x y:Int,lt64 x p=true→lt64 y p=false→lt64 y x=false:=fun x y k1 k2=>by
  cases k:lt64 y x with
  | false=>rfl
  | true=>rw[swo64.trans y x p k k1]at k2;cases k2
 intro i j hi hij hj
 by_cases c1:j<m
 ·exact hl i j hi hij c1
 ·by_cases c2:j=m
  ·subst c2
   rw[hp]
   exact no _ _ (h1 i hi hij) (swo64.irrefl p)
  ·by_cases c3:i<m
   ·exact no _ _ (h1 i hi c3) (h2 j (by omega) hj)
   ·by_cases c4:i=m
    ·subst c4
     rw[hp]
     exact h2 j hij hj
    ·exact hr i j (by omega) hij hj
theorem PQ.left{a0 b0 a b m:Nat}{d0 d d4 d5:Array Int}(h:PQ a0 b0 a b d0 d)(hb:b0≤d0.size)(hP:Parted d a b m d4)(hp:PermIn a m d4 d5)(hs:SortedIn lt64 a m d5):PQ a0 b0 (m+1) b d0 d5:=by
 have hsz:=h.sz
 have hsz4:=hP.sz
 have hb1:=h.b1
 have hma:=hP.ma
 have hmb:=hP.mb
 have h4:=h.move hb hP.perm
 have e5:∀ x,m≤x→d5[x]! = d4[x]! := fun x hx=>hp.2.1 x (Or.inr hx)
 have k5:PermIn a b d4 d5:=Go.Sort.permIn_mono d4 d5 a m a b (Nat.le_refl _) (by omega) (by omega) hp
 have lo5:∀ x,a≤x→x<m→lt64 d5[x]! d4[m]! = true:=Go.Sort.permIn_all d4 d5 a m (fun x=>lt64 x d4[m]! = true) (by omega) hp hP.lo
 refine ⟨by have:=h.a1;omega,by omega,hb1,hp.1.trans (hsz4.trans hsz),h4.up hb k5,Or.inr fun i h1 h2=>?_,fun e h1 h2=>?_⟩
 ·rw[show m+1 - 1=m by omega,e5 i (by omega),e5 m (Nat.le_refl _)]
  exact hP.hi i (by omega) h2
 ·have kk:PermIn a b d5 e:=Go.Sort.permIn_mono d5 e (m+1) b a b (by omega) (Nat.le_refl _) (by rw[hp.1];omega) h1
  have ee:∀ x,x<m+1→e[x]! = d5[x]! := fun x hx=>h1.2.1 x (Or.inl hx)
  have hie:∀ x,m+1≤x→x<b→lt64 e[x]! d4[m]! = false:=Go.Sort.permIn_all d5 e (m+1) b (fun x=>lt64 x d4[m]! = false) (by rw[hp.1];omega) h1 (fun i k1 k2=>by rw[e5 i (by omega)];exact hP.hi i (by omega) k2)
  refine h4.fin e (Go.Sort.permIn_trans _ _ _ _ _ k5 kk) (q4T (m:=m) (p:=d4[m]!) ?_ ?_ h2 ?_ ?_)
  ·rw[ee m (by omega),e5 m (Nat.le_refl _)]
  ·intro i j hi hij hj
   rw[ee i (by omega),ee j (by omega)]
   exact hs i j hi hij hj
  ·intro x k1 k2
   rw[ee x (by omega)]
   exact lo5 x k1 k2
  ·intro x k1 k2
   exact hie x (by omega) k2
theorem PQ.right{a0 b0 a b m:Nat}{d0 d d4 d5:Array Int}(h:PQ a0 b0 a b d0 d)(hb:b0≤d0.size)(hP:Parted d a b m d4)(hp:PermIn (m+1) b d4 d5)(hs:SortedIn lt64 (m+1) b d5):PQ a0 b0 a m d0 d5:=by
 have hsz:=h.sz
 have hsz4:=hP.sz
 have hb1:=h.b1
 have hma:=hP.ma
 have hmb:=hP.mb
 have h4:=h.move hb hP.perm
 have e5:∀ x,x<m+1→d5[x]! = d4[x]! := fun x hx=>hp.2.1 x (Or.inl hx)
 have k5:PermIn a b d4 d5:=Go.Sort.permIn_mono d4 d5 (m+1) b a b (by omega) (Nat.le_refl _) (by omega) hp
 have hi5:∀ x,m+1≤x→x<b→lt64 d5[x]! d4[m]! = false:=Go.Sort.permIn_all d4 d5 (m+1) b (fun x=>lt64 x d4[m]! = false) (by omega) hp (fun i k1 k2=>hP.hi i (by omega) k2)
 refine ⟨h.a1,hma,by omega,hp.1.trans (hsz4.trans hsz),h4.up hb k5,?_,fun e h1 h2=>?_⟩
 ·rcases h4.bel with k | k
  ·exact Or.inl k
  ·right
   intro i h1 h2
   rw[e5 i (by omega),e5 (a - 1) (by omega)]
   exact k i h1 (by omega)
 ·have kk:PermIn a b d5 e:=Go.Sort.permIn_mono d5 e a m a b (Nat.le_refl _) (by omega) (by rw[hp.1];omega) h1
  have ee:∀ x,m≤x→e[x]! = d5[x]! := fun x hx=>h1.2.1 x (Or.inr hx)
  have loe:∀ x,a≤x→x<m→lt64 e[x]! d4[m]! = true:=Go.Sort.permIn_all d5 e a m (fun x=>lt64 x d4[m]! = true) (by rw[hp.1];omega) h1 (fun i k1 k2=>by rw[e5 i (by omega)];exact hP.lo i k1 k2)
  refine h4.fin e (Go.Sort.permIn_trans _ _ _ _ _ k5 kk) (q4T (m:=m) (p:=d4[m]!) ?_ h2 ?_ loe ?_)
  ·rw[ee m (Nat.le_refl _),e5 m (by omega)]
  ·intro i j hi hij hj
   rw[ee i (by omega),ee j (by omega)]
   exact hs i j hi hij hj
  ·intro x k1 k2
   rw[ee x (by omega)]
   exact hi5 x (by omega) k2
theorem PQ.eq{a0 b0 a b m q:Nat}{d0 d d4:Array Int}(h:PQ a0 b0 a b d0 d)(hb:b0≤d0.size)(ha:0<a)(hl:lt64 d[a - 1]! d[q]! = false)(hP:EqParted d a b m d[q]! d4):PQ a0 b0 m b d0 d4:=by
 have hsz:=h.sz
 have hsz4:=hP.sz
 have hb1:=h.b1
 have hma:=hP.ma
 have hmb:=hP.mb
 have h4:=h.move hb hP.perm
 have nl:∀ i,a≤i→i<b→lt64 d[i]! d[q]! = false:=fun i k1 k2=>by
  rcases h.bel with k | k
  ·omega
  ·exact swo64.ntrans _ _ _ (k i k1 k2) hl
 have nl4:∀ i,a≤i→i<b→lt64 d4[i]! d[q]! = false:=Go.Sort.permIn_all d d4 a b (fun x=>lt64 x d[q]! = false) (by omega) hP.perm nl
 have no:∀ x y:Int,lt64 d[q]! y=true→lt64 d[q]! x=false→lt64 y x=false:=fun x y k1 k2=>by
  cases k:lt64 y x with
  | false=>rfl
  | true=>rw[swo64.trans _ _ _ k1 k]at k2;cases k2
 refine ⟨by have:=h.a1;omega,hmb,hb1,hsz4.trans hsz,h4.perm,Or.inr fun i h1 h2=>no _ _ (hP.hi i h1 h2) (hP.lo (m - 1) (by omega) (by omega)),fun e h1 h2=>?_⟩
 have kk:PermIn a b d4 e:=Go.Sort.permIn_mono d4 e m b a b (by omega) (Nat.le_refl _) (by omega) h1
 have ee:∀ x,x<m→e[x]! = d4[x]! := fun x hx=>h1.2.1 x (Or.inl hx)
 have hie:∀ x,m≤x→x<b→lt64 d[q]! e[x]! = true:=Go.Sort.permIn_all d4 e m b (fun x=>lt64 d[q]! x=true) (by omega) h1 hP.hi
 refine h4.fin e kk fun i j hi hij hj=>?_
 by_cases c1:j<m
 ·rw[ee i (by omega),ee j c1]
  exact swo64.ntrans _ _ _ (nl4 j (by omega) hj) (hP.lo i hi (by omega))
 ·by_cases c2:i<m
  ·rw[ee i c2]
   exact no _ _ (hie j (by omega) hj) (hP.lo i hi c2)
  ·exact h2 i j (by omega) hij hj
end Go.Proofs.YtekeaodpdcnfjaaGreatDoor
namespace Go.Proofs.YtekeaodpdcnfjaaGreatDoor
open Go.RowKit Go.Maps
def RowI (w:World) (e:TypeId) (g:Nat) (cur:List Int):Prop:=w.heap[g]? = some (.cells (cur.map (Value.int .i64)).toArray e (0,0))
theorem RowI.lt{w:World}{e:TypeId}{g:Nat}{cur:List Int}(h:RowI w e g cur):g<w.heap.size:=(Array.getElem?_eq_some_iff.1 h).1
theorem RowI.cell{w:World}{e:TypeId}{g:Nat}{cur:List Int}(h:RowI w e g cur){i:Nat}(hi:i<cur.length):w.cell? ⟨g,i,none⟩=some (.int .i64 (cur.getD i 0)):=by
 unfold RowI at h;simp[World.cell?,h,List.getD_eq_getElem?_getD,List.getElem?_eq_getElem hi]
theorem RowI.frozen{w:World}{e:TypeId}{g:Nat}{cur:List Int}(h:RowI w e g cur)(i:Nat):w.frozen? ⟨g,i,none⟩=false:=frozen_of_row w g i _ e h
theorem RowI.set{w:World}{e:TypeId}{g:Nat}{cur:List Int}(h:RowI w e g cur)(i:Nat)(x:Int):RowI (w.setCell ⟨g,i,none⟩ (.int .i64 x)) e g (cur.set i x):=by
 have:=heap_setCell_same w g i _ e (.int .i64 x) h
 unfold RowI;rw[this];simp[List.map_set]
theorem madeI(n:Nat):madeCells #[.int .i64 0] n=((List.replicate n (0:Int)).map (Value.int .i64)).toArray:=by
 apply Array.ext_getElem?
 intro i
 by_cases h:i<n
 ·simp[madeCells,h,Nat.mod_one]
 ·simp[madeCells,h]
theorem q8J:(Tryz.prog.info? 3).map (fun i=>(i.zero,i.size,i.bytes))=some (some (.int .i64 0),1,8):=by kernel_rfl
theorem q8l(l:Nat)(hb:l≤1000000)(w:World) :
  (Instr.makeSlice 27 (.int .i64 (l:Int)) (.int .i64 (l:Int))).run Tryz.prog w=.ok (.slice (some ⟨w.heap.size,0,none⟩) l l) (w.alloc (.cells (madeCells #[.int .i64 0] l) 3)):=by
 obtain ⟨i,hi,hz0,hz1,hz2⟩:=info_parts q8J
 have:=run_make (P:=Tryz.prog) w 27 3 i (.int .i64 0) Tryz.underlying27 hi hz0 .i64 .i64 (l:Int) (l:Int) (by omega) (by omega) (by rw[hz2];omega) (by omega)
 rw[this,hz1]
 simp only[Int.toNat_natCast,Nat.mul_one]
 rfl
structure LtSl (w:World) (a:Option Addr) (len cap:Nat) (zs:List Int):Prop where
 sl:IntSl Tryz.prog 23 .u8 w a len cap zs
 ok:∀ z∈zs,0≤z∧z<256
theorem LtSl.up{w w':World}{a:Option Addr}{len cap:Nat}{zs:List Int}(h:LtSl w a len cap zs)(hb:Below w.heap.size w w'):LtSl w' a len cap zs:=⟨h.sl.up hb,h.ok⟩
def zN (zs:List Int):List Nat:=zs.map Int.toNat
theorem q9h{ts:List Tk}(hl:ts.length≤2048)(h:¬ IsKer ts):chkE ts=7:=by
 unfold chkE
 rw[if_neg (by omega),if_neg h]
end Go.Proofs.YtekeaodpdcnfjaaGreatDoor
