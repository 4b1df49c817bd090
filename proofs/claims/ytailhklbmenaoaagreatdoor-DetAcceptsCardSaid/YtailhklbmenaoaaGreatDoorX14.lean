/- Texts of the proof, put together: what it uses. -/
import Derived.Test.YtailhklbmenaoaaGreatDoorX05
set_option maxRecDepth 100000
set_option maxHeartbeats 16000000
namespace Go.Proofs.YtailhklbmenaoaaGreatDoor
open Go.RowKit Go.Maps
theorem qdp(z:Int)(w:World)(h0:0<=z)(h1:z<256):Calls Tryz.prog 24 #[.int .i64 8,.int .u8 z] w fun e w'=>e=.returned (.bool true)/\w'=w:=by
 have hz:z / 256=0:=by omega
 go_enter Tryz.func24,Tryz.ntmps24
 go_wp2;go_ret
 exact⟨by simp,rfl⟩
theorem q7S(d:Option Addr)(m c:Nat)(zs:List Int)(w:World)(hL:LtSl w d m c zs):
  Calls Tryz.prog 7 #[.int .i64 8,.slice d m c] w fun e w'=>e=.returned (.int .i64 (trE zs))/\Below w.heap.size w w':=by
 have hlen:=hL.sl.hlen;have hb0:=hL.sl.bd;have hb1:=hL.sl.hcap;unfold maxLen at hb0;have HL:=hiq hL;clear hL;by_cases hm:1024<m
 ·have HE:Hid (trE zs=3):=if_pos (by omega)
  have hmi:(1024:Int)<(m:Int):=by omega
  go_enter Tryz.func7,Tryz.ntmps7
  go_wp2;go_ret
  exact⟨by rw[HE.out];rfl,Below.refl _ _⟩
 ·have HE:Hid (trE zs=0):=if_neg (by omega)
  have hmi:¬(1024:Int)<(m:Int):=by omega
  go_enter Tryz.func7,Tryz.ntmps7
  go_wp2
  go_loopw [15] (fun i wr=>∃k:Nat,k<=m/\i=.int .i64 k/\Hid (Below w.heap.size w wr)) (fun i _=>m-(intOf i).toNat)
  case atStart=>exact⟨0,Nat.zero_le _,rfl,Below.refl _ _⟩
  case round=>
   obtain⟨k,hk,rfl,HW⟩:=hrel;by_cases hlt:k<m
   ·have hLr:=HL.out.up HW.out
    have hi1:=fun w'=>hLr.sl.idx m k w' hlt nlr
    have hc1:=hLr.sl.cell k hlt
    have hzz:0<=zs.getD k 0/\zs.getD k 0<256:=by
     have:zs.getD k 0=zs[k]'(by omega):=by simp[List.getD_eq_getElem?_getD,show k<zs.length by omega]
     rw[this];exact hLr.ok _ (List.getElem_mem _)
    have hft:=qdp (zs.getD k 0) wr hzz.1 hzz.2;generalize zs.getD k 0=z at *;clear hLr hzz
    go_wp2_with fail
    refine hft.mono ?_
    rintro e w2 ⟨rfl,rfl⟩
    go_wp2
    go_roundw
    case rel=>exact⟨k+1,by omega,by go_num,HW⟩
    case measure=>simp[intOf]<;>omega
   ·obtain rfl:k=m:=by omega
    go_wp2;go_ret
    exact⟨by rw[HE.out];rfl,HW.out⟩
end Go.Proofs.YtailhklbmenaoaaGreatDoor
