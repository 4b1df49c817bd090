import Derived.BigRegion
import Derived.Test.YtoioiellaomonaaGreatDoorZ03
import Derived.Test.YtoioiellaomonaaGreatDoorZ13
import Derived.Test.YtoioiellaomonaaGreatDoorZ14
set_option maxRecDepth 100000
set_option maxHeartbeats 16000000
namespace Go.Proofs.YtoioiellaomonaaGreatDoor
open Go.RowKit Go.Maps Proofs.Tryz
variable {w wr w':World}{v:Value}{ge ec gr:Nat}{c:Bool}{T:Tr}
structure o9(w wr:World)(v:Value)(ge ec gr:Nat)(c:Bool):Prop where
 val:v=.slice (some ⟨ge,0,none⟩) 1 ec
 cell:wr.cell? ⟨ge,0,none⟩=some (.slice (some ⟨gr,0,none⟩) 1 1)
 row:aN wr gr [c]
 lo:w.heap.size<ge
 lo':w.heap.size<gr
 ne:gr≠ge
theorem o9.next(h:o9 w wr v ge ec gr c)(hb:Below wr.heap.size wr w'):o9 w w' v ge ec gr c:=⟨h.val,qf h.cell hb,h.row.up hb,h.lo,h.lo',h.ne⟩
theorem o9.put(h:o9 w wr v ge ec gr c)(b:Bool):o9 w (wr.setCell ⟨gr,0,none⟩ (.bool b)) v ge ec gr b:=⟨h.val,(JX h.ne).trans h.cell,h.row.set1 b,h.lo,h.lo',h.ne⟩
theorem o9.made(hw:w.heap.size<wr.heap.size)(ho:w'.ownsRow (w.heap.size+1) 66 1 v 1 [.slice (some ⟨wr.heap.size,0,none⟩) 1 1])(hg:((wr.alloc (.cells #[.bool false] 4)).alloc (.cells #[.slice (some ⟨wr.heap.size,0,none⟩) 1 1] 66)).grownBy w' none):(∃ge ec gr,o9 w w' v ge ec gr false)/\Below wr.heap.size wr w':=by
 have hb:Below wr.heap.size wr w':=((qd wr _).trans ((qd _ _).mono (by simp))).grown hg (by simp;omega) (fun j e=>by cases e)
 have hb2:Below (wr.alloc (.cells #[.bool false] 4)).heap.size (wr.alloc (.cells #[.bool false] 4)) w':=(qd _ _).grown hg (by simp) (fun j e=>by cases e)
 have hr:aN w' wr.heap.size [false]:=(aN.made wr 1).up hb2;obtain⟨hl,h⟩:=ho;rcases h with⟨_,h0⟩|⟨g,cap,cur,rfl,hgg,hcell,hnc,hcm,hsz,htk⟩
 ·exact absurd h0 (by decide)
 ·refine⟨⟨g,cap,wr.heap.size,rfl,?_,hr,by omega,hw,fun e=>?_⟩,hb⟩
  ·have e1:(cur.toList.take (1*1))[0]? =some (.slice (some ⟨wr.heap.size,0,none⟩) 1 1):=by rw[htk];simp
   rw[List.getElem?_take,if_pos (by omega)]at e1
   simp[World.cell?,hcell]
   simpa using e1
  ·unfold aN at hr
   rw[e,hcell]at hr;injection hr with hr;injection hr with _ hr _
   exact absurd hr (by decide)
theorem kV.set{op p M g:Nat}{u:Value}(h:kV w wr op p M u)(hg:w.heap.size<g)(i:Nat)(v:Value):kV w (wr.setCell ⟨g,i,none⟩ v) op p M u:=⟨by rw[heap_setCell_other _ _ _ _ (by dsimp only;omega)];exact h.box,h.ups.setCell (by dsimp only;omega) _⟩
theorem qdJ(x:Nat)(c:Tr)(A:Nat->Bool)(hc:AY 0 none 0 x c A):BM 0 none 0 x (.un (19,0) c) (false):=by
 intro u w hu hl;obtain⟨g,cap,u',rfl,hnd,hst⟩:=hu;obtain⟨ua,um,uc,rfl⟩:=hst.sl
 show Calls prog 116 #[.agg #[.int .u8 19,.int .u8 0,(.slice (some ⟨g,0,none⟩) 1 cap)],.slice none 0 0] w (uF (false) w)
 have ny:∀w',Below w.heap.size w w'->Calls prog 91 #[aK (ak c) (.slice ua um uc),.slice none 0 0] w' (rG 1 A w'):=fun w' hb=>hc _ w' (hst.up hb) (.inl ⟨rfl,rfl,rfl⟩)
 have sZ:Hid (∀w',Below w.heap.size w w'->bJ w' g 0 (ak c) (.slice ua um uc)):=fun w' hb=>hnd.up hb
 have hix:=fun w'=>qm g 1 cap w' (by omega)
 clear hc hst hnd hl;unfold aK rG zx at ny;generalize ak c=rk at *;obtain⟨ro,rp⟩:=rk;dsimp only at ny
 have yu:Hid _:=ny;clear ny;have uh:Hid (∀w',eY w' 0 none 0 x):=fun w'=>.inl ⟨rfl,rfl,rfl⟩
 have HV:Hid (kV w (w.alloc (.cells #[.int .u8 (19:Nat),.int .u8 (0:Nat),(.slice (some ⟨g,0,none⟩) 1 cap)] 77)) 19 0 0 (.slice (some ⟨g,0,none⟩) 1 cap)):=⟨(MapKept.heap_alloc w _).1,qd w _⟩;have HZ:Hid (w.heap.size<(w.alloc (.cells #[.int .u8 (19:Nat),.int .u8 (0:Nat),(.slice (some ⟨g,0,none⟩) 1 cap)] 77)).heap.size):=by show _<_;simp
 unfold uF;rw[show ((19:Nat):Int)=19 from rfl,show ((0:Nat):Int)=0 from rfl]at *;go_enter func116,ntmps116
 go_wp2;generalize w.alloc (.cells #[.int .u8 19,.int .u8 0,(.slice (some ⟨g,0,none⟩) 1 cap)] 77)=w0 at *
 go_loopw [6,7] (fun v i wr=>∃k:Nat,k<=1/\i=.int .i64 k/\Hid (kV w wr 19 0 0 (.slice (some ⟨g,0,none⟩) 1 cap))/\Hid (w.heap.size<wr.heap.size)/\Hid (k=0->v=.slice none 0 0)/\Hid (k=1->∃ge ec gr,o9 w wr v ge ec gr false)) (fun _ i _=>1-(intOf i).toNat)
 case atStart=>exact⟨0,Nat.zero_le _,rfl,HV,HZ,fun _=>rfl,fun h=>absurd h (by decide)⟩
 case round=>
  obtain⟨k,hk,rfl,kD,wz,H0,H1⟩:=hrel;clear HV HZ;by_cases hlt:k<1
  ·obtain rfl:k=0:=by omega
   obtain rfl:=H0.out rfl
   have hm:=MV wr;have hcl:((wr.alloc (.cells #[.bool false] 4)).alloc (.cells #[.slice (some ⟨wr.heap.size,0,none⟩) 1 1] 66)).cell? ⟨wr.heap.size+1,0,none⟩=some (.slice (some ⟨wr.heap.size,0,none⟩) 1 1):=by simp
   have HB:Hid (w.heap.size+1<=((wr.alloc (.cells #[.bool false] 4)).alloc (.cells #[.slice (some ⟨wr.heap.size,0,none⟩) 1 1] 66)).heap.size):=by have:=wz.out;show _<=_;simp;omega
   have dL:Hid _:=hcl;clear H0 H1 hcl
   go_wp2_with (at_builtin;refine QB rfl _ _ rfl (w.heap.size+1) _ 0 [] rfl ⟨rfl,Or.inl ⟨rfl,rfl⟩⟩ (wr.heap.size+1) (some ⟨wr.heap.size,0,none⟩) 1 1 rfl dL.out (by omega) HB.out ?_)
   intro v' w' ho hg;obtain⟨hy,hb⟩:=o9.made wz.out ho hg;have HY:Hid _:=hy;have rH:Hid _:=kD.out.next hb;have F9:Hid (w.heap.size<w'.heap.size):=Nat.lt_of_lt_of_le wz.out hb.size;clear ho hg hy hb hm;go_wp2
   go_roundw
   case rel=>exact⟨1,by omega,by go_num,rH,F9,fun h=>absurd h (by decide),fun _=>HY.out⟩
   case measure=>simp[intOf]
  ·obtain rfl:k=1:=by omega
   obtain⟨ge,ec,gr,hy⟩:=H1.out rfl;obtain rfl:=hy.val
   have HY:=aX hy;obtain⟨k0,k1,k2⟩:=kD.out.cells;rw[show ((19:Nat):Int)=19 from rfl,show ((0:Nat):Int)=0 from rfl]at *;clear H0 H1 hy;have jc:=yu.out _ kD.out.ups;obtain⟨n0,n1,n2⟩:=sZ.out _ kD.out.ups;dsimp only at n0 n1 n2
   clear yu sZ
   go_wp2_with fail
   (with_reducible refine jc.mono ?_)
   rintro e w2 ⟨ga,rfl,ha,hb,hge⟩
   have oK:Hid _:=HY.out.next hb;have jK:Hid _:=kD.out.next hb;have HA2:=aX ha;have HG2:Hid (ga≠gr):=by have:=HY.out.row.lt;show _≠_;omega
   clear jc k0 k1 k2 n0 n1 n2 ha hb hge HY kD;go_wp2
   go_loopw [9] (fun i wr=>i=.int .i64 0/\wr=w2) (fun _ _=>0)
   case atStart=>exact⟨rfl,rfl⟩
   case round=>
    obtain⟨rfl,rfl⟩:=hrel;go_wp2;go_ret
    first|exact⟨ge,ec,gr,rfl,oK.out.cell,oK.out.row,jK.out.ups,Nat.le_of_lt oK.out.lo,Nat.le_of_lt oK.out.lo'⟩|exact⟨ge,⟨ec,rfl⟩,gr,oK.out.cell,oK.out.row,jK.out.ups,Nat.le_of_lt oK.out.lo,Nat.le_of_lt oK.out.lo'⟩
theorem qdK(x:Nat)(c:Tr)(A:Nat->Bool)(hc:AY 0 none 0 x c A):BM 0 none 0 x (.un (20,0) c) (A 0):=by
 intro u w hu hl;obtain⟨g,cap,u',rfl,hnd,hst⟩:=hu;obtain⟨ua,um,uc,rfl⟩:=hst.sl
 show Calls prog 116 #[.agg #[.int .u8 20,.int .u8 0,(.slice (some ⟨g,0,none⟩) 1 cap)],.slice none 0 0] w (uF (A 0) w)
 have ny:∀w',Below w.heap.size w w'->Calls prog 91 #[aK (ak c) (.slice ua um uc),.slice none 0 0] w' (rG 1 A w'):=fun w' hb=>hc _ w' (hst.up hb) (.inl ⟨rfl,rfl,rfl⟩)
 have sZ:Hid (∀w',Below w.heap.size w w'->bJ w' g 0 (ak c) (.slice ua um uc)):=fun w' hb=>hnd.up hb
 have hix:=fun w'=>qm g 1 cap w' (by omega)
 clear hc hst hnd hl;unfold aK rG zx at ny;generalize ak c=rk at *;obtain⟨ro,rp⟩:=rk;dsimp only at ny
 have yu:Hid _:=ny;clear ny;have uh:Hid (∀w',eY w' 0 none 0 x):=fun w'=>.inl ⟨rfl,rfl,rfl⟩
 have HV:Hid (kV w (w.alloc (.cells #[.int .u8 (20:Nat),.int .u8 (0:Nat),(.slice (some ⟨g,0,none⟩) 1 cap)] 77)) 20 0 0 (.slice (some ⟨g,0,none⟩) 1 cap)):=⟨(MapKept.heap_alloc w _).1,qd w _⟩;have HZ:Hid (w.heap.size<(w.alloc (.cells #[.int .u8 (20:Nat),.int .u8 (0:Nat),(.slice (some ⟨g,0,none⟩) 1 cap)] 77)).heap.size):=by show _<_;simp
 unfold uF;rw[show ((20:Nat):Int)=20 from rfl,show ((0:Nat):Int)=0 from rfl]at *;go_enter func116,ntmps116
 go_wp2;generalize w.alloc (.cells #[.int .u8 20,.int .u8 0,(.slice (some ⟨g,0,none⟩) 1 cap)] 77)=w0 at *
 go_loopw [6,7] (fun v i wr=>∃k:Nat,k<=1/\i=.int .i64 k/\Hid (kV w wr 20 0 0 (.slice (some ⟨g,0,none⟩) 1 cap))/\Hid (w.heap.size<wr.heap.size)/\Hid (k=0->v=.slice none 0 0)/\Hid (k=1->∃ge ec gr,o9 w wr v ge ec gr false)) (fun _ i _=>1-(intOf i).toNat)
 case atStart=>exact⟨0,Nat.zero_le _,rfl,HV,HZ,fun _=>rfl,fun h=>absurd h (by decide)⟩
 case round=>
  obtain⟨k,hk,rfl,kD,wz,H0,H1⟩:=hrel;clear HV HZ;by_cases hlt:k<1
  ·obtain rfl:k=0:=by omega
   obtain rfl:=H0.out rfl
   have hm:=MV wr;have hcl:((wr.alloc (.cells #[.bool false] 4)).alloc (.cells #[.slice (some ⟨wr.heap.size,0,none⟩) 1 1] 66)).cell? ⟨wr.heap.size+1,0,none⟩=some (.slice (some ⟨wr.heap.size,0,none⟩) 1 1):=by simp
   have HB:Hid (w.heap.size+1<=((wr.alloc (.cells #[.bool false] 4)).alloc (.cells #[.slice (some ⟨wr.heap.size,0,none⟩) 1 1] 66)).heap.size):=by have:=wz.out;show _<=_;simp;omega
   have dL:Hid _:=hcl;clear H0 H1 hcl
   go_wp2_with (at_builtin;refine QB rfl _ _ rfl (w.heap.size+1) _ 0 [] rfl ⟨rfl,Or.inl ⟨rfl,rfl⟩⟩ (wr.heap.size+1) (some ⟨wr.heap.size,0,none⟩) 1 1 rfl dL.out (by omega) HB.out ?_)
   intro v' w' ho hg;obtain⟨hy,hb⟩:=o9.made wz.out ho hg;have HY:Hid _:=hy;have rH:Hid _:=kD.out.next hb;have F9:Hid (w.heap.size<w'.heap.size):=Nat.lt_of_lt_of_le wz.out hb.size;clear ho hg hy hb hm;go_wp2
   go_roundw
   case rel=>exact⟨1,by omega,by go_num,rH,F9,fun h=>absurd h (by decide),fun _=>HY.out⟩
   case measure=>simp[intOf]
  ·obtain rfl:k=1:=by omega
   obtain⟨ge,ec,gr,hy⟩:=H1.out rfl;obtain rfl:=hy.val
   have HY:=aX hy;obtain⟨k0,k1,k2⟩:=kD.out.cells;rw[show ((20:Nat):Int)=20 from rfl,show ((0:Nat):Int)=0 from rfl]at *;clear H0 H1 hy;have jc:=yu.out _ kD.out.ups;obtain⟨n0,n1,n2⟩:=sZ.out _ kD.out.ups;dsimp only at n0 n1 n2
   clear yu sZ
   go_wp2_with fail
   (with_reducible refine jc.mono ?_)
   rintro e w2 ⟨ga,rfl,ha,hb,hge⟩
   have oK:Hid _:=HY.out.next hb;have jK:Hid _:=kD.out.next hb;have HA2:=aX ha;have HG2:Hid (ga≠gr):=by have:=HY.out.row.lt;show _≠_;omega
   clear jc k0 k1 k2 n0 n1 n2 ha hb hge HY kD;go_wp2
   go_loopw [11] (fun i wr=>∃k:Nat,k<=1/\i=.int .i64 k/\Hid (kV w wr 20 0 0 (.slice (some ⟨g,0,none⟩) 1 cap))/\Hid (aN wr ga [A 0])/\Hid (∃b,o9 w wr (.slice (some ⟨ge,0,none⟩) 1 ec) ge ec gr b/\(k=1->b=A 0))) (fun i _=>1-(intOf i).toNat)
   case atStart=>exact⟨0,Nat.zero_le _,rfl,jK,HA2,_,oK.out,fun h=>absurd h (by decide)⟩
   case round=>
    obtain⟨k,hk,rfl,yw,DJ,HX⟩:=hrel;obtain⟨b,hy,hbk⟩:=HX.out;by_cases hlt:k<1
    ·obtain rfl:k=0:=by omega
     have c1:=hy.cell;have c2:=hy.row.cell1;have fz:=hy.row.fz 0;have c3:=DJ.out.cell1;have i1:=fun w'=>Dz ge ec w'
     have i2:=fun w'=>qr gr w'
     have i3:=fun w'=>qr ga w'
     have QC:Hid (o9 w (wr.setCell ⟨gr,0,none⟩ (.bool (A 0))) (.slice (some ⟨ge,0,none⟩) 1 ec) ge ec gr (A 0)):=hy.put (A 0);have AZ:Hid (aN (wr.setCell ⟨gr,0,none⟩ (.bool (A 0))) ga [A 0]):=DJ.out.off HG2.out.symm;have rH:Hid (kV w (wr.setCell ⟨gr,0,none⟩ (.bool (A 0))) 20 0 0 (.slice (some ⟨g,0,none⟩) 1 cap)):=yw.out.set hy.lo' 0 _;clear hy hbk HX oK jK HA2;generalize A 0=z at *
     go_wp2_with fail
     go_region
     all_goals
      go_wp2
      go_roundw
      case rel=>exact⟨1,by omega,by go_num,rH.out.next (Below.refl _ _).drew,AZ.out.up (Below.refl _ _).drew,_,QC.out.next (Below.refl _ _).drew,fun _=>rfl⟩
      case measure=>simp[intOf]
    ·obtain rfl:k=1:=by omega
     obtain rfl:=hbk rfl
     have tu:Hid _:=hy;clear hy;go_wp2;go_ret
     first|exact⟨ge,ec,gr,rfl,tu.out.cell,tu.out.row,yw.out.ups,Nat.le_of_lt tu.out.lo,Nat.le_of_lt tu.out.lo'⟩|exact⟨ge,⟨ec,rfl⟩,gr,tu.out.cell,tu.out.row,yw.out.ups,Nat.le_of_lt tu.out.lo,Nat.le_of_lt tu.out.lo'⟩
theorem qdN(x:Nat)(c:Tr)(A:Bool)(hc:BM 0 none 0 x c A):BM 0 none 0 x (.un (23,0) c) (true):=by
 intro u w hu hl;obtain⟨g,cap,u',rfl,hnd,hst⟩:=hu;obtain⟨ua,um,uc,rfl⟩:=hst.sl
 show Calls prog 116 #[.agg #[.int .u8 23,.int .u8 0,(.slice (some ⟨g,0,none⟩) 1 cap)],.slice none 0 0] w (uF (true) w)
 have ny:∀w',Below w.heap.size w w'->Calls prog 116 #[aK (ak c) (.slice ua um uc),.slice none 0 0] w' (uF A w'):=fun w' hb=>hc _ w' (hst.up hb) (.inl ⟨rfl,rfl,rfl⟩)
 have sZ:Hid (∀w',Below w.heap.size w w'->bJ w' g 0 (ak c) (.slice ua um uc)):=fun w' hb=>hnd.up hb
 have hix:=fun w'=>qm g 1 cap w' (by omega)
 clear hc hst hnd hl;unfold aK uF at ny;generalize ak c=rk at *;obtain⟨ro,rp⟩:=rk;dsimp only at ny
 have yu:Hid _:=ny;clear ny;have uh:Hid (∀w',eY w' 0 none 0 x):=fun w'=>.inl ⟨rfl,rfl,rfl⟩
 have HV:Hid (kV w (w.alloc (.cells #[.int .u8 (23:Nat),.int .u8 (0:Nat),(.slice (some ⟨g,0,none⟩) 1 cap)] 77)) 23 0 0 (.slice (some ⟨g,0,none⟩) 1 cap)):=⟨(MapKept.heap_alloc w _).1,qd w _⟩;have HZ:Hid (w.heap.size<(w.alloc (.cells #[.int .u8 (23:Nat),.int .u8 (0:Nat),(.slice (some ⟨g,0,none⟩) 1 cap)] 77)).heap.size):=by show _<_;simp
 unfold uF;rw[show ((23:Nat):Int)=23 from rfl,show ((0:Nat):Int)=0 from rfl]at *;go_enter func116,ntmps116
 go_wp2;generalize w.alloc (.cells #[.int .u8 23,.int .u8 0,(.slice (some ⟨g,0,none⟩) 1 cap)] 77)=w0 at *
 go_loopw [6,7] (fun v i wr=>∃k:Nat,k<=1/\i=.int .i64 k/\Hid (kV w wr 23 0 0 (.slice (some ⟨g,0,none⟩) 1 cap))/\Hid (w.heap.size<wr.heap.size)/\Hid (k=0->v=.slice none 0 0)/\Hid (k=1->∃ge ec gr,o9 w wr v ge ec gr false)) (fun _ i _=>1-(intOf i).toNat)
 case atStart=>exact⟨0,Nat.zero_le _,rfl,HV,HZ,fun _=>rfl,fun h=>absurd h (by decide)⟩
 case round=>
  obtain⟨k,hk,rfl,kD,wz,H0,H1⟩:=hrel;clear HV HZ;by_cases hlt:k<1
  ·obtain rfl:k=0:=by omega
   obtain rfl:=H0.out rfl
   have hm:=MV wr;have hcl:((wr.alloc (.cells #[.bool false] 4)).alloc (.cells #[.slice (some ⟨wr.heap.size,0,none⟩) 1 1] 66)).cell? ⟨wr.heap.size+1,0,none⟩=some (.slice (some ⟨wr.heap.size,0,none⟩) 1 1):=by simp
   have HB:Hid (w.heap.size+1<=((wr.alloc (.cells #[.bool false] 4)).alloc (.cells #[.slice (some ⟨wr.heap.size,0,none⟩) 1 1] 66)).heap.size):=by have:=wz.out;show _<=_;simp;omega
   have dL:Hid _:=hcl;clear H0 H1 hcl
   go_wp2_with (at_builtin;refine QB rfl _ _ rfl (w.heap.size+1) _ 0 [] rfl ⟨rfl,Or.inl ⟨rfl,rfl⟩⟩ (wr.heap.size+1) (some ⟨wr.heap.size,0,none⟩) 1 1 rfl dL.out (by omega) HB.out ?_)
   intro v' w' ho hg;obtain⟨hy,hb⟩:=o9.made wz.out ho hg;have HY:Hid _:=hy;have rH:Hid _:=kD.out.next hb;have F9:Hid (w.heap.size<w'.heap.size):=Nat.lt_of_lt_of_le wz.out hb.size;clear ho hg hy hb hm;go_wp2
   go_roundw
   case rel=>exact⟨1,by omega,by go_num,rH,F9,fun h=>absurd h (by decide),fun _=>HY.out⟩
   case measure=>simp[intOf]
  ·obtain rfl:k=1:=by omega
   obtain⟨ge,ec,gr,hy⟩:=H1.out rfl;obtain rfl:=hy.val
   have HY:=aX hy;obtain⟨k0,k1,k2⟩:=kD.out.cells;rw[show ((23:Nat):Int)=23 from rfl,show ((0:Nat):Int)=0 from rfl]at *;clear H0 H1 hy;have jc:=yu.out _ kD.out.ups;obtain⟨n0,n1,n2⟩:=sZ.out _ kD.out.ups;dsimp only at n0 n1 n2
   clear yu sZ
   go_wp2_with fail
   (with_reducible refine jc.mono ?_)
   rintro e w2 ⟨uG,QD,nC,rfl,hx2,ha,hb,hge,hgr⟩
   have oK:Hid _:=HY.out.next hb;have jK:Hid _:=kD.out.next hb;have HA2:Hid (w2.cell? ⟨uG,0,none⟩=some (.slice (some ⟨nC,0,none⟩) 1 1)/\aN w2 nC [A]):=⟨hx2,ha⟩;have HG2:Hid (uG≠gr/\nC≠gr):=by have:=HY.out.row.lt;exact⟨by omega,by omega⟩
   clear jc k0 k1 k2 n0 n1 n2 ha hb hge hgr hx2 HY kD;obtain⟨k0,k1,k2⟩:=jK.out.cells;rw[show ((23:Nat):Int)=23 from rfl,show ((0:Nat):Int)=0 from rfl]at *;go_wp2;clear k0 k1 k2
   go_loopw [13] (fun i wr=>∃k:Nat,k<=1/\i=.int .i64 k/\Hid (kV w wr 23 0 0 (.slice (some ⟨g,0,none⟩) 1 cap))/\Hid (wr.cell? ⟨uG,0,none⟩=some (.slice (some ⟨nC,0,none⟩) 1 1)/\aN wr nC [A])/\Hid (∃b,o9 w wr (.slice (some ⟨ge,0,none⟩) 1 ec) ge ec gr b/\(k=1->b=true))) (fun i _=>1-(intOf i).toNat)
   case atStart=>exact⟨0,Nat.zero_le _,rfl,jK,HA2,_,oK.out,fun h=>absurd h (by decide)⟩
   case round=>
    obtain⟨k,hk,rfl,yw,DJ,HX⟩:=hrel;obtain⟨b,hy,hbk⟩:=HX.out;by_cases hlt:k<1
    ·obtain rfl:k=0:=by omega
     have c1:=hy.cell;have c2:=hy.row.cell1;have fz:=hy.row.fz 0;have i1:=fun w'=>Dz ge ec w'
     have i2:=fun w'=>qr gr w'
     have QC:Hid (o9 w (wr.setCell ⟨gr,0,none⟩ (.bool true)) (.slice (some ⟨ge,0,none⟩) 1 ec) ge ec gr true):=hy.put true;have AZ:Hid ((wr.setCell ⟨gr,0,none⟩ (.bool true)).cell? ⟨uG,0,none⟩=some (.slice (some ⟨nC,0,none⟩) 1 1)/\aN (wr.setCell ⟨gr,0,none⟩ (.bool true)) nC [A]):=⟨(JX HG2.out.1.symm).trans DJ.out.1,DJ.out.2.off HG2.out.2.symm⟩;have rH:Hid (kV w (wr.setCell ⟨gr,0,none⟩ (.bool true)) 23 0 0 (.slice (some ⟨g,0,none⟩) 1 cap)):=yw.out.set hy.lo' 0 _;have jr:=qcf gr uG QD nC A _ QC.out.row AZ.out.1 AZ.out.2;have c3:=QC.out.cell;clear hy hbk HX oK jK HA2
     go_wp2_with fail
     (with_reducible refine jr.mono ?_)
     rintro e w3 ⟨rfl,rfl⟩
     go_wp2
     go_roundw
     case rel=>exact⟨1,by omega,by go_num,rH,AZ,_,QC.out,fun _=>rfl⟩
     case measure=>simp[intOf]
    ·obtain rfl:k=1:=by omega
     obtain rfl:=hbk rfl
     have tu:Hid _:=hy;clear hy;go_wp2;go_ret
     first|exact⟨ge,ec,gr,rfl,tu.out.cell,tu.out.row,yw.out.ups,Nat.le_of_lt tu.out.lo,Nat.le_of_lt tu.out.lo'⟩|exact⟨ge,⟨ec,rfl⟩,gr,tu.out.cell,tu.out.row,yw.out.ups,Nat.le_of_lt tu.out.lo,Nat.le_of_lt tu.out.lo'⟩
theorem qdL(x:Nat)(c d:Tr)(A B:Bool)(hc:BM 0 none 0 x c A)(hd:BM 0 none 0 x d B):BM 0 none 0 x (.bin (21,0) c d) (A || B):=by
 intro u w hu hl;obtain⟨g,cap,u',u'',rfl,hnd,hnd',hst,hst'⟩:=hu;obtain⟨ua,um,uc,rfl⟩:=hst.sl;obtain⟨va,vm,vc,rfl⟩:=hst'.sl
 show Calls prog 116 #[.agg #[.int .u8 21,.int .u8 0,(.slice (some ⟨g,0,none⟩) 2 cap)],.slice none 0 0] w (uF (A || B) w)
 have ny:∀w',Below w.heap.size w w'->Calls prog 116 #[aK (ak c) (.slice ua um uc),.slice none 0 0] w' (uF A w'):=fun w' hb=>hc _ w' (hst.up hb) (.inl ⟨rfl,rfl,rfl⟩)
 have pK:∀w',Below w.heap.size w w'->Calls prog 116 #[aK (ak d) (.slice va vm vc),.slice none 0 0] w' (uF B w'):=fun w' hb=>hd _ w' (hst'.up hb) (.inl ⟨rfl,rfl,rfl⟩)
 have sZ:Hid (∀w',Below w.heap.size w w'->bJ w' g 0 (ak c) (.slice ua um uc)):=fun w' hb=>hnd.up hb
 have tq:Hid (∀w',Below w.heap.size w w'->bJ w' g 3 (ak d) (.slice va vm vc)):=fun w' hb=>hnd'.up hb
 have hix:=fun w'=>qm g 2 cap w' (by omega)
 have hix':=fun w'=>qE g 2 cap w' (by omega)
 clear hc hst hnd hl hd hst' hnd';unfold aK uF at ny pK;generalize ak c=rk at *;obtain⟨ro,rp⟩:=rk;generalize ak d=sk at *;obtain⟨so,sp⟩:=sk;dsimp only at ny pK
 have yu:Hid _:=ny;have yN:Hid _:=pK;clear ny pK;have uh:Hid (∀w',eY w' 0 none 0 x):=fun w'=>.inl ⟨rfl,rfl,rfl⟩
 have HV:Hid (kV w (w.alloc (.cells #[.int .u8 (21:Nat),.int .u8 (0:Nat),(.slice (some ⟨g,0,none⟩) 2 cap)] 77)) 21 0 0 (.slice (some ⟨g,0,none⟩) 2 cap)):=⟨(MapKept.heap_alloc w _).1,qd w _⟩;have HZ:Hid (w.heap.size<(w.alloc (.cells #[.int .u8 (21:Nat),.int .u8 (0:Nat),(.slice (some ⟨g,0,none⟩) 2 cap)] 77)).heap.size):=by show _<_;simp
 unfold uF;rw[show ((21:Nat):Int)=21 from rfl,show ((0:Nat):Int)=0 from rfl]at *;go_enter func116,ntmps116
 go_wp2;generalize w.alloc (.cells #[.int .u8 21,.int .u8 0,(.slice (some ⟨g,0,none⟩) 2 cap)] 77)=w0 at *
 go_loopw [6,7] (fun v i wr=>∃k:Nat,k<=1/\i=.int .i64 k/\Hid (kV w wr 21 0 0 (.slice (some ⟨g,0,none⟩) 2 cap))/\Hid (w.heap.size<wr.heap.size)/\Hid (k=0->v=.slice none 0 0)/\Hid (k=1->∃ge ec gr,o9 w wr v ge ec gr false)) (fun _ i _=>1-(intOf i).toNat)
 case atStart=>exact⟨0,Nat.zero_le _,rfl,HV,HZ,fun _=>rfl,fun h=>absurd h (by decide)⟩
 case round=>
  obtain⟨k,hk,rfl,kD,wz,H0,H1⟩:=hrel;clear HV HZ;by_cases hlt:k<1
  ·obtain rfl:k=0:=by omega
   obtain rfl:=H0.out rfl
   have hm:=MV wr;have hcl:((wr.alloc (.cells #[.bool false] 4)).alloc (.cells #[.slice (some ⟨wr.heap.size,0,none⟩) 1 1] 66)).cell? ⟨wr.heap.size+1,0,none⟩=some (.slice (some ⟨wr.heap.size,0,none⟩) 1 1):=by simp
   have HB:Hid (w.heap.size+1<=((wr.alloc (.cells #[.bool false] 4)).alloc (.cells #[.slice (some ⟨wr.heap.size,0,none⟩) 1 1] 66)).heap.size):=by have:=wz.out;show _<=_;simp;omega
   have dL:Hid _:=hcl;clear H0 H1 hcl
   go_wp2_with (at_builtin;refine QB rfl _ _ rfl (w.heap.size+1) _ 0 [] rfl ⟨rfl,Or.inl ⟨rfl,rfl⟩⟩ (wr.heap.size+1) (some ⟨wr.heap.size,0,none⟩) 1 1 rfl dL.out (by omega) HB.out ?_)
   intro v' w' ho hg;obtain⟨hy,hb⟩:=o9.made wz.out ho hg;have HY:Hid _:=hy;have rH:Hid _:=kD.out.next hb;have F9:Hid (w.heap.size<w'.heap.size):=Nat.lt_of_lt_of_le wz.out hb.size;clear ho hg hy hb hm;go_wp2
   go_roundw
   case rel=>exact⟨1,by omega,by go_num,rH,F9,fun h=>absurd h (by decide),fun _=>HY.out⟩
   case measure=>simp[intOf]
  ·obtain rfl:k=1:=by omega
   obtain⟨ge,ec,gr,hy⟩:=H1.out rfl;obtain rfl:=hy.val
   have HY:=aX hy;obtain⟨k0,k1,k2⟩:=kD.out.cells;rw[show ((21:Nat):Int)=21 from rfl,show ((0:Nat):Int)=0 from rfl]at *;clear H0 H1 hy;have jc:=yu.out _ kD.out.ups;obtain⟨n0,n1,n2⟩:=sZ.out _ kD.out.ups;dsimp only at n0 n1 n2
   clear yu sZ
   go_wp2_with fail
   (with_reducible refine jc.mono ?_)
   rintro e w2 ⟨uG,QD,nC,rfl,hx2,ha,hb,hge,hgr⟩
   have oK:Hid _:=HY.out.next hb;have jK:Hid _:=kD.out.next hb;have HA2:Hid (w2.cell? ⟨uG,0,none⟩=some (.slice (some ⟨nC,0,none⟩) 1 1)/\aN w2 nC [A]):=⟨hx2,ha⟩;have HG2:Hid (uG≠gr/\nC≠gr):=by have:=HY.out.row.lt;exact⟨by omega,by omega⟩
   clear jc k0 k1 k2 n0 n1 n2 ha hb hge hgr hx2 HY kD;obtain⟨k0,k1,k2⟩:=jK.out.cells;rw[show ((21:Nat):Int)=21 from rfl,show ((0:Nat):Int)=0 from rfl]at *;have jd:=yN.out _ jK.out.ups;obtain⟨m0,m1,m2⟩:=tq.out _ jK.out.ups;dsimp only at m0 m1 m2
   clear yN tq
   go_wp2_with fail
   (with_reducible refine jd.mono ?_)
   rintro e w4 ⟨A8,YO,tC,rfl,hx3,ha,hb,hge,hgr⟩
   have tu:Hid _:=oK.out.next hb;have FZ:Hid _:=jK.out.next hb;have F8:Hid (w4.cell? ⟨uG,0,none⟩=some (.slice (some ⟨nC,0,none⟩) 1 1)/\aN w4 nC [A]/\w4.cell? ⟨A8,0,none⟩=some (.slice (some ⟨tC,0,none⟩) 1 1)/\aN w4 tC [B]):=⟨qf HA2.out.1 hb,HA2.out.2.up hb,hx3,ha⟩;have yZ:Hid (A8≠gr/\tC≠gr):=by have:=oK.out.row.lt;exact⟨by omega,by omega⟩
   clear jd k0 k1 k2 m0 m1 m2 ha hb hge hgr hx3 oK jK HA2;go_wp2
   go_loopw [15] (fun i wr=>∃k:Nat,k<=1/\i=.int .i64 k/\Hid (kV w wr 21 0 0 (.slice (some ⟨g,0,none⟩) 2 cap))/\Hid (wr.cell? ⟨uG,0,none⟩=some (.slice (some ⟨nC,0,none⟩) 1 1)/\aN wr nC [A]/\wr.cell? ⟨A8,0,none⟩=some (.slice (some ⟨tC,0,none⟩) 1 1)/\aN wr tC [B])/\Hid (∃b,o9 w wr (.slice (some ⟨ge,0,none⟩) 1 ec) ge ec gr b/\(k=0->b=false)/\(k=1->b=(A || B)))) (fun i _=>1-(intOf i).toNat)
   case atStart=>exact⟨0,Nat.zero_le _,rfl,FZ,F8,_,tu.out,fun _=>rfl,fun h=>absurd h (by decide)⟩
   case round=>
    obtain⟨k,hk,rfl,yw,DJ,HX⟩:=hrel;clear FZ F8 tu;by_cases hlt:k<1
    ·obtain rfl:k=0:=by omega
     go_wp2
     go_loopw [16] (fun i wr=>∃k:Nat,k<=1/\i=.int .i64 k/\Hid (kV w wr 21 0 0 (.slice (some ⟨g,0,none⟩) 2 cap))/\Hid (wr.cell? ⟨uG,0,none⟩=some (.slice (some ⟨nC,0,none⟩) 1 1)/\aN wr nC [A]/\wr.cell? ⟨A8,0,none⟩=some (.slice (some ⟨tC,0,none⟩) 1 1)/\aN wr tC [B])/\Hid (∃b,o9 w wr (.slice (some ⟨ge,0,none⟩) 1 ec) ge ec gr b/\(k=0->b=false)/\(k=1->b=(A || B)))) (fun i _=>1-(intOf i).toNat)
     case atStart=>
      obtain⟨b,h1,h2,_⟩:=HX.out;exact⟨0,Nat.zero_le _,rfl,yw,DJ,_,h1,fun _=>h2 (by first|rfl|trivial),fun h=>absurd h (by decide)⟩
     case round=>
      obtain⟨k,hk,rfl,HV5,pW,AL⟩:=hrel;clear yw DJ HX;by_cases hlt:k<1
      ·obtain rfl:k=0:=by omega
       obtain⟨b,hy,hb0,_⟩:=AL.out;obtain rfl:=hb0 rfl
       have c1:=hy.cell;have c2:=hy.row.cell1;have fz:=hy.row.fz 0;have c3:=pW.out.1;have c4:=pW.out.2.1.cell1;have c5:=pW.out.2.2.1;have c6:=pW.out.2.2.2.cell1;have i1:=fun w'=>Dz ge ec w'
       have i2:=fun w'=>qr gr w'
       have i3:=fun w'=>Dz uG QD w'
       have i4:=fun w'=>qr nC w'
       have i5:=fun w'=>Dz A8 YO w'
       have i6:=fun w'=>qr tC w'
       obtain⟨k0,k1,k2⟩:=HV5.out.cells;rw[show ((21:Nat):Int)=21 from rfl,show ((0:Nat):Int)=0 from rfl]at *;have QE:=aX hy;have nM:Hid (∀b:Bool,o9 w (wr.setCell ⟨gr,0,none⟩ (.bool b)) (.slice (some ⟨ge,0,none⟩) 1 ec) ge ec gr b/\kV w (wr.setCell ⟨gr,0,none⟩ (.bool b)) 21 0 0 (.slice (some ⟨g,0,none⟩) 2 cap)/\((wr.setCell ⟨gr,0,none⟩ (.bool b)).cell? ⟨uG,0,none⟩=some (.slice (some ⟨nC,0,none⟩) 1 1)/\aN (wr.setCell ⟨gr,0,none⟩ (.bool b)) nC [A]/\(wr.setCell ⟨gr,0,none⟩ (.bool b)).cell? ⟨A8,0,none⟩=some (.slice (some ⟨tC,0,none⟩) 1 1)/\aN (wr.setCell ⟨gr,0,none⟩ (.bool b)) tC [B])):=fun b=>⟨hy.put b,HV5.out.set hy.lo' 0 _,(JX HG2.out.1.symm).trans pW.out.1,pW.out.2.1.off HG2.out.2.symm,(JX yZ.out.1.symm).trans pW.out.2.2.1,pW.out.2.2.2.off yZ.out.2.symm⟩
       clear hy hb0 AL
       cases A<;>cases B <;>
       ·go_wp2_with fail
        go_region
        all_goals
         go_wp2
         go_roundw
         case rel=>exact⟨1,by omega,by go_num,(nM.out _).2.1.next (Below.refl _ _).drew,⟨qf (nM.out _).2.2.1 (Below.refl _ _).drew,(nM.out _).2.2.2.1.up (Below.refl _ _).drew,qf (nM.out _).2.2.2.2.1 (Below.refl _ _).drew,(nM.out _).2.2.2.2.2.up (Below.refl _ _).drew⟩,_,(nM.out _).1.next (Below.refl _ _).drew,fun h=>absurd h (by decide),fun _=>rfl⟩
         case measure=>simp[intOf]
      ·obtain rfl:k=1:=by omega
       go_wp2
       go_roundw
       case rel=>exact⟨1,by omega,by go_num,HV5,pW,AL⟩
       case measure=>simp[intOf]
    ·obtain rfl:k=1:=by omega
     obtain⟨b,hy,_,hb1⟩:=HX.out;obtain rfl:=hb1 rfl
     have yx:Hid _:=hy;clear hy HX hb1;go_wp2;go_ret
     first|exact⟨ge,ec,gr,rfl,yx.out.cell,yx.out.row,yw.out.ups,Nat.le_of_lt yx.out.lo,Nat.le_of_lt yx.out.lo'⟩|exact⟨ge,⟨ec,rfl⟩,gr,yx.out.cell,yx.out.row,yw.out.ups,Nat.le_of_lt yx.out.lo,Nat.le_of_lt yx.out.lo'⟩
theorem qdM(x:Nat)(c d:Tr)(A B:Bool)(hc:BM 0 none 0 x c A)(hd:BM 0 none 0 x d B):BM 0 none 0 x (.bin (22,0) c d) (A&&B):=by
 intro u w hu hl;obtain⟨g,cap,u',u'',rfl,hnd,hnd',hst,hst'⟩:=hu;obtain⟨ua,um,uc,rfl⟩:=hst.sl;obtain⟨va,vm,vc,rfl⟩:=hst'.sl
 show Calls prog 116 #[.agg #[.int .u8 22,.int .u8 0,(.slice (some ⟨g,0,none⟩) 2 cap)],.slice none 0 0] w (uF (A&&B) w)
 have ny:∀w',Below w.heap.size w w'->Calls prog 116 #[aK (ak c) (.slice ua um uc),.slice none 0 0] w' (uF A w'):=fun w' hb=>hc _ w' (hst.up hb) (.inl ⟨rfl,rfl,rfl⟩)
 have pK:∀w',Below w.heap.size w w'->Calls prog 116 #[aK (ak d) (.slice va vm vc),.slice none 0 0] w' (uF B w'):=fun w' hb=>hd _ w' (hst'.up hb) (.inl ⟨rfl,rfl,rfl⟩)
 have sZ:Hid (∀w',Below w.heap.size w w'->bJ w' g 0 (ak c) (.slice ua um uc)):=fun w' hb=>hnd.up hb
 have tq:Hid (∀w',Below w.heap.size w w'->bJ w' g 3 (ak d) (.slice va vm vc)):=fun w' hb=>hnd'.up hb
 have hix:=fun w'=>qm g 2 cap w' (by omega)
 have hix':=fun w'=>qE g 2 cap w' (by omega)
 clear hc hst hnd hl hd hst' hnd';unfold aK uF at ny pK;generalize ak c=rk at *;obtain⟨ro,rp⟩:=rk;generalize ak d=sk at *;obtain⟨so,sp⟩:=sk;dsimp only at ny pK
 have yu:Hid _:=ny;have yN:Hid _:=pK;clear ny pK;have uh:Hid (∀w',eY w' 0 none 0 x):=fun w'=>.inl ⟨rfl,rfl,rfl⟩
 have HV:Hid (kV w (w.alloc (.cells #[.int .u8 (22:Nat),.int .u8 (0:Nat),(.slice (some ⟨g,0,none⟩) 2 cap)] 77)) 22 0 0 (.slice (some ⟨g,0,none⟩) 2 cap)):=⟨(MapKept.heap_alloc w _).1,qd w _⟩;have HZ:Hid (w.heap.size<(w.alloc (.cells #[.int .u8 (22:Nat),.int .u8 (0:Nat),(.slice (some ⟨g,0,none⟩) 2 cap)] 77)).heap.size):=by show _<_;simp
 unfold uF;rw[show ((22:Nat):Int)=22 from rfl,show ((0:Nat):Int)=0 from rfl]at *;go_enter func116,ntmps116
 go_wp2;generalize w.alloc (.cells #[.int .u8 22,.int .u8 0,(.slice (some ⟨g,0,none⟩) 2 cap)] 77)=w0 at *
 go_loopw [6,7] (fun v i wr=>∃k:Nat,k<=1/\i=.int .i64 k/\Hid (kV w wr 22 0 0 (.slice (some ⟨g,0,none⟩) 2 cap))/\Hid (w.heap.size<wr.heap.size)/\Hid (k=0->v=.slice none 0 0)/\Hid (k=1->∃ge ec gr,o9 w wr v ge ec gr false)) (fun _ i _=>1-(intOf i).toNat)
 case atStart=>exact⟨0,Nat.zero_le _,rfl,HV,HZ,fun _=>rfl,fun h=>absurd h (by decide)⟩
 case round=>
  obtain⟨k,hk,rfl,kD,wz,H0,H1⟩:=hrel;clear HV HZ;by_cases hlt:k<1
  ·obtain rfl:k=0:=by omega
   obtain rfl:=H0.out rfl
   have hm:=MV wr;have hcl:((wr.alloc (.cells #[.bool false] 4)).alloc (.cells #[.slice (some ⟨wr.heap.size,0,none⟩) 1 1] 66)).cell? ⟨wr.heap.size+1,0,none⟩=some (.slice (some ⟨wr.heap.size,0,none⟩) 1 1):=by simp
   have HB:Hid (w.heap.size+1<=((wr.alloc (.cells #[.bool false] 4)).alloc (.cells #[.slice (some ⟨wr.heap.size,0,none⟩) 1 1] 66)).heap.size):=by have:=wz.out;show _<=_;simp;omega
   have dL:Hid _:=hcl;clear H0 H1 hcl
   go_wp2_with (at_builtin;refine QB rfl _ _ rfl (w.heap.size+1) _ 0 [] rfl ⟨rfl,Or.inl ⟨rfl,rfl⟩⟩ (wr.heap.size+1) (some ⟨wr.heap.size,0,none⟩) 1 1 rfl dL.out (by omega) HB.out ?_)
   intro v' w' ho hg;obtain⟨hy,hb⟩:=o9.made wz.out ho hg;have HY:Hid _:=hy;have rH:Hid _:=kD.out.next hb;have F9:Hid (w.heap.size<w'.heap.size):=Nat.lt_of_lt_of_le wz.out hb.size;clear ho hg hy hb hm;go_wp2
   go_roundw
   case rel=>exact⟨1,by omega,by go_num,rH,F9,fun h=>absurd h (by decide),fun _=>HY.out⟩
   case measure=>simp[intOf]
  ·obtain rfl:k=1:=by omega
   obtain⟨ge,ec,gr,hy⟩:=H1.out rfl;obtain rfl:=hy.val
   have HY:=aX hy;obtain⟨k0,k1,k2⟩:=kD.out.cells;rw[show ((22:Nat):Int)=22 from rfl,show ((0:Nat):Int)=0 from rfl]at *;clear H0 H1 hy;have jc:=yu.out _ kD.out.ups;obtain⟨n0,n1,n2⟩:=sZ.out _ kD.out.ups;dsimp only at n0 n1 n2
   clear yu sZ
   go_wp2_with fail
   (with_reducible refine jc.mono ?_)
   rintro e w2 ⟨uG,QD,nC,rfl,hx2,ha,hb,hge,hgr⟩
   have oK:Hid _:=HY.out.next hb;have jK:Hid _:=kD.out.next hb;have HA2:Hid (w2.cell? ⟨uG,0,none⟩=some (.slice (some ⟨nC,0,none⟩) 1 1)/\aN w2 nC [A]):=⟨hx2,ha⟩;have HG2:Hid (uG≠gr/\nC≠gr):=by have:=HY.out.row.lt;exact⟨by omega,by omega⟩
   clear jc k0 k1 k2 n0 n1 n2 ha hb hge hgr hx2 HY kD;obtain⟨k0,k1,k2⟩:=jK.out.cells;rw[show ((22:Nat):Int)=22 from rfl,show ((0:Nat):Int)=0 from rfl]at *;have jd:=yN.out _ jK.out.ups;obtain⟨m0,m1,m2⟩:=tq.out _ jK.out.ups;dsimp only at m0 m1 m2
   clear yN tq
   go_wp2_with fail
   (with_reducible refine jd.mono ?_)
   rintro e w4 ⟨A8,YO,tC,rfl,hx3,ha,hb,hge,hgr⟩
   have tu:Hid _:=oK.out.next hb;have FZ:Hid _:=jK.out.next hb;have F8:Hid (w4.cell? ⟨uG,0,none⟩=some (.slice (some ⟨nC,0,none⟩) 1 1)/\aN w4 nC [A]/\w4.cell? ⟨A8,0,none⟩=some (.slice (some ⟨tC,0,none⟩) 1 1)/\aN w4 tC [B]):=⟨qf HA2.out.1 hb,HA2.out.2.up hb,hx3,ha⟩;have yZ:Hid (A8≠gr/\tC≠gr):=by have:=oK.out.row.lt;exact⟨by omega,by omega⟩
   clear jd k0 k1 k2 m0 m1 m2 ha hb hge hgr hx3 oK jK HA2;go_wp2
   go_loopw [15] (fun i wr=>∃k:Nat,k<=1/\i=.int .i64 k/\Hid (kV w wr 22 0 0 (.slice (some ⟨g,0,none⟩) 2 cap))/\Hid (wr.cell? ⟨uG,0,none⟩=some (.slice (some ⟨nC,0,none⟩) 1 1)/\aN wr nC [A]/\wr.cell? ⟨A8,0,none⟩=some (.slice (some ⟨tC,0,none⟩) 1 1)/\aN wr tC [B])/\Hid (∃b,o9 w wr (.slice (some ⟨ge,0,none⟩) 1 ec) ge ec gr b/\(k=0->b=false)/\(k=1->b=(A&&B)))) (fun i _=>1-(intOf i).toNat)
   case atStart=>exact⟨0,Nat.zero_le _,rfl,FZ,F8,_,tu.out,fun _=>rfl,fun h=>absurd h (by decide)⟩
   case round=>
    obtain⟨k,hk,rfl,yw,DJ,HX⟩:=hrel;clear FZ F8 tu;by_cases hlt:k<1
    ·obtain rfl:k=0:=by omega
     go_wp2
     go_loopw [16] (fun i wr=>∃k:Nat,k<=1/\i=.int .i64 k/\Hid (kV w wr 22 0 0 (.slice (some ⟨g,0,none⟩) 2 cap))/\Hid (wr.cell? ⟨uG,0,none⟩=some (.slice (some ⟨nC,0,none⟩) 1 1)/\aN wr nC [A]/\wr.cell? ⟨A8,0,none⟩=some (.slice (some ⟨tC,0,none⟩) 1 1)/\aN wr tC [B])/\Hid (∃b,o9 w wr (.slice (some ⟨ge,0,none⟩) 1 ec) ge ec gr b/\(k=0->b=false)/\(k=1->b=(A&&B)))) (fun i _=>1-(intOf i).toNat)
     case atStart=>
      obtain⟨b,h1,h2,_⟩:=HX.out;exact⟨0,Nat.zero_le _,rfl,yw,DJ,_,h1,fun _=>h2 (by first|rfl|trivial),fun h=>absurd h (by decide)⟩
     case round=>
      obtain⟨k,hk,rfl,HV5,pW,AL⟩:=hrel;clear yw DJ HX;by_cases hlt:k<1
      ·obtain rfl:k=0:=by omega
       obtain⟨b,hy,hb0,_⟩:=AL.out;obtain rfl:=hb0 rfl
       have c1:=hy.cell;have c2:=hy.row.cell1;have fz:=hy.row.fz 0;have c3:=pW.out.1;have c4:=pW.out.2.1.cell1;have c5:=pW.out.2.2.1;have c6:=pW.out.2.2.2.cell1;have i1:=fun w'=>Dz ge ec w'
       have i2:=fun w'=>qr gr w'
       have i3:=fun w'=>Dz uG QD w'
       have i4:=fun w'=>qr nC w'
       have i5:=fun w'=>Dz A8 YO w'
       have i6:=fun w'=>qr tC w'
       obtain⟨k0,k1,k2⟩:=HV5.out.cells;rw[show ((22:Nat):Int)=22 from rfl,show ((0:Nat):Int)=0 from rfl]at *;have QE:=aX hy;have nM:Hid (∀b:Bool,o9 w (wr.setCell ⟨gr,0,none⟩ (.bool b)) (.slice (some ⟨ge,0,none⟩) 1 ec) ge ec gr b/\kV w (wr.setCell ⟨gr,0,none⟩ (.bool b)) 22 0 0 (.slice (some ⟨g,0,none⟩) 2 cap)/\((wr.setCell ⟨gr,0,none⟩ (.bool b)).cell? ⟨uG,0,none⟩=some (.slice (some ⟨nC,0,none⟩) 1 1)/\aN (wr.setCell ⟨gr,0,none⟩ (.bool b)) nC [A]/\(wr.setCell ⟨gr,0,none⟩ (.bool b)).cell? ⟨A8,0,none⟩=some (.slice (some ⟨tC,0,none⟩) 1 1)/\aN (wr.setCell ⟨gr,0,none⟩ (.bool b)) tC [B])):=fun b=>⟨hy.put b,HV5.out.set hy.lo' 0 _,(JX HG2.out.1.symm).trans pW.out.1,pW.out.2.1.off HG2.out.2.symm,(JX yZ.out.1.symm).trans pW.out.2.2.1,pW.out.2.2.2.off yZ.out.2.symm⟩
       clear hy hb0 AL
       cases A with
       |false=>
        go_wp2
        go_roundw
        case rel=>exact⟨1,by omega,by go_num,HV5,pW,_,QE.out,fun h=>absurd h (by decide),fun _=>rfl⟩
        case measure=>simp[intOf]
       |true=>
        cases B with
        |false=>
         have jj:=qb6 gr tC wr.drew (QE.out.row.up (Below.refl _ _).drew) (pW.out.2.2.2.up (Below.refl _ _).drew)
         go_wp2_with fail
         go_region_with (first
          | (go_at_call 134;(with_reducible refine jj.mono ?_);rintro e w5 ⟨⟨b,rfl⟩,rfl⟩)
          |fail)
         all_goals
          go_wp2
          go_roundw
          case rel=>exact⟨1,by omega,by go_num,HV5.out.next (Below.refl _ _).drew,⟨qf pW.out.1 (Below.refl _ _).drew,pW.out.2.1.up (Below.refl _ _).drew,qf pW.out.2.2.1 (Below.refl _ _).drew,pW.out.2.2.2.up (Below.refl _ _).drew⟩,_,QE.out.next (Below.refl _ _).drew,fun h=>absurd h (by decide),fun _=>rfl⟩
          case measure=>simp[intOf]
        |true=>
         have jj:=q9C gr tC wr.drew (QE.out.row.up (Below.refl _ _).drew) (pW.out.2.2.2.up (Below.refl _ _).drew)
         go_wp2_with fail
         go_region_with (first
          | (go_at_call 134;(with_reducible refine jj.mono ?_);rintro e w5 ⟨⟨b,rfl⟩,rfl⟩)
          |fail)
         all_goals
          go_wp2
          go_roundw
          case rel=>exact⟨1,by omega,by go_num,(nM.out _).2.1.next (Below.refl _ _).drew,⟨qf (nM.out _).2.2.1 (Below.refl _ _).drew,(nM.out _).2.2.2.1.up (Below.refl _ _).drew,qf (nM.out _).2.2.2.2.1 (Below.refl _ _).drew,(nM.out _).2.2.2.2.2.up (Below.refl _ _).drew⟩,_,(nM.out _).1.next (Below.refl _ _).drew,fun h=>absurd h (by decide),fun _=>rfl⟩
          case measure=>simp[intOf]
      ·obtain rfl:k=1:=by omega
       go_wp2
       go_roundw
       case rel=>exact⟨1,by omega,by go_num,HV5,pW,AL⟩
       case measure=>simp[intOf]
    ·obtain rfl:k=1:=by omega
     obtain⟨b,hy,_,hb1⟩:=HX.out;obtain rfl:=hb1 rfl
     have yx:Hid _:=hy;clear hy HX hb1;go_wp2;go_ret
     first|exact⟨ge,ec,gr,rfl,yx.out.cell,yx.out.row,yw.out.ups,Nat.le_of_lt yx.out.lo,Nat.le_of_lt yx.out.lo'⟩|exact⟨ge,⟨ec,rfl⟩,gr,yx.out.cell,yx.out.row,yw.out.ups,Nat.le_of_lt yx.out.lo,Nat.le_of_lt yx.out.lo'⟩
theorem q9B(a:Option Addr)(len cap:Nat)(xs:List Tk)(a':Option Addr)(len' cap':Nat)(ys:List Tk)(w:World)
  (hS:bG w a len cap xs) (hO:bG w a' len' cap' ys):
  Calls prog 109 #[.slice a len cap,.slice a' len' cap'] w fun e w'=>e=.returned (.bool (decide (xs=ys)))/\Below w.heap.size w w':=by
 have hb0:=hS.bd;have hb1:=hS.hcap;have hb2:=hO.bd;have hb3:=hO.hcap;unfold maxLen at hb0 hb2;by_cases hll:len=len'
 ·subst hll
  go_enter func109,ntmps109
  go_wp2
  go_loopw [5] (fun i wr=>∃k:Nat,k<=len/\i=.int .i64 k/\Hid (xs.take k=ys.take k)/\Hid (Below w.heap.size w wr)) (fun i _=>len-(intOf i).toNat)
  case atStart=>exact⟨0,Nat.zero_le _,rfl,by show _=_;simp,Below.refl _ _⟩
  case round=>
   obtain⟨k,hk,rfl,HU,hwr⟩:=hrel;by_cases hlt:k<len
   ·obtain⟨g1,o1,s1,hi1,hx0,hx1,_,_⟩:=(hS.up hwr.out).at underlying22 qD k hlt
    obtain⟨g2,o2,s2,hi2,hy0,hy1,_,_⟩:=(hO.up hwr.out).at underlying22 qD k hlt;have hidx:=fun w'=>hi1 len w' hlt
    have hidx':=fun w'=>hi2 len w' hlt
    clear hi1 hi2;have hxl:k<xs.length:=by rw[hS.hlen];exact hlt
    have hyl:k<ys.length:=by rw[hO.hlen];exact hlt
    have ex:xs[k]=xs.getD k (0,0):=by simp[List.getD_eq_getElem?_getD,List.getElem?_eq_getElem hxl]
    have ey:ys[k]=ys.getD k (0,0):=by simp[List.getD_eq_getElem?_getD,List.getElem?_eq_getElem hyl]
    rw[ex]at hx0 hx1;rw[ey]at hy0 hy1;clear ex ey;have HN:Hid (xs.getD k (0,0)=ys.getD k (0,0)->xs.take (k+1)=ys.take (k+1)):=fun h=>ju (by rw[hS.hlen];exact hlt) (by rw[hO.hlen];exact hlt) HU.out h
    have HM:Hid (xs.getD k (0,0)≠ys.getD k (0,0)->decide (xs=ys)=false):=fun h=>decide_eq_false (fun e=>h (by rw[e]))
    generalize xs.getD k (0,0)=x at *;generalize ys.getD k (0,0)=y at *;obtain⟨x0,x1⟩:=x;obtain⟨y0,y1⟩:=y;have hne:=jx x0 x1 y0 y1;have HD:Hid (∀b,decide (((x0,x1):Tk)=(y0,y1))=b->b=true->((x0,x1):Tk)=(y0,y1)):=fun b h1 h2=>of_decide_eq_true (h1.trans h2)
    have HE:Hid (∀b,decide (((x0,x1):Tk)=(y0,y1))=b->b=false->((x0,x1):Tk)≠(y0,y1)):=fun b h1 h2=>of_decide_eq_false (h1.trans h2)
    generalize hq:decide (((x0,x1):Tk)=(y0,y1))=q at hne
    go_wp2_with fail
    go_quiet (fail)
    cases q with
    |false=>
     have MB:Hid _:=HM.out (HE.out false hq rfl);go_wp2;go_ret
     exact⟨by rw[MB.out];rfl,below_drewN hwr.out nq⟩
    |true=>
     have BG:Hid _:=HN.out (HD.out true hq rfl);go_wp2
     go_roundw
     case rel=>exact⟨k+1,by omega,by go_num,BG,below_drewN hwr.out nq⟩
     case measure=>simp[intOf];omega
   ·have hx:Hid (decide (xs=ys)=true):=by
     have:=HU.out
     rw[List.take_of_length_le (by rw[hS.hlen];omega),List.take_of_length_le (by rw[hO.hlen];omega)]at this
     exact decide_eq_true this
    go_wp2;go_ret
    exact⟨by rw[hx.out];rfl,hwr.out⟩
 ·have hx:Hid (decide (xs=ys)=false):=decide_eq_false (fun e=>hll (by rw[<-hS.hlen,<-hO.hlen,e]))
  have Jk:((len:Int) != (len':Int))=true:=by simp;omega
  clear hll;go_enter func109,ntmps109
  go_wp2;go_ret
  exact⟨by rw[hx.out];rfl,Below.refl _ _⟩
def fB:Tr->List Tr
 | .leaf _=>[]
 | .un _ c=>[c]
 | .bin _ c d=>[c,d]
def fC(T:Tr)(k:Nat):List Tk:=((fB T).take k).flatMap Tr.flat
theorem YP(T:Tr):T.flat=fC T (fB T).length++[ak T]:=by
 cases T<;>simp[fC,fB,ak,Tr.flat]
theorem qeO{S:Tr}{k:Nat}(h:(fB T)[k]? =some S):fC T (k+1)=fC T k++S.flat:=by
 unfold fC;rw[List.take_add_one,h];simp
theorem qfA(T:Tr)(k:Nat):(fC T k).length<=T.flat.length:=by
 have e:fC T (fB T).length=fC T k++((fB T).drop k).flatMap Tr.flat:=by
  unfold fC;rw[List.take_length,<-List.flatMap_append,List.take_append_drop]
 rw[YP T,e,List.length_append,List.length_append]
 omega
theorem qed:(fB T).length<=2:=by cases T<;>simp[fB]
theorem eG.kids:∀{T:Tr}{v:Value},eG w T v->∃a cap,v=.slice a (fB T).length cap/\∀(k:Nat)(S:Tr),(fB T)[k]? =some S->∃g o ua un uc,(∀w':World,(Instr.indexAt 75 (.slice a (fB T).length cap) (.int .i64 k)).run prog w'=.ok (.pointer (some ⟨g,o,none⟩)) w')/\bJ w g o (ak S) (.slice ua un uc)/\eG w S (.slice ua un uc)
 | .leaf _,_,⟨a,c,e⟩=>⟨a,c,e,fun k S h=>by simp[fB]at h⟩
 | .un _ _,_,⟨g,cap,u,e,h1,h2⟩=>⟨_,cap,e,fun k S h=>by
  match k,h with
  | 0,h=>
   simp[fB]at h;subst h
   obtain⟨ua,un,uc,rfl⟩:=h2.sl;exact⟨g,0,ua,un,uc,fun w'=>qm g 1 cap w' (by omega),h1,h2⟩
  |k+1,h=>simp[fB]at h⟩
 | .bin _ _ _,_,⟨g,cap,u,u',e,h1,h2,h3,h4⟩=>⟨_,cap,e,fun k S h=>by
  match k,h with
  | 0,h=>
   simp[fB]at h;subst h
   obtain⟨ua,un,uc,rfl⟩:=h3.sl;exact⟨g,0,ua,un,uc,fun w'=>qm g 2 cap w' (by omega),h1,h3⟩
  | 1,h=>
   simp[fB]at h;subst h
   obtain⟨ua,un,uc,rfl⟩:=h4.sl;exact⟨g,3,ua,un,uc,fun w'=>qE g 2 cap w' (by omega),h2,h4⟩
  |k+2,h=>simp[fB]at h⟩
def Ba(T:List Tk)(w:World)(e:Ending)(w':World):Prop:=∃a cap,e=.returned (.slice a T.length cap)/\bG w' a T.length cap T/\Below w.heap.size w w'/\∀x,a=some x->w.heap.size<=x.block
def Ir(T:Tr):Prop:=∀(u:Value)(w:World),eG w T u->Calls prog 87 #[aK (ak T) u] w (Ba T.flat w)
theorem YQ(T:Tr)(hk:∀S∈fB T,Ir S)(hok:∀t∈T.flat,t.1<256/\t.2<256)(hln:T.flat.length<=100000):Ir T:=by
 intro v w hv;obtain⟨a,cap,rfl,QF⟩:=hv.kids;have Gf:Hid _:=QF;have px:Hid ((fB T).length<=2):=qed;have hle:=qed (T:=T);have HK:Hid _:=hk;have py:Hid _:=YP T;have fQ:Hid (∀(k:Nat)(S:Tr),(fB T)[k]? =some S->fC T (k+1)=fC T k++S.flat/\S∈fB T):=fun k S h=>⟨qeO h,List.mem_of_getElem? h⟩
 have Gg:Hid (∀k,k<(fB T).length->∃S,(fB T)[k]? =some S):=fun k h=>⟨_,kU h⟩
 have pX:Hid (∀k,(fC T k).length<=100000):=fun k=>Nat.le_trans (qfA T k) hln
 have YF:=aX hok;have hro:(ak T).1<256/\(ak T).2<256:=hok _ (by rw[YP T];simp)
 have rW:Hid (fC T 0=[]):=by show _=_;simp[fC]
 clear hk QF hok hln;unfold aK;generalize hrk:ak T=rk at *;obtain⟨ro,rp⟩:=rk;dsimp only
 dsimp only at hro
 clear hrk;obtain⟨kn,hkn⟩:∃kn,kn=(fB T).length:=⟨_,rfl⟩
 rw[<-hkn]at Gf px py Gg hle ⊢;clear hkn;have HB0:Hid _:=qd w (tQ ro rp a kn cap);have hr:=(MapKept.heap_alloc w (tQ ro rp a kn cap)).1;have HR0:Hid _:=hr;have HZ0:Hid ((w.alloc (tQ ro rp a kn cap)).heap.size=w.heap.size+1):=by show _=_;simp
 clear hr;unfold Ba;(unfold tQ at *);go_enter func87,ntmps87
 go_wp2;generalize w.alloc (.cells #[.int .u8 ro,.int .u8 rp,.slice a kn cap] 77)=w0 at *
 go_loopw [3,4] (fun v i wr=>∃k:Nat,k<=kn/\i=.int .i64 k/\Hid (wr.ownsRow (w.heap.size+1) 42 2 v (fC T k).length (dJ (fC T k)))/\Hid (Below (w.heap.size+1) w0 wr)) (fun _ i _=>kn-(intOf i).toNat)
 case atStart=>exact⟨0,Nat.zero_le _,rfl,by show World.ownsRow _ _ _ _ _ _ _;rw[rW.out];exact⟨rfl,Or.inl ⟨rfl,rfl⟩⟩,Below.refl _ _⟩
 case round=>
  obtain⟨k,hk,rfl,HO,HW⟩:=hrel;have hz0:=HZ0.out;have PG:=HW.out.size;have Dy:Hid (Below w.heap.size w wr):=HB0.out.trans (HW.out.mono (by omega))
  have hbx:wr.heap[w.heap.size]? =some (.cells #[.int .u8 ro,.int .u8 rp,.slice a kn cap] 77 (0,0)):=(HW.out.block _ (by omega)).trans HR0.out
  have k0:wr.cell? ⟨w.heap.size,0,none⟩=some (.int .u8 ro):=qc hbx 0;have k1:wr.cell? ⟨w.heap.size,1,none⟩=some (.int .u8 rp):=qc hbx 1;have k2:wr.cell? ⟨w.heap.size,2,none⟩=some (.slice a kn cap):=qc hbx 2;have hlk:=pX.out k;have hkn2:=px.out;obtain⟨va,vc,rfl,_⟩:=qO HO.out bZ;by_cases hlt:k<kn
  ·obtain⟨S,hS⟩:=Gg.out k hlt
   obtain⟨hnx,hmem⟩:=fQ.out k S hS;obtain⟨g,o,ua,un,uc,hidx,hnd,hst⟩:=Gf.out k S hS;obtain⟨n0,n1,n2⟩:=hnd.up Dy.out;have hq:=HK.out S hmem _ wr (hst.up Dy.out);have hls:=pX.out (k+1);rw[hnx]at hls;have FD:Hid _:=hnx;unfold aK Ba at hq;generalize ak S=rs at *;obtain⟨so,sp⟩:=rs;dsimp only at n0 n1 hq
   have HLS:Hid _:=hls;clear hnd hst hS hmem hnx hls Gf fQ Gg HK
   go_wp2_with fail
   refine hq.mono ?_
   rintro e w1 ⟨a1,c1,rfl,t1,b1,_⟩
   have uw:Hid (w1.ownsRow (w.heap.size+1) 42 2 (.slice va (fC T k).length vc) (fC T k).length (dJ (fC T k))):=qC HO.out b1;have HT1:Hid _:=t1;have hz1:w.heap.size+1<=w1.heap.size:=by have:=b1.size;omega
   have HB1:Hid (Below (w.heap.size+1) w0 w1):=HW.out.trans (b1.mono (by omega))
   have uq:Hid _:=vO uw.out;clear t1 b1
   go_wp2_with (at_builtin;refine OE rfl _ _ rfl (w.heap.size+1) _ (fC T k) S.flat a1 S.flat.length c1 rfl rfl uw.out HT1.out (by omega) (by have:=HLS.out;rw[List.length_append]at this;omega) hz1 ?_)
   intro v2 w2 ho2 hg2;have HB2:Hid (Below (w.heap.size+1) w0 w2):=HB1.out.grown hg2 hz1 uq.out;have l9:Hid (w2.ownsRow (w.heap.size+1) 42 2 v2 (fC T (k+1)).length (dJ (fC T (k+1)))):=by rw[FD.out,List.length_append];exact ho2
   clear ho2 hg2;go_wp2
   go_roundw
   case rel=>exact⟨k+1,by omega,by go_num,l9,HB2⟩
   case measure=>simp[intOf];omega
  ·obtain rfl:k=kn:=by omega
   have HB3:Hid (Below w.heap.size wr (wr.alloc (.cells #[.int .u8 ro,.int .u8 rp] 42))):=(qd wr _).mono (by omega)
   have HT3:Hid (bG (wr.alloc (.cells #[.int .u8 ro,.int .u8 rp] 42)) (some ⟨wr.heap.size,0,none⟩) 1 1 [(ro,rp)]):=Ur (Az.new wr 42 ro rp) hro.1 hro.2;have rU:Hid ((wr.alloc (.cells #[.int .u8 ro,.int .u8 rp] 42)).ownsRow (w.heap.size+1) 42 2 (.slice va (fC T k).length vc) (fC T k).length (dJ (fC T k))):=qC HO.out (qd wr _);have hz3:w.heap.size+1<=(wr.alloc (.cells #[.int .u8 ro,.int .u8 rp] 42)).heap.size:=by simp;omega
   have nG:Hid _:=vO rU.out;clear Gf fQ Gg HK
   go_wp2_with (at_builtin;refine OE rfl _ _ rfl (w.heap.size+1) _ (fC T k) [(ro,rp)] (some ⟨wr.heap.size,0,none⟩) 1 1 rfl rfl rU.out HT3.out (by omega) (by simp) hz3 ?_)
   intro v4 w4 wV hg4;have HB4:Hid (Below w.heap.size w w4):=Dy.out.trans (HB3.out.trans ((Below.refl _ _).grown hg4 (Nat.le_trans (Nat.le_succ _) hz3) (fun j e=>Nat.le_trans (Nat.le_succ _) (nG.out j e))))
   have wV:w4.ownsRow (w.heap.size+1) 42 2 v4 T.flat.length (dJ T.flat):=by rw[py.out,List.length_append];exact wV
   obtain⟨a4,c4,rfl,t4,n4⟩:=WO wV YF.out;have HT4:Hid _:=t4;have YR:Hid (∀x,a4=some x->w.heap.size<=x.block):=fun x hx=>by have:=(n4 x hx).1;omega
   clear wV hg4 t4 n4;go_wp2;go_ret
   exact⟨a4,c4,rfl,HT4.out,HB4.out,YR.out⟩
theorem q12:∀T:Tr,(∀t∈T.flat,t.1<256/\t.2<256)->T.flat.length<=100000->Ir T
 | .leaf k,h1,h2=>YQ _ (fun S hS=>by simp[fB]at hS) h1 h2
 | .un k c,h1,h2=>YQ _ (fun S hS=>by
   have hc:=q12 c (fun t ht=>h1 t (by simp[Tr.flat,ht])) (by simp[Tr.flat]at h2;omega)
   simp[fB]at hS
   rw[hS];exact hc) h1 h2
 | .bin k c d,h1,h2=>YQ _ (fun S hS=>by
   have hc:=q12 c (fun t ht=>h1 t (by simp[Tr.flat,ht])) (by simp[Tr.flat]at h2;omega)
   have hd:=q12 d (fun t ht=>h1 t (by simp[Tr.flat,ht])) (by simp[Tr.flat]at h2;omega)
   simp[fB]at hS
   rcases hS with rfl|rfl
   ·exact hc
   ·exact hd) h1 h2
theorem BO{T:List Tk}{w1:World}{cs:Array Value}(hb:Below w.heap.size w w1)(hc:cs.toList=dJ T)(hok:∀t∈T,t.1<256/\t.2<256)(hl:T.length<=100){n gi:Nat}(hn:n=T.length)(hg:gi=w1.heap.size):dV T w (.returned (.slice (some ⟨gi,0,none⟩) n n)) (w1.alloc (.cells cs 42)):=by
 subst hn hg;exact⟨_,_,rfl,qhQ hc hok hl,qe hb (qd _ _)⟩
theorem q9l(w:World):Calls prog 111 #[.agg #[.int .u8 0,.int .u8 0],.bool false] w (dV [(0,0)] w):=by
 have hb0:=qd w (.cells #[.int .u8 0,.int .u8 0] 42);have htu:=fun w'=>qN 0 1 false w'
 have hto:=fun w'=>qH 0 w'
 go_enter func111,ntmps111
 go_wp2_with (first|(go_at_call 113;refine (htu _).mono ?_;rintro e w' ⟨rfl,rfl⟩)|(go_at_call 115;refine (hto _).mono ?_;rintro e w2 ⟨rfl,hb2⟩))
 go_ret
 exact BO (T:=[(0,0)]) (qe hb0 hb2) rfl (by decide) (by decide) rfl rfl
theorem q9m(w:World):Calls prog 111 #[.agg #[.int .u8 0,.int .u8 0],.bool true] w (dV [(1,0)] w):=by
 have hb0:=qd w (.cells #[.int .u8 0,.int .u8 0] 42);have htu:=fun w'=>qN 0 1 true w'
 have hto:=fun w'=>qH 1 w'
 go_enter func111,ntmps111
 go_wp2_with (first|(go_at_call 113;refine (htu _).mono ?_;rintro e w' ⟨rfl,rfl⟩)|(go_at_call 115;refine (hto _).mono ?_;rintro e w2 ⟨rfl,hb2⟩))
 go_ret
 exact BO (T:=[(1,0)]) (qe hb0 hb2) rfl (by decide) (by decide) rfl rfl
theorem q9n(w:World):Calls prog 111 #[.agg #[.int .u8 1,.int .u8 0],.bool false] w (dV [(1,0)] w):=by
 have hb0:=qd w (.cells #[.int .u8 1,.int .u8 0] 42);have htu:=fun w'=>qN 1 0 false w'
 have hto:=fun w'=>qH 1 w'
 go_enter func111,ntmps111
 go_wp2_with (first|(go_at_call 113;refine (htu _).mono ?_;rintro e w' ⟨rfl,rfl⟩)|(go_at_call 115;refine (hto _).mono ?_;rintro e w2 ⟨rfl,hb2⟩))
 go_ret
 exact BO (T:=[(1,0)]) (qe hb0 hb2) rfl (by decide) (by decide) rfl rfl
theorem q9o(w:World):Calls prog 111 #[.agg #[.int .u8 1,.int .u8 0],.bool true] w (dV [(0,0)] w):=by
 have hb0:=qd w (.cells #[.int .u8 1,.int .u8 0] 42);have htu:=fun w'=>qN 1 0 true w'
 have hto:=fun w'=>qH 0 w'
 go_enter func111,ntmps111
 go_wp2_with (first|(go_at_call 113;refine (htu _).mono ?_;rintro e w' ⟨rfl,rfl⟩)|(go_at_call 115;refine (hto _).mono ?_;rintro e w2 ⟨rfl,hb2⟩))
 go_ret
 exact BO (T:=[(0,0)]) (qe hb0 hb2) rfl (by decide) (by decide) rfl rfl
theorem q9t(w:World):Calls prog 111 #[.agg #[.int .u8 4,.int .u8 0],.bool false] w (dV [(4,0)] w):=by
 have hb0:=qd w (.cells #[.int .u8 4,.int .u8 0] 42);have htu:=fun w'=>qN 4 5 false w'
 have hto:=fun w'=>qH 4 w'
 go_enter func111,ntmps111
 go_wp2_with (first|(go_at_call 113;refine (htu _).mono ?_;rintro e w' ⟨rfl,rfl⟩)|(go_at_call 115;refine (hto _).mono ?_;rintro e w2 ⟨rfl,hb2⟩))
 go_ret
 exact BO (T:=[(4,0)]) (qe hb0 hb2) rfl (by decide) (by decide) rfl rfl
theorem q9u(w:World):Calls prog 111 #[.agg #[.int .u8 4,.int .u8 0],.bool true] w (dV [(5,0)] w):=by
 have hb0:=qd w (.cells #[.int .u8 4,.int .u8 0] 42);have htu:=fun w'=>qN 4 5 true w'
 have hto:=fun w'=>qH 5 w'
 go_enter func111,ntmps111
 go_wp2_with (first|(go_at_call 113;refine (htu _).mono ?_;rintro e w' ⟨rfl,rfl⟩)|(go_at_call 115;refine (hto _).mono ?_;rintro e w2 ⟨rfl,hb2⟩))
 go_ret
 exact BO (T:=[(5,0)]) (qe hb0 hb2) rfl (by decide) (by decide) rfl rfl
theorem q9v(w:World):Calls prog 111 #[.agg #[.int .u8 5,.int .u8 0],.bool false] w (dV [(5,0)] w):=by
 have hb0:=qd w (.cells #[.int .u8 5,.int .u8 0] 42);have htu:=fun w'=>qN 5 4 false w'
 have hto:=fun w'=>qH 5 w'
 go_enter func111,ntmps111
 go_wp2_with (first|(go_at_call 113;refine (htu _).mono ?_;rintro e w' ⟨rfl,rfl⟩)|(go_at_call 115;refine (hto _).mono ?_;rintro e w2 ⟨rfl,hb2⟩))
 go_ret
 exact BO (T:=[(5,0)]) (qe hb0 hb2) rfl (by decide) (by decide) rfl rfl
theorem q9w(w:World):Calls prog 111 #[.agg #[.int .u8 5,.int .u8 0],.bool true] w (dV [(4,0)] w):=by
 have hb0:=qd w (.cells #[.int .u8 5,.int .u8 0] 42);have htu:=fun w'=>qN 5 4 true w'
 have hto:=fun w'=>qH 4 w'
 go_enter func111,ntmps111
 go_wp2_with (first|(go_at_call 113;refine (htu _).mono ?_;rintro e w' ⟨rfl,rfl⟩)|(go_at_call 115;refine (hto _).mono ?_;rintro e w2 ⟨rfl,hb2⟩))
 go_ret
 exact BO (T:=[(4,0)]) (qe hb0 hb2) rfl (by decide) (by decide) rfl rfl
theorem q9r(w:World):Calls prog 111 #[.agg #[.int .u8 3,.int .u8 0],.bool false] w (dV [(4,0),(1,0),(8,0),(11,0)] w):=by
 have hb0:=qd w (.cells #[.int .u8 3,.int .u8 0] 42);have hto:=qH;go_enter func111,ntmps111
 go_wp2_with fail
 refine (hto 4 _).mono ?_
 rintro e w2 ⟨rfl,hb2⟩
 have J3:=qe hb0 hb2
 go_wp2_with fail
 refine (hto 1 _).mono ?_
 rintro e w3 ⟨rfl,hb3⟩
 have J4:=qe J3 hb3
 go_wp2_with fail
 refine (hto 8 _).mono ?_
 rintro e w4 ⟨rfl,hb4⟩
 have uH:=qe J4 hb4
 go_wp2_with fail
 refine (hto 11 _).mono ?_
 rintro e w5 ⟨rfl,hb5⟩
 have J5:=qe uH hb5;go_wp2;go_ret
 exact BO (T:=[(4,0),(1,0),(8,0),(11,0)]) J5 rfl (by decide) (by decide) rfl rfl
theorem q9s(w:World):Calls prog 111 #[.agg #[.int .u8 3,.int .u8 0],.bool true] w (dV [(5,0),(0,0),(7,0),(12,0)] w):=by
 have hb0:=qd w (.cells #[.int .u8 3,.int .u8 0] 42);have hto:=qH;go_enter func111,ntmps111
 go_wp2_with fail
 refine (hto 5 _).mono ?_
 rintro e w2 ⟨rfl,hb2⟩
 have J3:=qe hb0 hb2
 go_wp2_with fail
 refine (hto 0 _).mono ?_
 rintro e w3 ⟨rfl,hb3⟩
 have J4:=qe J3 hb3
 go_wp2_with fail
 refine (hto 7 _).mono ?_
 rintro e w4 ⟨rfl,hb4⟩
 have uH:=qe J4 hb4
 go_wp2_with fail
 refine (hto 12 _).mono ?_
 rintro e w5 ⟨rfl,hb5⟩
 have J5:=qe uH hb5;go_wp2;go_ret
 exact BO (T:=[(5,0),(0,0),(7,0),(12,0)]) J5 rfl (by decide) (by decide) rfl rfl
theorem q9p(p:Nat)(w:World)(hp:p<256):Calls prog 111 #[.agg #[.int .u8 2,.int .u8 p],.bool false] w (dV [(2,p)] w):=by
 have hb0:=qd w (.cells #[.int .u8 2,.int .u8 p] 42);go_enter func111,ntmps111
 go_wp2;go_ret
 exact BO (T:=[(2,p)]) hb0 rfl (by intro t ht;simp at ht;subst ht;exact⟨by show 2<256;decide,hp⟩) (by simp) rfl (by simp)
theorem q9q(p:Nat)(w:World)(hp:p<256):Calls prog 111 #[.agg #[.int .u8 2,.int .u8 p],.bool true] w (dV [(2,p),(6,0)] w):=by
 have hb0:=qd w (.cells #[.int .u8 2,.int .u8 p] 42);have hto:=fun w'=>qH 6 w'
 have hr0:=(dO w (.cells #[.int .u8 2,.int .u8 p] 42)).1;have hk0:(w.alloc (.cells #[.int .u8 2,.int .u8 p] 42)).drew.cell? ⟨w.heap.size,0,none⟩=some (.int .u8 2)/\(w.alloc (.cells #[.int .u8 2,.int .u8 p] 42)).drew.cell? ⟨w.heap.size,1,none⟩=some (.int .u8 p):=⟨qc hr0 0,qc hr0 1⟩;have hbd:Below (w.alloc (.cells #[.int .u8 2,.int .u8 p] 42)).heap.size (w.alloc (.cells #[.int .u8 2,.int .u8 p] 42)) (w.alloc (.cells #[.int .u8 2,.int .u8 p] 42)).drew:=(Below.refl _ _).drew;have hb1:=qe hb0 hbd;clear hbd hr0 hb0;go_enter func111,ntmps111
 go_wp2;generalize (w.alloc (.cells #[.int .u8 2,.int .u8 p] 42))=w1 at *
 go_region_held3 (fun w'=>w'.cell? ⟨w.heap.size,0,none⟩=some (.int .u8 2)/\w'.cell? ⟨w.heap.size,1,none⟩=some (.int .u8 p)) (first|exact hk0|assumption|exact⟨qf k2.1 (qd _ _),qf k2.2 (qd _ _)⟩|fail) (first|(go_at_call 115;refine (hto _).mono ?_;rintro e w2 ⟨rfl,hb2⟩;have k2:w2.cell? ⟨w.heap.size,0,none⟩=some (.int .u8 2)/\w2.cell? ⟨w.heap.size,1,none⟩=some (.int .u8 p):=⟨qf hk0.1 hb2,qf hk0.2 hb2⟩)|fail)
 all_goals
  go_wp2;go_ret
  exact BO (T:=[(2,p),(6,0)]) (qe hb1 hb2) rfl (by intro t ht;simp at ht;rcases ht with rfl|rfl;exact⟨by show 2<256;decide,hp⟩;exact⟨by show 6<256;decide,by show 0<256;decide⟩) (by simp) rfl rfl
theorem q9x(op p:Nat)(b:Bool)(w:World)(h:(Tr.leaf (op,p)).WF):Calls prog 111 #[.agg #[.int .u8 op,.int .u8 p],.bool b] w (dV (kB (.leaf (op,p)) b) w):=by
 rcases qG h with⟨rfl,hp⟩|⟨rfl,rfl|rfl|rfl|rfl|rfl⟩<;>cases b
 ·exact q9p p w (by omega)
 ·exact q9q p w (by omega)
 ·exact q9l w
 ·exact q9m w
 ·exact q9n w
 ·exact q9o w
 ·exact q9r w
 ·exact q9s w
 ·exact q9t w
 ·exact q9u w
 ·exact q9v w
 ·exact q9w w
end Go.Proofs.YtoioiellaomonaaGreatDoor
