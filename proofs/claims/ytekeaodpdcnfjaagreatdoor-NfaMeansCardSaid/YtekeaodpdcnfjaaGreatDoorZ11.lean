/- Texts of the proof, put together: what it uses. -/
import Derived.Deep.RegionHeld3
import Derived.OwnWalk
import Derived.Test.YtekeaodpdcnfjaaGreatDoorZ03
import Derived.Test.YtekeaodpdcnfjaaGreatDoorZ05
set_option maxRecDepth 100000
set_option maxHeartbeats 16000000
namespace Go.Proofs.YtekeaodpdcnfjaaGreatDoor
open Go.RowKit Go.Maps
theorem q7A(b n c hi:Nat)(d:Option Addr)(zs:List Int)(rest:List (Sk×Mp))(w:World)(hL:LtSl w d n c zs)(hn:n<=10000)(hS:StkAt w b w.heap.size ((rest.map (·.2)).reverse))(hP:Parts w n b hi rest)(hh:hi<=w.heap.size):
  Calls Tryz.prog 38 #[.pointer (some ⟨b,0,none⟩),.agg #[.int .u8 0,.int .u8 0],.slice d n c] w (WorkR n b w (skT (zN zs) (0,0) []) rest):=by
 have hlen:(zN zs).length=n:=by rw[qz];exact hL.sl.hlen
 have hw1:=qc w (.cells #[.int .u8 0,.int .u8 0] 43);have hw2:=qd hw1 (qc (w.alloc (.cells #[.int .u8 0,.int .u8 0] 43)) (.cells #[.slice none 0 0,.slice none 0 0] 63));have hbox:=(Below.heap_alloc (w.alloc (.cells #[.int .u8 0,.int .u8 0] 43)) (.cells #[.slice none 0 0,.slice none 0 0] 63) w.heap.size (by simp)).trans (MapKept.heap_alloc w _).1
 have hres:=(MapKept.heap_alloc (w.alloc (.cells #[.int .u8 0,.int .u8 0] 43)) (.cells #[.slice none 0 0,.slice none 0 0] 63)).1;have hsz:((w.alloc (.cells #[.int .u8 0,.int .u8 0] 43)).alloc (.cells #[.slice none 0 0,.slice none 0 0] 63)).heap.size=w.heap.size+2:=by simp
 rw[show (w.alloc (.cells #[.int .u8 0,.int .u8 0] 43)).heap.size=w.heap.size+1 by simp]at hres
 clear hw1;have hcall:=fun W (h:Below w.heap.size w W)=>q6r n c d zs W (hL.up h) hn
 have HS:Hid _:=hS;have HP:Hid _:=hP;have hbB:=hS.lt;clear hS hP hL;go_enter Tryz.func38,Tryz.ntmps38
 go_wp2_with fail
 generalize (w.alloc (.cells #[.int .u8 0,.int .u8 0] 43)).alloc (.cells #[.slice none 0 0,.slice none 0 0] 63)=w2 at *;refine (hcall w2 hw2).mono ?_
 rintro e w3 ⟨g,bs,rfl,hV,hl,hv,hb3,hge⟩
 have Hge:Hid (b<=g):=by show _<=_;omega
 clear hge;have hr3:=(hb3.block (w.heap.size+1) (by omega)).trans hres
 have c0:=qb hr3 0;have c1:=qb hr3 1;have z0:=frozen_of_row _ _ 0 _ _ hr3;have z1:=frozen_of_row _ _ 1 _ _ hr3;simp at c0 c1
 have HV:Hid (ValAt w3 g bs):=hV;have Hl:Hid (bs.length=n+1):=hl;have Hv:Hid _:=hv;have HB2:Hid _:=hw2;have HB3:Hid _:=hb3;have HR:Hid _:=hres;have HRR:Hid _:=hr3;have Hsz:Hid _:=hsz;clear hcall hbox hV hl hv hw2 hb3 hres hr3 hsz;go_wp2;have f:=qt HRR.out (.slice (some ⟨g,0,none⟩) (n+1) (n+1)) (.slice none 0 0);refine bodyPost_ret (v:=.agg #[.slice (some ⟨g,0,none⟩) (n+1) (n+1),.slice none 0 0]) (by simp[results,Tryz.results38,go_sem,f.1,f.2.1]) rfl ?_
 unfold WorkR;have q1:=HB2.out.size;have q2:=HB3.out.size;have q3:=(qh w3 (w.heap.size+1) (.slice (some ⟨g,0,none⟩) (n+1) (n+1)) (.slice none 0 0)).size;exact⟨((some ⟨g,0,none⟩,n+1,n+1),(none,0,0)),rfl,(HS.out.up HB2.out).fin HB3.out (qh ..) (by omega),⟨hi,q1w rfl HV.out Hl.out Hv.out HB3.out (qh ..) HR.out Hge.out,by omega,(HP.out.keep (KeepT.of_below HB2.out)).keep (q1o HB3.out (qh ..) HR.out)⟩,qW ((qd HB2.out HB3.out).mono (by omega)) (by omega) _ _⟩
theorem q7B(b n c hi:Nat)(d:Option Addr)(zs:List Int)(rest:List (Sk×Mp))(w:World)(hL:LtSl w d n c zs)(hn:n<=10000)(hS:StkAt w b w.heap.size ((rest.map (·.2)).reverse))(hP:Parts w n b hi rest)(hh:hi<=w.heap.size):
  Calls Tryz.prog 38 #[.pointer (some ⟨b,0,none⟩),.agg #[.int .u8 1,.int .u8 0],.slice d n c] w (WorkR n b w (skT (zN zs) (1,0) []) rest):=by
 have hlen:(zN zs).length=n:=by rw[qz];exact hL.sl.hlen
 have hw1:=qc w (.cells #[.int .u8 1,.int .u8 0] 43);have hw2:=qd hw1 (qc (w.alloc (.cells #[.int .u8 1,.int .u8 0] 43)) (.cells #[.slice none 0 0,.slice none 0 0] 63));have hbox:=(Below.heap_alloc (w.alloc (.cells #[.int .u8 1,.int .u8 0] 43)) (.cells #[.slice none 0 0,.slice none 0 0] 63) w.heap.size (by simp)).trans (MapKept.heap_alloc w _).1
 have hres:=(MapKept.heap_alloc (w.alloc (.cells #[.int .u8 1,.int .u8 0] 43)) (.cells #[.slice none 0 0,.slice none 0 0] 63)).1;have hsz:((w.alloc (.cells #[.int .u8 1,.int .u8 0] 43)).alloc (.cells #[.slice none 0 0,.slice none 0 0] 63)).heap.size=w.heap.size+2:=by simp
 rw[show (w.alloc (.cells #[.int .u8 1,.int .u8 0] 43)).heap.size=w.heap.size+1 by simp]at hres
 clear hw1;have hcall:=fun W (h:Below w.heap.size w W)=>q6s n c d zs W (hL.up h) hn
 have HS:Hid _:=hS;have HP:Hid _:=hP;have hbB:=hS.lt;clear hS hP hL;go_enter Tryz.func38,Tryz.ntmps38
 go_wp2_with fail
 generalize (w.alloc (.cells #[.int .u8 1,.int .u8 0] 43)).alloc (.cells #[.slice none 0 0,.slice none 0 0] 63)=w2 at *;refine (hcall w2 hw2).mono ?_
 rintro e w3 ⟨g,bs,rfl,hV,hl,hv,hb3,hge⟩
 have Hge:Hid (b<=g):=by show _<=_;omega
 clear hge;have hr3:=(hb3.block (w.heap.size+1) (by omega)).trans hres
 have c0:=qb hr3 0;have c1:=qb hr3 1;have z0:=frozen_of_row _ _ 0 _ _ hr3;have z1:=frozen_of_row _ _ 1 _ _ hr3;simp at c0 c1
 have HV:Hid (ValAt w3 g bs):=hV;have Hl:Hid (bs.length=n+1):=hl;have Hv:Hid _:=hv;have HB2:Hid _:=hw2;have HB3:Hid _:=hb3;have HR:Hid _:=hres;have HRR:Hid _:=hr3;have Hsz:Hid _:=hsz;clear hcall hbox hV hl hv hw2 hb3 hres hr3 hsz;go_wp2;have f:=qt HRR.out (.slice (some ⟨g,0,none⟩) (n+1) (n+1)) (.slice none 0 0);refine bodyPost_ret (v:=.agg #[.slice (some ⟨g,0,none⟩) (n+1) (n+1),.slice none 0 0]) (by simp[results,Tryz.results38,go_sem,f.1,f.2.1]) rfl ?_
 unfold WorkR;have q1:=HB2.out.size;have q2:=HB3.out.size;have q3:=(qh w3 (w.heap.size+1) (.slice (some ⟨g,0,none⟩) (n+1) (n+1)) (.slice none 0 0)).size;exact⟨((some ⟨g,0,none⟩,n+1,n+1),(none,0,0)),rfl,(HS.out.up HB2.out).fin HB3.out (qh ..) (by omega),⟨hi,q1w rfl HV.out Hl.out Hv.out HB3.out (qh ..) HR.out Hge.out,by omega,(HP.out.keep (KeepT.of_below HB2.out)).keep (q1o HB3.out (qh ..) HR.out)⟩,qW ((qd HB2.out HB3.out).mono (by omega)) (by omega) _ _⟩
theorem q7C(b n c hi p:Nat)(d:Option Addr)(zs:List Int)(rest:List (Sk×Mp))(w:World)(hL:LtSl w d n c zs)(hn:n<=10000)(hp:p<=7)(hS:StkAt w b w.heap.size ((rest.map (·.2)).reverse))(hP:Parts w n b hi rest)(hh:hi<=w.heap.size):
  Calls Tryz.prog 38 #[.pointer (some ⟨b,0,none⟩),.agg #[.int .u8 2,.int .u8 (p:Int)],.slice d n c] w (WorkR n b w (skT (zN zs) (2,p) []) rest):=by
 have hlen:(zN zs).length=n:=by rw[qz];exact hL.sl.hlen
 have hw1:=qc w (.cells #[.int .u8 2,.int .u8 (p:Int)] 43);have hw2:=qd hw1 (qc (w.alloc (.cells #[.int .u8 2,.int .u8 (p:Int)] 43)) (.cells #[.slice none 0 0,.slice none 0 0] 63));have hbox:=(Below.heap_alloc (w.alloc (.cells #[.int .u8 2,.int .u8 (p:Int)] 43)) (.cells #[.slice none 0 0,.slice none 0 0] 63) w.heap.size (by simp)).trans (MapKept.heap_alloc w _).1
 have hres:=(MapKept.heap_alloc (w.alloc (.cells #[.int .u8 2,.int .u8 (p:Int)] 43)) (.cells #[.slice none 0 0,.slice none 0 0] 63)).1;have hsz:((w.alloc (.cells #[.int .u8 2,.int .u8 (p:Int)] 43)).alloc (.cells #[.slice none 0 0,.slice none 0 0] 63)).heap.size=w.heap.size+2:=by simp
 rw[show (w.alloc (.cells #[.int .u8 2,.int .u8 (p:Int)] 43)).heap.size=w.heap.size+1 by simp]at hres
 clear hw1;have hcall:=fun W (h:Below w.heap.size w W)=>q6t n c p d zs W (hL.up h) hn hp
 have HS:Hid _:=hS;have HP:Hid _:=hP;have hbB:=hS.lt;clear hS hP hL;go_enter Tryz.func38,Tryz.ntmps38
 go_wp2_with fail
 generalize (w.alloc (.cells #[.int .u8 2,.int .u8 (p:Int)] 43)).alloc (.cells #[.slice none 0 0,.slice none 0 0] 63)=w2 at *;refine (hcall w2 hw2).mono ?_
 rintro e w3 ⟨g,bs,rfl,hV,hl,hv,hb3,hge⟩
 have Hge:Hid (b<=g):=by show _<=_;omega
 clear hge;have hr3:=(hb3.block (w.heap.size+1) (by omega)).trans hres
 have c0:=qb hr3 0;have c1:=qb hr3 1;have z0:=frozen_of_row _ _ 0 _ _ hr3;have z1:=frozen_of_row _ _ 1 _ _ hr3;simp at c0 c1
 have HV:Hid (ValAt w3 g bs):=hV;have Hl:Hid (bs.length=n+1):=hl;have Hv:Hid _:=hv;have HB2:Hid _:=hw2;have HB3:Hid _:=hb3;have HR:Hid _:=hres;have HRR:Hid _:=hr3;have Hsz:Hid _:=hsz;clear hcall hbox hV hl hv hw2 hb3 hres hr3 hsz;go_wp2;have f:=qt HRR.out (.slice (some ⟨g,0,none⟩) (n+1) (n+1)) (.slice none 0 0);refine bodyPost_ret (v:=.agg #[.slice (some ⟨g,0,none⟩) (n+1) (n+1),.slice none 0 0]) (by simp[results,Tryz.results38,go_sem,f.1,f.2.1]) rfl ?_
 unfold WorkR;have q1:=HB2.out.size;have q2:=HB3.out.size;have q3:=(qh w3 (w.heap.size+1) (.slice (some ⟨g,0,none⟩) (n+1) (n+1)) (.slice none 0 0)).size;exact⟨((some ⟨g,0,none⟩,n+1,n+1),(none,0,0)),rfl,(HS.out.up HB2.out).fin HB3.out (qh ..) (by omega),⟨hi,q1w rfl HV.out Hl.out Hv.out HB3.out (qh ..) HR.out Hge.out,by omega,(HP.out.keep (KeepT.of_below HB2.out)).keep (q1o HB3.out (qh ..) HR.out)⟩,qW ((qd HB2.out HB3.out).mono (by omega)) (by omega) _ _⟩
theorem q7D(b n c hi:Nat)(d:Option Addr)(zs:List Int)(rest:List (Sk×Mp))(w:World)(hL:LtSl w d n c zs)(hn:n<=10000)(hS:StkAt w b w.heap.size ((rest.map (·.2)).reverse))(hP:Parts w n b hi rest)(hh:hi<=w.heap.size):
  Calls Tryz.prog 38 #[.pointer (some ⟨b,0,none⟩),.agg #[.int .u8 3,.int .u8 0],.slice d n c] w (WorkR n b w (skT (zN zs) (3,0) []) rest):=by
 have hlen:(zN zs).length=n:=by rw[qz];exact hL.sl.hlen
 have hw1:=qc w (.cells #[.int .u8 3,.int .u8 0] 43);have hw2:=qd hw1 (qc (w.alloc (.cells #[.int .u8 3,.int .u8 0] 43)) (.cells #[.slice none 0 0,.slice none 0 0] 63));have hbox:=(Below.heap_alloc (w.alloc (.cells #[.int .u8 3,.int .u8 0] 43)) (.cells #[.slice none 0 0,.slice none 0 0] 63) w.heap.size (by simp)).trans (MapKept.heap_alloc w _).1
 have hres:=(MapKept.heap_alloc (w.alloc (.cells #[.int .u8 3,.int .u8 0] 43)) (.cells #[.slice none 0 0,.slice none 0 0] 63)).1;have hsz:((w.alloc (.cells #[.int .u8 3,.int .u8 0] 43)).alloc (.cells #[.slice none 0 0,.slice none 0 0] 63)).heap.size=w.heap.size+2:=by simp
 rw[show (w.alloc (.cells #[.int .u8 3,.int .u8 0] 43)).heap.size=w.heap.size+1 by simp]at hres
 clear hw1;have hcall:=fun W (h:Below w.heap.size w W)=>q6u n c d zs W (hL.up h) hn
 have HS:Hid _:=hS;have HP:Hid _:=hP;have hbB:=hS.lt;clear hS hP hL;go_enter Tryz.func38,Tryz.ntmps38
 go_wp2_with fail
 generalize (w.alloc (.cells #[.int .u8 3,.int .u8 0] 43)).alloc (.cells #[.slice none 0 0,.slice none 0 0] 63)=w2 at *;refine (hcall w2 hw2).mono ?_
 rintro e w3 ⟨g,bs,rfl,hV,hl,hv,hb3,hge⟩
 have Hge:Hid (b<=g):=by show _<=_;omega
 clear hge;have hr3:=(hb3.block (w.heap.size+1) (by omega)).trans hres
 have c0:=qb hr3 0;have c1:=qb hr3 1;have z0:=frozen_of_row _ _ 0 _ _ hr3;have z1:=frozen_of_row _ _ 1 _ _ hr3;simp at c0 c1
 have HV:Hid (ValAt w3 g bs):=hV;have Hl:Hid (bs.length=n+1):=hl;have Hv:Hid _:=hv;have HB2:Hid _:=hw2;have HB3:Hid _:=hb3;have HR:Hid _:=hres;have HRR:Hid _:=hr3;have Hsz:Hid _:=hsz;clear hcall hbox hV hl hv hw2 hb3 hres hr3 hsz;go_wp2;have f:=qt HRR.out (.slice (some ⟨g,0,none⟩) (n+1) (n+1)) (.slice none 0 0);refine bodyPost_ret (v:=.agg #[.slice (some ⟨g,0,none⟩) (n+1) (n+1),.slice none 0 0]) (by simp[results,Tryz.results38,go_sem,f.1,f.2.1]) rfl ?_
 unfold WorkR;have q1:=HB2.out.size;have q2:=HB3.out.size;have q3:=(qh w3 (w.heap.size+1) (.slice (some ⟨g,0,none⟩) (n+1) (n+1)) (.slice none 0 0)).size;exact⟨((some ⟨g,0,none⟩,n+1,n+1),(none,0,0)),rfl,(HS.out.up HB2.out).fin HB3.out (qh ..) (by omega),⟨hi,q1w rfl HV.out Hl.out Hv.out HB3.out (qh ..) HR.out Hge.out,by omega,(HP.out.keep (KeepT.of_below HB2.out)).keep (q1o HB3.out (qh ..) HR.out)⟩,qW ((qd HB2.out HB3.out).mono (by omega)) (by omega) _ _⟩
theorem q7E(b n c hi:Nat)(d:Option Addr)(zs:List Int)(rest:List (Sk×Mp))(w:World)(hL:LtSl w d n c zs)(hn:n<=10000)(hS:StkAt w b w.heap.size ((rest.map (·.2)).reverse))(hP:Parts w n b hi rest)(hh:hi<=w.heap.size):
  Calls Tryz.prog 38 #[.pointer (some ⟨b,0,none⟩),.agg #[.int .u8 4,.int .u8 0],.slice d n c] w (WorkR n b w (skT (zN zs) (4,0) []) rest):=by
 have hlen:(zN zs).length=n:=by rw[qz];exact hL.sl.hlen
 have hw1:=qc w (.cells #[.int .u8 4,.int .u8 0] 43);have hw2:=qd hw1 (qc (w.alloc (.cells #[.int .u8 4,.int .u8 0] 43)) (.cells #[.slice none 0 0,.slice none 0 0] 63));have hbox:=(Below.heap_alloc (w.alloc (.cells #[.int .u8 4,.int .u8 0] 43)) (.cells #[.slice none 0 0,.slice none 0 0] 63) w.heap.size (by simp)).trans (MapKept.heap_alloc w _).1
 have hres:=(MapKept.heap_alloc (w.alloc (.cells #[.int .u8 4,.int .u8 0] 43)) (.cells #[.slice none 0 0,.slice none 0 0] 63)).1;have hsz:((w.alloc (.cells #[.int .u8 4,.int .u8 0] 43)).alloc (.cells #[.slice none 0 0,.slice none 0 0] 63)).heap.size=w.heap.size+2:=by simp
 rw[show (w.alloc (.cells #[.int .u8 4,.int .u8 0] 43)).heap.size=w.heap.size+1 by simp]at hres
 clear hw1;have hcall:=fun W (h:Below w.heap.size w W)=>q6v n c d zs W (hL.up h) hn
 have HS:Hid _:=hS;have HP:Hid _:=hP;have hbB:=hS.lt;clear hS hP hL;go_enter Tryz.func38,Tryz.ntmps38
 go_wp2_with fail
 generalize (w.alloc (.cells #[.int .u8 4,.int .u8 0] 43)).alloc (.cells #[.slice none 0 0,.slice none 0 0] 63)=w2 at *;refine (hcall w2 hw2).mono ?_
 rintro e w3 ⟨g,bs,rfl,hV,hl,hv,hb3,hge⟩
 have Hge:Hid (b<=g):=by show _<=_;omega
 clear hge;have hr3:=(hb3.block (w.heap.size+1) (by omega)).trans hres
 have c0:=qb hr3 0;have c1:=qb hr3 1;have z0:=frozen_of_row _ _ 0 _ _ hr3;have z1:=frozen_of_row _ _ 1 _ _ hr3;simp at c0 c1
 have HV:Hid (ValAt w3 g bs):=hV;have Hl:Hid (bs.length=n+1):=hl;have Hv:Hid _:=hv;have HB2:Hid _:=hw2;have HB3:Hid _:=hb3;have HR:Hid _:=hres;have HRR:Hid _:=hr3;have Hsz:Hid _:=hsz;clear hcall hbox hV hl hv hw2 hb3 hres hr3 hsz;go_wp2;have f:=qt HRR.out (.slice (some ⟨g,0,none⟩) (n+1) (n+1)) (.slice none 0 0);refine bodyPost_ret (v:=.agg #[.slice (some ⟨g,0,none⟩) (n+1) (n+1),.slice none 0 0]) (by simp[results,Tryz.results38,go_sem,f.1,f.2.1]) rfl ?_
 unfold WorkR;have q1:=HB2.out.size;have q2:=HB3.out.size;have q3:=(qh w3 (w.heap.size+1) (.slice (some ⟨g,0,none⟩) (n+1) (n+1)) (.slice none 0 0)).size;exact⟨((some ⟨g,0,none⟩,n+1,n+1),(none,0,0)),rfl,(HS.out.up HB2.out).fin HB3.out (qh ..) (by omega),⟨hi,q1w rfl HV.out Hl.out Hv.out HB3.out (qh ..) HR.out Hge.out,by omega,(HP.out.keep (KeepT.of_below HB2.out)).keep (q1o HB3.out (qh ..) HR.out)⟩,qW ((qd HB2.out HB3.out).mono (by omega)) (by omega) _ _⟩
theorem q7F(b n c hi:Nat)(d:Option Addr)(zs:List Int)(rest:List (Sk×Mp))(w:World)(hL:LtSl w d n c zs)(hn:n<=10000)(hS:StkAt w b w.heap.size ((rest.map (·.2)).reverse))(hP:Parts w n b hi rest)(hh:hi<=w.heap.size):
  Calls Tryz.prog 38 #[.pointer (some ⟨b,0,none⟩),.agg #[.int .u8 5,.int .u8 0],.slice d n c] w (WorkR n b w (skT (zN zs) (5,0) []) rest):=by
 have hlen:(zN zs).length=n:=by rw[qz];exact hL.sl.hlen
 have hw1:=qc w (.cells #[.int .u8 5,.int .u8 0] 43);have hw2:=qd hw1 (qc (w.alloc (.cells #[.int .u8 5,.int .u8 0] 43)) (.cells #[.slice none 0 0,.slice none 0 0] 63));have hbox:=(Below.heap_alloc (w.alloc (.cells #[.int .u8 5,.int .u8 0] 43)) (.cells #[.slice none 0 0,.slice none 0 0] 63) w.heap.size (by simp)).trans (MapKept.heap_alloc w _).1
 have hres:=(MapKept.heap_alloc (w.alloc (.cells #[.int .u8 5,.int .u8 0] 43)) (.cells #[.slice none 0 0,.slice none 0 0] 63)).1;have hsz:((w.alloc (.cells #[.int .u8 5,.int .u8 0] 43)).alloc (.cells #[.slice none 0 0,.slice none 0 0] 63)).heap.size=w.heap.size+2:=by simp
 rw[show (w.alloc (.cells #[.int .u8 5,.int .u8 0] 43)).heap.size=w.heap.size+1 by simp]at hres
 clear hw1;have hcall:=fun W (h:Below w.heap.size w W)=>q6w n c d zs W (hL.up h) hn
 have HS:Hid _:=hS;have HP:Hid _:=hP;have hbB:=hS.lt;clear hS hP hL;go_enter Tryz.func38,Tryz.ntmps38
 go_wp2_with fail
 generalize (w.alloc (.cells #[.int .u8 5,.int .u8 0] 43)).alloc (.cells #[.slice none 0 0,.slice none 0 0] 63)=w2 at *;refine (hcall w2 hw2).mono ?_
 rintro e w3 ⟨g,bs,rfl,hV,hl,hv,hb3,hge⟩
 have Hge:Hid (b<=g):=by show _<=_;omega
 clear hge;have hr3:=(hb3.block (w.heap.size+1) (by omega)).trans hres
 have c0:=qb hr3 0;have c1:=qb hr3 1;have z0:=frozen_of_row _ _ 0 _ _ hr3;have z1:=frozen_of_row _ _ 1 _ _ hr3;simp at c0 c1
 have HV:Hid (ValAt w3 g bs):=hV;have Hl:Hid (bs.length=n+1):=hl;have Hv:Hid _:=hv;have HB2:Hid _:=hw2;have HB3:Hid _:=hb3;have HR:Hid _:=hres;have HRR:Hid _:=hr3;have Hsz:Hid _:=hsz;clear hcall hbox hV hl hv hw2 hb3 hres hr3 hsz;go_wp2;have f:=qt HRR.out (.slice (some ⟨g,0,none⟩) (n+1) (n+1)) (.slice none 0 0);refine bodyPost_ret (v:=.agg #[.slice (some ⟨g,0,none⟩) (n+1) (n+1),.slice none 0 0]) (by simp[results,Tryz.results38,go_sem,f.1,f.2.1]) rfl ?_
 unfold WorkR;have q1:=HB2.out.size;have q2:=HB3.out.size;have q3:=(qh w3 (w.heap.size+1) (.slice (some ⟨g,0,none⟩) (n+1) (n+1)) (.slice none 0 0)).size;exact⟨((some ⟨g,0,none⟩,n+1,n+1),(none,0,0)),rfl,(HS.out.up HB2.out).fin HB3.out (qh ..) (by omega),⟨hi,q1w rfl HV.out Hl.out Hv.out HB3.out (qh ..) HR.out Hge.out,by omega,(HP.out.keep (KeepT.of_below HB2.out)).keep (q1o HB3.out (qh ..) HR.out)⟩,qW ((qd HB2.out HB3.out).mono (by omega)) (by omega) _ _⟩
theorem q7G(b n c hi:Nat)(d:Option Addr)(zs:List Int)(x:Sk)(px:Mp)(rest:List (Sk×Mp))(w:World)(hL:LtSl w d n c zs)(hn:n<=10000)(hS:StkAt w b w.heap.size ((((x,px)::rest).map (·.2)).reverse))(hP:Parts w n b hi ((x,px)::rest))(hh:hi<=w.heap.size)(hx:x.1=false)(hr:rest.length<=1000000):
  Calls Tryz.prog 38 #[.pointer (some ⟨b,0,none⟩),.agg #[.int .u8 6,.int .u8 0],.slice d n c] w (WorkR n b w (skT (zN zs) (6,0) [x]) rest):=by
 have hlen:(zN zs).length=n:=by rw[qz];exact hL.sl.hlen
 obtain⟨lo,hpx,hlo,hPr⟩:=hP;obtain⟨p1,p2⟩:=px;rw[List.map_cons,List.reverse_cons]at hS;dsimp only at hS
 obtain⟨ga,av,hp1,hVa,hla,hva,_⟩:=hpx.2 hx;dsimp only at hp1
 subst hp1;have hw1:=qc w (.cells #[.int .u8 6,.int .u8 0] 43);have hw2:=qd hw1 (qc (w.alloc (.cells #[.int .u8 6,.int .u8 0] 43)) (.cells #[.slice none 0 0,.slice none 0 0] 63));have hbox:=(Below.heap_alloc (w.alloc (.cells #[.int .u8 6,.int .u8 0] 43)) (.cells #[.slice none 0 0,.slice none 0 0] 63) w.heap.size (by simp)).trans (MapKept.heap_alloc w _).1
 have hres:=(MapKept.heap_alloc (w.alloc (.cells #[.int .u8 6,.int .u8 0] 43)) (.cells #[.slice none 0 0,.slice none 0 0] 63)).1;have hsz:((w.alloc (.cells #[.int .u8 6,.int .u8 0] 43)).alloc (.cells #[.slice none 0 0,.slice none 0 0] 63)).heap.size=w.heap.size+2:=by simp
 rw[show (w.alloc (.cells #[.int .u8 6,.int .u8 0] 43)).heap.size=w.heap.size+1 by simp]at hres
 clear hw1
 have HSEM:Hid (∀i,unV n 6 x.2.1 i↔(skT (zN zs) (6,0) [x]).2.1 i):=fun i=>by
  show _↔unV (zN zs).length 6 x.2.1 i
  rw[hlen]
 have HTY:Hid ((skT (zN zs) (6,0) [x]).1=false):=rfl;generalize skT (zN zs) (6,0) [x]=X at *;have hone:=fun W (h:ValAt W ga av)=>q8D n ga av x.2.1 W h hla hva hn
 generalize unV n 6 x.2.1=VV at *;have hbB:=hS.lt;have HPR:Hid (Parts w n b lo rest):=hPr;have HVA:Hid (ValAt w ga av):=hVa;have HS:Hid _:=hS;clear hS hPr hVa hva hla hL hpx hlen;go_enter Tryz.func38,Tryz.ntmps38
 go_wp2;generalize (w.alloc (.cells #[.int .u8 6,.int .u8 0] 43)).alloc (.cells #[.slice none 0 0,.slice none 0 0] 63)=w2 at *;have hS2:=HS.out.up hw2;have htk:=qm b w.heap.size _ _ w2.drew (hS2.up (Below.refl _ _).drew) (by simpa using hr)
 unfold slV at htk;dsimp only at htk
 have hk0:=qb hbox 0;simp at hk0
 have hfd:=q1Y (.slice (some ⟨ga,0,none⟩) (n+1) (n+1)) (.slice p2.1 p2.2.1 p2.2.2)
 have hkS:∀W:World,W.cell? ⟨w.heap.size,0,none⟩=some (.int .u8 6)->∀u v,((W.setCell ⟨w.heap.size+1,0,none⟩ u).setCell ⟨w.heap.size+1,1,none⟩ v).cell? ⟨w.heap.size,0,none⟩=some (.int .u8 6):=fun W h u v=>by
  rw[World.cell?_setCell_other _ _ _ _ (by intro e;injection e;omega),World.cell?_setCell_other _ _ _ _ (by intro e;injection e;omega)];exact h
 have HTK:Hid (∀w3,StkAt w3 b w.heap.size ((rest.map (·.2)).reverse)->w2.drew.grownBy w3 (some b)->w3.cell? ⟨w.heap.size,0,none⟩=some (.int .u8 6)/\ValAt w3 ga av/\Parts w3 n b lo rest/\w3.heap[w.heap.size+1]? = some (.cells #[.slice none 0 0,.slice none 0 0] 63 (0,0))/\Below b w w3):=fun w3 h1 h2=>by
  obtain⟨v0,hv0,_⟩:=hS2.c;have hK:KeepT w.heap.size w w3:=(KeepT.of_below hw2).trans (KeepT.of_grown (w:=w2) ⟨h2.os,h2.tape,h2.output,h2.size,h2.block⟩ hv0 (by decide) (by decide) (by decide))
  refine⟨(qb ((h2.block w.heap.size (by show _<w2.heap.size;omega) (fun e=>by injection e with e;omega)).trans hbox) 0).trans (by simp),(hK _ _ _ _ HVA.out (Or.inl rfl)).trans HVA.out,HPR.out.keep (hK.mono (by omega)),(h2.block _ (by show _<w2.heap.size;omega) (fun e=>by injection e with e;omega)).trans hres,?_⟩
  exact((hw2.mono (by omega)).trans ⟨h2.os,h2.tape,h2.output,h2.size,fun k hk=>h2.block k (by show _<w2.heap.size;omega) (fun e=>by injection e with e;omega)⟩)
 have Hsz:Hid _:=hsz;have HB2:Hid _:=hw2;clear hbox hS2 hsz hw2 hres
 go_region_held3 (fun w'=>w'.cell? ⟨w.heap.size,0,none⟩=some (.int .u8 6)) (first|exact hk0|assumption|exact hkS _ ‹_› _ _) (first|(go_at_call 39;refine htk.mono ?_;rintro e w3 ⟨rfl,hs3,hg3⟩;obtain⟨k3,kv3,kp3,kr3,kb3⟩:=HTK.out _ hs3 hg3;clear hg3)|(go_at_call 59;refine (hone w3 kv3).mono ?_;rintro e w4 ⟨g,bs,rfl,hV,hl,hv,hb4,hge⟩;have k4:=qp k3 hb4;have hr4:=(hb4.block _ (Array.getElem?_eq_some_iff.1 kr3).1).trans kr3;have c0:=qb hr4 0;have c1:=qb hr4 1;have z0:=frozen_of_row _ _ 0 _ _ hr4;have z1:=frozen_of_row _ _ 1 _ _ hr4;simp at c0 c1))
 go_wp2;have f:=qt hr4 (.slice (some ⟨g,0,none⟩) (n+1) (n+1)) (.slice none 0 0);refine bodyPost_ret (v:=.agg #[.slice (some ⟨g,0,none⟩) (n+1) (n+1),.slice none 0 0]) (by simp[results,Tryz.results38,go_sem,f.1,f.2.1]) rfl ?_
 unfold WorkR;have q1:=HB2.out.size;have q2:=hb4.size;have q3:=(qh w4 (w.heap.size+1) (.slice (some ⟨g,0,none⟩) (n+1) (n+1)) (.slice none 0 0)).size;have q4:=(aes kr3).1
 exact⟨((some ⟨g,0,none⟩,n+1,n+1),(none,0,0)),rfl,hs3.fin hb4 (qh ..) (by omega),⟨lo,q1w HTY.out hV hl (fun i hi=>(hv i hi).trans (HSEM.out i)) hb4 (qh ..) kr3 (by omega),by omega,kp3.keep (q1o hb4 (qh ..) kr3)⟩,qW (kb3.trans (hb4.mono (by omega))) (by omega) _ _⟩
theorem q7H(b n c hi:Nat)(d:Option Addr)(zs:List Int)(x:Sk)(px:Mp)(rest:List (Sk×Mp))(w:World)(hL:LtSl w d n c zs)(hn:n<=10000)(hS:StkAt w b w.heap.size ((((x,px)::rest).map (·.2)).reverse))(hP:Parts w n b hi ((x,px)::rest))(hh:hi<=w.heap.size)(hx:x.1=false)(hr:rest.length<=1000000):
  Calls Tryz.prog 38 #[.pointer (some ⟨b,0,none⟩),.agg #[.int .u8 7,.int .u8 0],.slice d n c] w (WorkR n b w (skT (zN zs) (7,0) [x]) rest):=by
 have hlen:(zN zs).length=n:=by rw[qz];exact hL.sl.hlen
 obtain⟨lo,hpx,hlo,hPr⟩:=hP;obtain⟨p1,p2⟩:=px;rw[List.map_cons,List.reverse_cons]at hS;dsimp only at hS
 obtain⟨ga,av,hp1,hVa,hla,hva,_⟩:=hpx.2 hx;dsimp only at hp1
 subst hp1;have hw1:=qc w (.cells #[.int .u8 7,.int .u8 0] 43);have hw2:=qd hw1 (qc (w.alloc (.cells #[.int .u8 7,.int .u8 0] 43)) (.cells #[.slice none 0 0,.slice none 0 0] 63));have hbox:=(Below.heap_alloc (w.alloc (.cells #[.int .u8 7,.int .u8 0] 43)) (.cells #[.slice none 0 0,.slice none 0 0] 63) w.heap.size (by simp)).trans (MapKept.heap_alloc w _).1
 have hres:=(MapKept.heap_alloc (w.alloc (.cells #[.int .u8 7,.int .u8 0] 43)) (.cells #[.slice none 0 0,.slice none 0 0] 63)).1;have hsz:((w.alloc (.cells #[.int .u8 7,.int .u8 0] 43)).alloc (.cells #[.slice none 0 0,.slice none 0 0] 63)).heap.size=w.heap.size+2:=by simp
 rw[show (w.alloc (.cells #[.int .u8 7,.int .u8 0] 43)).heap.size=w.heap.size+1 by simp]at hres
 clear hw1
 have HSEM:Hid (∀i,unV n 7 x.2.1 i↔(skT (zN zs) (7,0) [x]).2.1 i):=fun i=>by
  show _↔unV (zN zs).length 7 x.2.1 i
  rw[hlen]
 have HTY:Hid ((skT (zN zs) (7,0) [x]).1=false):=rfl;generalize skT (zN zs) (7,0) [x]=X at *;have hone:=fun W (h:ValAt W ga av)=>q8E n ga av x.2.1 W h hla hva hn
 generalize unV n 7 x.2.1=VV at *;have hbB:=hS.lt;have HPR:Hid (Parts w n b lo rest):=hPr;have HVA:Hid (ValAt w ga av):=hVa;have HS:Hid _:=hS;clear hS hPr hVa hva hla hL hpx hlen;go_enter Tryz.func38,Tryz.ntmps38
 go_wp2;generalize (w.alloc (.cells #[.int .u8 7,.int .u8 0] 43)).alloc (.cells #[.slice none 0 0,.slice none 0 0] 63)=w2 at *;have hS2:=HS.out.up hw2;have htk:=qm b w.heap.size _ _ w2.drew (hS2.up (Below.refl _ _).drew) (by simpa using hr)
 unfold slV at htk;dsimp only at htk
 have hk0:=qb hbox 0;simp at hk0
 have hfd:=q1Y (.slice (some ⟨ga,0,none⟩) (n+1) (n+1)) (.slice p2.1 p2.2.1 p2.2.2)
 have hkS:∀W:World,W.cell? ⟨w.heap.size,0,none⟩=some (.int .u8 7)->∀u v,((W.setCell ⟨w.heap.size+1,0,none⟩ u).setCell ⟨w.heap.size+1,1,none⟩ v).cell? ⟨w.heap.size,0,none⟩=some (.int .u8 7):=fun W h u v=>by
  rw[World.cell?_setCell_other _ _ _ _ (by intro e;injection e;omega),World.cell?_setCell_other _ _ _ _ (by intro e;injection e;omega)];exact h
 have HTK:Hid (∀w3,StkAt w3 b w.heap.size ((rest.map (·.2)).reverse)->w2.drew.grownBy w3 (some b)->w3.cell? ⟨w.heap.size,0,none⟩=some (.int .u8 7)/\ValAt w3 ga av/\Parts w3 n b lo rest/\w3.heap[w.heap.size+1]? = some (.cells #[.slice none 0 0,.slice none 0 0] 63 (0,0))/\Below b w w3):=fun w3 h1 h2=>by
  obtain⟨v0,hv0,_⟩:=hS2.c;have hK:KeepT w.heap.size w w3:=(KeepT.of_below hw2).trans (KeepT.of_grown (w:=w2) ⟨h2.os,h2.tape,h2.output,h2.size,h2.block⟩ hv0 (by decide) (by decide) (by decide))
  refine⟨(qb ((h2.block w.heap.size (by show _<w2.heap.size;omega) (fun e=>by injection e with e;omega)).trans hbox) 0).trans (by simp),(hK _ _ _ _ HVA.out (Or.inl rfl)).trans HVA.out,HPR.out.keep (hK.mono (by omega)),(h2.block _ (by show _<w2.heap.size;omega) (fun e=>by injection e with e;omega)).trans hres,?_⟩
  exact((hw2.mono (by omega)).trans ⟨h2.os,h2.tape,h2.output,h2.size,fun k hk=>h2.block k (by show _<w2.heap.size;omega) (fun e=>by injection e with e;omega)⟩)
 have Hsz:Hid _:=hsz;have HB2:Hid _:=hw2;clear hbox hS2 hsz hw2 hres
 go_region_held3 (fun w'=>w'.cell? ⟨w.heap.size,0,none⟩=some (.int .u8 7)) (first|exact hk0|assumption|exact hkS _ ‹_› _ _) (first|(go_at_call 39;refine htk.mono ?_;rintro e w3 ⟨rfl,hs3,hg3⟩;obtain⟨k3,kv3,kp3,kr3,kb3⟩:=HTK.out _ hs3 hg3;clear hg3)|(go_at_call 59;refine (hone w3 kv3).mono ?_;rintro e w4 ⟨g,bs,rfl,hV,hl,hv,hb4,hge⟩;have k4:=qp k3 hb4;have hr4:=(hb4.block _ (Array.getElem?_eq_some_iff.1 kr3).1).trans kr3;have c0:=qb hr4 0;have c1:=qb hr4 1;have z0:=frozen_of_row _ _ 0 _ _ hr4;have z1:=frozen_of_row _ _ 1 _ _ hr4;simp at c0 c1))
 go_wp2;have f:=qt hr4 (.slice (some ⟨g,0,none⟩) (n+1) (n+1)) (.slice none 0 0);refine bodyPost_ret (v:=.agg #[.slice (some ⟨g,0,none⟩) (n+1) (n+1),.slice none 0 0]) (by simp[results,Tryz.results38,go_sem,f.1,f.2.1]) rfl ?_
 unfold WorkR;have q1:=HB2.out.size;have q2:=hb4.size;have q3:=(qh w4 (w.heap.size+1) (.slice (some ⟨g,0,none⟩) (n+1) (n+1)) (.slice none 0 0)).size;have q4:=(aes kr3).1
 exact⟨((some ⟨g,0,none⟩,n+1,n+1),(none,0,0)),rfl,hs3.fin hb4 (qh ..) (by omega),⟨lo,q1w HTY.out hV hl (fun i hi=>(hv i hi).trans (HSEM.out i)) hb4 (qh ..) kr3 (by omega),by omega,kp3.keep (q1o hb4 (qh ..) kr3)⟩,qW (kb3.trans (hb4.mono (by omega))) (by omega) _ _⟩
theorem q7I(b n c hi:Nat)(d:Option Addr)(zs:List Int)(x:Sk)(px:Mp)(rest:List (Sk×Mp))(w:World)(hL:LtSl w d n c zs)(hn:n<=10000)(hS:StkAt w b w.heap.size ((((x,px)::rest).map (·.2)).reverse))(hP:Parts w n b hi ((x,px)::rest))(hh:hi<=w.heap.size)(hx:x.1=false)(hr:rest.length<=1000000):
  Calls Tryz.prog 38 #[.pointer (some ⟨b,0,none⟩),.agg #[.int .u8 8,.int .u8 0],.slice d n c] w (WorkR n b w (skT (zN zs) (8,0) [x]) rest):=by
 have hlen:(zN zs).length=n:=by rw[qz];exact hL.sl.hlen
 obtain⟨lo,hpx,hlo,hPr⟩:=hP;obtain⟨p1,p2⟩:=px;rw[List.map_cons,List.reverse_cons]at hS;dsimp only at hS
 obtain⟨ga,av,hp1,hVa,hla,hva,_⟩:=hpx.2 hx;dsimp only at hp1
 subst hp1;have hw1:=qc w (.cells #[.int .u8 8,.int .u8 0] 43);have hw2:=qd hw1 (qc (w.alloc (.cells #[.int .u8 8,.int .u8 0] 43)) (.cells #[.slice none 0 0,.slice none 0 0] 63));have hbox:=(Below.heap_alloc (w.alloc (.cells #[.int .u8 8,.int .u8 0] 43)) (.cells #[.slice none 0 0,.slice none 0 0] 63) w.heap.size (by simp)).trans (MapKept.heap_alloc w _).1
 have hres:=(MapKept.heap_alloc (w.alloc (.cells #[.int .u8 8,.int .u8 0] 43)) (.cells #[.slice none 0 0,.slice none 0 0] 63)).1;have hsz:((w.alloc (.cells #[.int .u8 8,.int .u8 0] 43)).alloc (.cells #[.slice none 0 0,.slice none 0 0] 63)).heap.size=w.heap.size+2:=by simp
 rw[show (w.alloc (.cells #[.int .u8 8,.int .u8 0] 43)).heap.size=w.heap.size+1 by simp]at hres
 clear hw1
 have HSEM:Hid (∀i,unV n 8 x.2.1 i↔(skT (zN zs) (8,0) [x]).2.1 i):=fun i=>by
  show _↔unV (zN zs).length 8 x.2.1 i
  rw[hlen]
 have HTY:Hid ((skT (zN zs) (8,0) [x]).1=false):=rfl;generalize skT (zN zs) (8,0) [x]=X at *;have hone:=fun W (h:ValAt W ga av)=>q8F n ga av x.2.1 W h hla hva hn
 generalize unV n 8 x.2.1=VV at *;have hbB:=hS.lt;have HPR:Hid (Parts w n b lo rest):=hPr;have HVA:Hid (ValAt w ga av):=hVa;have HS:Hid _:=hS;clear hS hPr hVa hva hla hL hpx hlen;go_enter Tryz.func38,Tryz.ntmps38
 go_wp2;generalize (w.alloc (.cells #[.int .u8 8,.int .u8 0] 43)).alloc (.cells #[.slice none 0 0,.slice none 0 0] 63)=w2 at *;have hS2:=HS.out.up hw2;have htk:=qm b w.heap.size _ _ w2.drew (hS2.up (Below.refl _ _).drew) (by simpa using hr)
 unfold slV at htk;dsimp only at htk
 have hk0:=qb hbox 0;simp at hk0
 have hfd:=q1Y (.slice (some ⟨ga,0,none⟩) (n+1) (n+1)) (.slice p2.1 p2.2.1 p2.2.2)
 have hkS:∀W:World,W.cell? ⟨w.heap.size,0,none⟩=some (.int .u8 8)->∀u v,((W.setCell ⟨w.heap.size+1,0,none⟩ u).setCell ⟨w.heap.size+1,1,none⟩ v).cell? ⟨w.heap.size,0,none⟩=some (.int .u8 8):=fun W h u v=>by
  rw[World.cell?_setCell_other _ _ _ _ (by intro e;injection e;omega),World.cell?_setCell_other _ _ _ _ (by intro e;injection e;omega)];exact h
 have HTK:Hid (∀w3,StkAt w3 b w.heap.size ((rest.map (·.2)).reverse)->w2.drew.grownBy w3 (some b)->w3.cell? ⟨w.heap.size,0,none⟩=some (.int .u8 8)/\ValAt w3 ga av/\Parts w3 n b lo rest/\w3.heap[w.heap.size+1]? = some (.cells #[.slice none 0 0,.slice none 0 0] 63 (0,0))/\Below b w w3):=fun w3 h1 h2=>by
  obtain⟨v0,hv0,_⟩:=hS2.c;have hK:KeepT w.heap.size w w3:=(KeepT.of_below hw2).trans (KeepT.of_grown (w:=w2) ⟨h2.os,h2.tape,h2.output,h2.size,h2.block⟩ hv0 (by decide) (by decide) (by decide))
  refine⟨(qb ((h2.block w.heap.size (by show _<w2.heap.size;omega) (fun e=>by injection e with e;omega)).trans hbox) 0).trans (by simp),(hK _ _ _ _ HVA.out (Or.inl rfl)).trans HVA.out,HPR.out.keep (hK.mono (by omega)),(h2.block _ (by show _<w2.heap.size;omega) (fun e=>by injection e with e;omega)).trans hres,?_⟩
  exact((hw2.mono (by omega)).trans ⟨h2.os,h2.tape,h2.output,h2.size,fun k hk=>h2.block k (by show _<w2.heap.size;omega) (fun e=>by injection e with e;omega)⟩)
 have Hsz:Hid _:=hsz;have HB2:Hid _:=hw2;clear hbox hS2 hsz hw2 hres
 go_region_held3 (fun w'=>w'.cell? ⟨w.heap.size,0,none⟩=some (.int .u8 8)) (first|exact hk0|assumption|exact hkS _ ‹_› _ _) (first|(go_at_call 39;refine htk.mono ?_;rintro e w3 ⟨rfl,hs3,hg3⟩;obtain⟨k3,kv3,kp3,kr3,kb3⟩:=HTK.out _ hs3 hg3;clear hg3)|(go_at_call 59;refine (hone w3 kv3).mono ?_;rintro e w4 ⟨g,bs,rfl,hV,hl,hv,hb4,hge⟩;have k4:=qp k3 hb4;have hr4:=(hb4.block _ (Array.getElem?_eq_some_iff.1 kr3).1).trans kr3;have c0:=qb hr4 0;have c1:=qb hr4 1;have z0:=frozen_of_row _ _ 0 _ _ hr4;have z1:=frozen_of_row _ _ 1 _ _ hr4;simp at c0 c1))
 go_wp2;have f:=qt hr4 (.slice (some ⟨g,0,none⟩) (n+1) (n+1)) (.slice none 0 0);refine bodyPost_ret (v:=.agg #[.slice (some ⟨g,0,none⟩) (n+1) (n+1),.slice none 0 0]) (by simp[results,Tryz.results38,go_sem,f.1,f.2.1]) rfl ?_
 unfold WorkR;have q1:=HB2.out.size;have q2:=hb4.size;have q3:=(qh w4 (w.heap.size+1) (.slice (some ⟨g,0,none⟩) (n+1) (n+1)) (.slice none 0 0)).size;have q4:=(aes kr3).1
 exact⟨((some ⟨g,0,none⟩,n+1,n+1),(none,0,0)),rfl,hs3.fin hb4 (qh ..) (by omega),⟨lo,q1w HTY.out hV hl (fun i hi=>(hv i hi).trans (HSEM.out i)) hb4 (qh ..) kr3 (by omega),by omega,kp3.keep (q1o hb4 (qh ..) kr3)⟩,qW (kb3.trans (hb4.mono (by omega))) (by omega) _ _⟩
theorem q7J(b n c hi:Nat)(d:Option Addr)(zs:List Int)(x:Sk)(px:Mp)(rest:List (Sk×Mp))(w:World)(hL:LtSl w d n c zs)(hn:n<=10000)(hS:StkAt w b w.heap.size ((((x,px)::rest).map (·.2)).reverse))(hP:Parts w n b hi ((x,px)::rest))(hh:hi<=w.heap.size)(hx:x.1=false)(hr:rest.length<=1000000):
  Calls Tryz.prog 38 #[.pointer (some ⟨b,0,none⟩),.agg #[.int .u8 9,.int .u8 0],.slice d n c] w (WorkR n b w (skT (zN zs) (9,0) [x]) rest):=by
 have hlen:(zN zs).length=n:=by rw[qz];exact hL.sl.hlen
 obtain⟨lo,hpx,hlo,hPr⟩:=hP;obtain⟨p1,p2⟩:=px;rw[List.map_cons,List.reverse_cons]at hS;dsimp only at hS
 obtain⟨ga,av,hp1,hVa,hla,hva,_⟩:=hpx.2 hx;dsimp only at hp1
 subst hp1;have hw1:=qc w (.cells #[.int .u8 9,.int .u8 0] 43);have hw2:=qd hw1 (qc (w.alloc (.cells #[.int .u8 9,.int .u8 0] 43)) (.cells #[.slice none 0 0,.slice none 0 0] 63));have hbox:=(Below.heap_alloc (w.alloc (.cells #[.int .u8 9,.int .u8 0] 43)) (.cells #[.slice none 0 0,.slice none 0 0] 63) w.heap.size (by simp)).trans (MapKept.heap_alloc w _).1
 have hres:=(MapKept.heap_alloc (w.alloc (.cells #[.int .u8 9,.int .u8 0] 43)) (.cells #[.slice none 0 0,.slice none 0 0] 63)).1;have hsz:((w.alloc (.cells #[.int .u8 9,.int .u8 0] 43)).alloc (.cells #[.slice none 0 0,.slice none 0 0] 63)).heap.size=w.heap.size+2:=by simp
 rw[show (w.alloc (.cells #[.int .u8 9,.int .u8 0] 43)).heap.size=w.heap.size+1 by simp]at hres
 clear hw1
 have HSEM:Hid (∀i,unV n 9 x.2.1 i↔(skT (zN zs) (9,0) [x]).2.1 i):=fun i=>by
  show _↔unV (zN zs).length 9 x.2.1 i
  rw[hlen]
 have HTY:Hid ((skT (zN zs) (9,0) [x]).1=false):=rfl;generalize skT (zN zs) (9,0) [x]=X at *;have hone:=fun W (h:ValAt W ga av)=>q8G n ga av x.2.1 W h hla hva hn
 generalize unV n 9 x.2.1=VV at *;have hbB:=hS.lt;have HPR:Hid (Parts w n b lo rest):=hPr;have HVA:Hid (ValAt w ga av):=hVa;have HS:Hid _:=hS;clear hS hPr hVa hva hla hL hpx hlen;go_enter Tryz.func38,Tryz.ntmps38
 go_wp2;generalize (w.alloc (.cells #[.int .u8 9,.int .u8 0] 43)).alloc (.cells #[.slice none 0 0,.slice none 0 0] 63)=w2 at *;have hS2:=HS.out.up hw2;have htk:=qm b w.heap.size _ _ w2.drew (hS2.up (Below.refl _ _).drew) (by simpa using hr)
 unfold slV at htk;dsimp only at htk
 have hk0:=qb hbox 0;simp at hk0
 have hfd:=q1Y (.slice (some ⟨ga,0,none⟩) (n+1) (n+1)) (.slice p2.1 p2.2.1 p2.2.2)
 have hkS:∀W:World,W.cell? ⟨w.heap.size,0,none⟩=some (.int .u8 9)->∀u v,((W.setCell ⟨w.heap.size+1,0,none⟩ u).setCell ⟨w.heap.size+1,1,none⟩ v).cell? ⟨w.heap.size,0,none⟩=some (.int .u8 9):=fun W h u v=>by
  rw[World.cell?_setCell_other _ _ _ _ (by intro e;injection e;omega),World.cell?_setCell_other _ _ _ _ (by intro e;injection e;omega)];exact h
 have HTK:Hid (∀w3,StkAt w3 b w.heap.size ((rest.map (·.2)).reverse)->w2.drew.grownBy w3 (some b)->w3.cell? ⟨w.heap.size,0,none⟩=some (.int .u8 9)/\ValAt w3 ga av/\Parts w3 n b lo rest/\w3.heap[w.heap.size+1]? = some (.cells #[.slice none 0 0,.slice none 0 0] 63 (0,0))/\Below b w w3):=fun w3 h1 h2=>by
  obtain⟨v0,hv0,_⟩:=hS2.c;have hK:KeepT w.heap.size w w3:=(KeepT.of_below hw2).trans (KeepT.of_grown (w:=w2) ⟨h2.os,h2.tape,h2.output,h2.size,h2.block⟩ hv0 (by decide) (by decide) (by decide))
  refine⟨(qb ((h2.block w.heap.size (by show _<w2.heap.size;omega) (fun e=>by injection e with e;omega)).trans hbox) 0).trans (by simp),(hK _ _ _ _ HVA.out (Or.inl rfl)).trans HVA.out,HPR.out.keep (hK.mono (by omega)),(h2.block _ (by show _<w2.heap.size;omega) (fun e=>by injection e with e;omega)).trans hres,?_⟩
  exact((hw2.mono (by omega)).trans ⟨h2.os,h2.tape,h2.output,h2.size,fun k hk=>h2.block k (by show _<w2.heap.size;omega) (fun e=>by injection e with e;omega)⟩)
 have Hsz:Hid _:=hsz;have HB2:Hid _:=hw2;clear hbox hS2 hsz hw2 hres
 go_region_held3 (fun w'=>w'.cell? ⟨w.heap.size,0,none⟩=some (.int .u8 9)) (first|exact hk0|assumption|exact hkS _ ‹_› _ _) (first|(go_at_call 39;refine htk.mono ?_;rintro e w3 ⟨rfl,hs3,hg3⟩;obtain⟨k3,kv3,kp3,kr3,kb3⟩:=HTK.out _ hs3 hg3;clear hg3)|(go_at_call 59;refine (hone w3 kv3).mono ?_;rintro e w4 ⟨g,bs,rfl,hV,hl,hv,hb4,hge⟩;have k4:=qp k3 hb4;have hr4:=(hb4.block _ (Array.getElem?_eq_some_iff.1 kr3).1).trans kr3;have c0:=qb hr4 0;have c1:=qb hr4 1;have z0:=frozen_of_row _ _ 0 _ _ hr4;have z1:=frozen_of_row _ _ 1 _ _ hr4;simp at c0 c1))
 go_wp2;have f:=qt hr4 (.slice (some ⟨g,0,none⟩) (n+1) (n+1)) (.slice none 0 0);refine bodyPost_ret (v:=.agg #[.slice (some ⟨g,0,none⟩) (n+1) (n+1),.slice none 0 0]) (by simp[results,Tryz.results38,go_sem,f.1,f.2.1]) rfl ?_
 unfold WorkR;have q1:=HB2.out.size;have q2:=hb4.size;have q3:=(qh w4 (w.heap.size+1) (.slice (some ⟨g,0,none⟩) (n+1) (n+1)) (.slice none 0 0)).size;have q4:=(aes kr3).1
 exact⟨((some ⟨g,0,none⟩,n+1,n+1),(none,0,0)),rfl,hs3.fin hb4 (qh ..) (by omega),⟨lo,q1w HTY.out hV hl (fun i hi=>(hv i hi).trans (HSEM.out i)) hb4 (qh ..) kr3 (by omega),by omega,kp3.keep (q1o hb4 (qh ..) kr3)⟩,qW (kb3.trans (hb4.mono (by omega))) (by omega) _ _⟩
theorem q6y(b n c hi:Nat)(d:Option Addr)(zs:List Int)(x:Sk)(px:Mp)(rest:List (Sk×Mp))(w:World)(hL:LtSl w d n c zs)(hn:n<=10000)(hS:StkAt w b w.heap.size ((((x,px)::rest).map (·.2)).reverse))(hP:Parts w n b hi ((x,px)::rest))(hh:hi<=w.heap.size)(hx:x.1=false)(hr:rest.length<=1000000):
  Calls Tryz.prog 38 #[.pointer (some ⟨b,0,none⟩),.agg #[.int .u8 10,.int .u8 0],.slice d n c] w (WorkR n b w (skT (zN zs) (10,0) [x]) rest):=by
 have hlen:(zN zs).length=n:=by rw[qz];exact hL.sl.hlen
 obtain⟨lo,hpx,hlo,hPr⟩:=hP;obtain⟨p1,p2⟩:=px;rw[List.map_cons,List.reverse_cons]at hS;dsimp only at hS
 obtain⟨ga,av,hp1,hVa,hla,hva,_⟩:=hpx.2 hx;dsimp only at hp1
 subst hp1;have hw1:=qc w (.cells #[.int .u8 10,.int .u8 0] 43);have hw2:=qd hw1 (qc (w.alloc (.cells #[.int .u8 10,.int .u8 0] 43)) (.cells #[.slice none 0 0,.slice none 0 0] 63));have hbox:=(Below.heap_alloc (w.alloc (.cells #[.int .u8 10,.int .u8 0] 43)) (.cells #[.slice none 0 0,.slice none 0 0] 63) w.heap.size (by simp)).trans (MapKept.heap_alloc w _).1
 have hres:=(MapKept.heap_alloc (w.alloc (.cells #[.int .u8 10,.int .u8 0] 43)) (.cells #[.slice none 0 0,.slice none 0 0] 63)).1;have hsz:((w.alloc (.cells #[.int .u8 10,.int .u8 0] 43)).alloc (.cells #[.slice none 0 0,.slice none 0 0] 63)).heap.size=w.heap.size+2:=by simp
 rw[show (w.alloc (.cells #[.int .u8 10,.int .u8 0] 43)).heap.size=w.heap.size+1 by simp]at hres
 clear hw1
 have HSEM:Hid (∀i,unV n 10 x.2.1 i↔(skT (zN zs) (10,0) [x]).2.1 i):=fun i=>by
  show _↔unV (zN zs).length 10 x.2.1 i
  rw[hlen]
 have HTY:Hid ((skT (zN zs) (10,0) [x]).1=false):=rfl;generalize skT (zN zs) (10,0) [x]=X at *;have hone:=fun W (h:ValAt W ga av)=>q7r n ga av x.2.1 W h hla hva hn
 generalize unV n 10 x.2.1=VV at *;have hbB:=hS.lt;have HPR:Hid (Parts w n b lo rest):=hPr;have HVA:Hid (ValAt w ga av):=hVa;have HS:Hid _:=hS;clear hS hPr hVa hva hla hL hpx hlen;go_enter Tryz.func38,Tryz.ntmps38
 go_wp2;generalize (w.alloc (.cells #[.int .u8 10,.int .u8 0] 43)).alloc (.cells #[.slice none 0 0,.slice none 0 0] 63)=w2 at *;have hS2:=HS.out.up hw2;have htk:=qm b w.heap.size _ _ w2.drew (hS2.up (Below.refl _ _).drew) (by simpa using hr)
 unfold slV at htk;dsimp only at htk
 have hk0:=qb hbox 0;simp at hk0
 have hfd:=q1Y (.slice (some ⟨ga,0,none⟩) (n+1) (n+1)) (.slice p2.1 p2.2.1 p2.2.2)
 have hkS:∀W:World,W.cell? ⟨w.heap.size,0,none⟩=some (.int .u8 10)->∀u v,((W.setCell ⟨w.heap.size+1,0,none⟩ u).setCell ⟨w.heap.size+1,1,none⟩ v).cell? ⟨w.heap.size,0,none⟩=some (.int .u8 10):=fun W h u v=>by
  rw[World.cell?_setCell_other _ _ _ _ (by intro e;injection e;omega),World.cell?_setCell_other _ _ _ _ (by intro e;injection e;omega)];exact h
 have HTK:Hid (∀w3,StkAt w3 b w.heap.size ((rest.map (·.2)).reverse)->w2.drew.grownBy w3 (some b)->w3.cell? ⟨w.heap.size,0,none⟩=some (.int .u8 10)/\ValAt w3 ga av/\Parts w3 n b lo rest/\w3.heap[w.heap.size+1]? = some (.cells #[.slice none 0 0,.slice none 0 0] 63 (0,0))/\Below b w w3):=fun w3 h1 h2=>by
  obtain⟨v0,hv0,_⟩:=hS2.c;have hK:KeepT w.heap.size w w3:=(KeepT.of_below hw2).trans (KeepT.of_grown (w:=w2) ⟨h2.os,h2.tape,h2.output,h2.size,h2.block⟩ hv0 (by decide) (by decide) (by decide))
  refine⟨(qb ((h2.block w.heap.size (by show _<w2.heap.size;omega) (fun e=>by injection e with e;omega)).trans hbox) 0).trans (by simp),(hK _ _ _ _ HVA.out (Or.inl rfl)).trans HVA.out,HPR.out.keep (hK.mono (by omega)),(h2.block _ (by show _<w2.heap.size;omega) (fun e=>by injection e with e;omega)).trans hres,?_⟩
  exact((hw2.mono (by omega)).trans ⟨h2.os,h2.tape,h2.output,h2.size,fun k hk=>h2.block k (by show _<w2.heap.size;omega) (fun e=>by injection e with e;omega)⟩)
 have Hsz:Hid _:=hsz;have HB2:Hid _:=hw2;clear hbox hS2 hsz hw2 hres
 go_region_held3 (fun w'=>w'.cell? ⟨w.heap.size,0,none⟩=some (.int .u8 10)) (first|exact hk0|assumption|exact hkS _ ‹_› _ _) (first|(go_at_call 39;refine htk.mono ?_;rintro e w3 ⟨rfl,hs3,hg3⟩;obtain⟨k3,kv3,kp3,kr3,kb3⟩:=HTK.out _ hs3 hg3;clear hg3)|(go_at_call 59;refine (hone w3 kv3).mono ?_;rintro e w4 ⟨g,bs,rfl,hV,hl,hv,hb4,hge⟩;have k4:=qp k3 hb4;have hr4:=(hb4.block _ (Array.getElem?_eq_some_iff.1 kr3).1).trans kr3;have c0:=qb hr4 0;have c1:=qb hr4 1;have z0:=frozen_of_row _ _ 0 _ _ hr4;have z1:=frozen_of_row _ _ 1 _ _ hr4;simp at c0 c1))
 go_wp2;have f:=qt hr4 (.slice (some ⟨g,0,none⟩) (n+1) (n+1)) (.slice none 0 0);refine bodyPost_ret (v:=.agg #[.slice (some ⟨g,0,none⟩) (n+1) (n+1),.slice none 0 0]) (by simp[results,Tryz.results38,go_sem,f.1,f.2.1]) rfl ?_
 unfold WorkR;have q1:=HB2.out.size;have q2:=hb4.size;have q3:=(qh w4 (w.heap.size+1) (.slice (some ⟨g,0,none⟩) (n+1) (n+1)) (.slice none 0 0)).size;have q4:=(aes kr3).1
 exact⟨((some ⟨g,0,none⟩,n+1,n+1),(none,0,0)),rfl,hs3.fin hb4 (qh ..) (by omega),⟨lo,q1w HTY.out hV hl (fun i hi=>(hv i hi).trans (HSEM.out i)) hb4 (qh ..) kr3 (by omega),by omega,kp3.keep (q1o hb4 (qh ..) kr3)⟩,qW (kb3.trans (hb4.mono (by omega))) (by omega) _ _⟩
theorem qhb{n:Nat}{A B:Nat->Prop}{a b:Nat->Nat->Prop}(i:Nat):binV n 15 (A,a) (B,b) i↔i<n/\(B i\/A i/\binV n 15 (A,a) (B,b) (i+1)):=by
 simp[binV]
 constructor
 ·rintro⟨j,h1,h2,h3,h4⟩
  refine⟨by omega,?_⟩
  by_cases e:j=i
  ·subst e;exact Or.inl h3
  ·exact Or.inr ⟨h4 i (Nat.le_refl _) (by omega),j,by omega,h2,h3,fun k k1 k2=>h4 k (by omega) k2⟩
 ·rintro⟨h,h1|⟨h0,j,h1,h2,h3,h4⟩⟩
  ·exact⟨i,Nat.le_refl _,h,h1,fun k k1 k2=>by omega⟩
  ·refine⟨j,by omega,h2,h3,fun k k1 k2=>?_⟩
   by_cases e:k=i
   ·subst e;exact h0
   ·exact h4 k (by omega) k2
theorem qgY {n : Nat} {A B : Nat → Prop} {a b : Nat → Nat → Prop} {i : Nat} (hi : i ≤ n) : binV n 16 (A, a) (B, b) i ↔ i = n ∨ B i ∧ (A i ∨ binV n 16 (A, a) (B, b) (i + 1)) := by
  simp [binV]
  constructor
  · intro h
    by_cases e : i = n
    · exact Or.inl e
    · refine Or.inr ⟨?_, ?_⟩
      · rcases h i (Nat.le_refl _) (by omega) with h | ⟨k, k1, k2, _⟩
        · exact h
        · omega
      · by_cases hx : A i
        · exact Or.inl hx
        · refine Or.inr fun j j1 j2 => ?_
          rcases h j (by omega) j2 with h | ⟨k, k1, k2, k3⟩
          · exact Or.inl h
          · refine Or.inr ⟨k, ?_, k2, k3⟩
            rcases Nat.lt_or_ge i k with hk | hk
            · omega
            · exact absurd (by have : k = i := by omega
                               subst this; exact k3) hx
  · rintro (rfl | ⟨h1, h2⟩) j j1 j2
    · omega
    · by_cases hj : j = i
      · subst hj; exact Or.inl h1
      · rcases h2 with h2 | h2
        · exact Or.inr ⟨i, Nat.le_refl _, by omega, h2⟩
        · rcases h2 j (by omega) j2 with h | ⟨k, k1, k2, k3⟩
          · exact Or.inl h
          · exact Or.inr ⟨k, by omega, k2, k3⟩
theorem q7t(n ga gb:Nat)(av bv:List Bool)(A B:Nat->Prop)(w:World)(hA:ValAt w ga av)(hB:ValAt w gb bv)(hl:av.length=n+1)(hl2:bv.length=n+1)(hv:∀i,i<=n->(av.getD i false=true↔A i))(hv2:∀i,i<=n->(bv.getD i false=true↔B i))(hn:n<=10000):
  Calls Tryz.prog 67 #[.int .u8 11,.slice (some ⟨ga,0,none⟩) (n+1) (n+1),.slice (some ⟨gb,0,none⟩) (n+1) (n+1)] w (ValR n (binV n 11 (A,fun _ _=>False) (B,fun _ _=>False)) w):=by
 have hmk:=qA (n+1) (by omega)
 have en:((n+1:Nat):Int)=(n:Int)+1:=by omega
 rw[en]at hmk;have HA:Hid (ValAt w ga av):=hA;have HAB:Hid (ValAt w gb bv):=hB;have HV:Hid (∀i,i<=n->(av.getD i false=true↔A i)):=hv;have HVB:Hid (∀i,i<=n->(bv.getD i false=true↔B i)):=hv2
 have HREC:Hid (∀i,i<=n->((binV n 11 (A,fun _ _=>False) (B,fun _ _=>False)) i↔A i/\B i)):=fun i hi=>by
  simp[binV]
 clear hA hv hB hv2;generalize (binV n 11 (A,fun _ _=>False) (B,fun _ _=>False))=V at *;have e1:(n:Int)+1 - 1=(n:Int):=by omega
 go_enter Tryz.func67,Tryz.ntmps67
 go_wp2;clear hmk
 go_loopw [9] (fun i wr=>∃k:Nat,k<=n+1/\i=.int .i64 ((k:Int) - 1)/\(∃bs,Hid (ValAt wr w.heap.size bs)/\Hid (FillB n V k bs))/\Hid (Below w.heap.size w wr)) (fun i _=>(intOf i+1).toNat)
 case atStart=>exact⟨n+1,Nat.le_refl _,by rw[en,e1],⟨List.replicate (n+1) false,ValAt.made w _,by simp,fun i h1 h2=>absurd h1 (by omega)⟩,qc _ _⟩
 case round =>
  obtain⟨k1,hk1,rfl,⟨bs,HB,HF⟩,HW⟩:=hrel;by_cases hk0:k1=0
  ·subst hk0
   have hle:¬ (0:Int)<=((0:Nat):Int) - 1:=by omega
   go_wp2;go_ret
   unfold ValR;exact⟨_,bs,rfl,HB.out,HF.out.len,fun i hi=>HF.out.done i (Nat.zero_le _) hi,HW.out,Nat.le_refl _⟩
  ·obtain⟨k,rfl⟩:∃k,k1=k+1:=⟨k1 - 1,by omega⟩
   have hkn:k<=n:=by omega
   have em:(((k+1:Nat):Int) - 1)=(k:Int):=by omega
   rw[em];have hle:(0:Int)<=(k:Int):=by omega
   have hAr:=HA.out.up HW.out;have hBr:=HAB.out.up HW.out;have hi1:=fun w'=>ql ga (n+1) k w' (by omega)
   have hi3:=fun w'=>ql gb (n+1) k w' (by omega)
   have hi2:=fun w'=>ql w.heap.size (n+1) k w' (by omega)
   have hca:=hAr.cell (i:=k) (by omega)
   have hcc:=hBr.cell (i:=k) (by omega)
   have hcb:=HB.out.cell (i:=k) (by rw[HF.out.len];omega)
   have hzb:=HB.out.fz k;have HST:Hid (∀b:Bool,ValAt (wr.setCell ⟨w.heap.size,k,none⟩ (.bool b)) w.heap.size (bs.set k b)/\Below w.heap.size w (wr.setCell ⟨w.heap.size,k,none⟩ (.bool b))):=fun b=>⟨HB.out.set k b,HW.out.setCell (Nat.le_refl _) _⟩
   have HRk:Hid _:=HREC.out k hkn;have HVk:Hid _:=HV.out k hkn;have HVc:Hid _:=HVB.out k hkn;clear em hk0 e1 en hAr hBr;generalize av.getD k false=q at *;generalize bv.getD k false=p at *
   cases q <;> cases p
   all_goals
    go_wp2
    go_roundw
    case rel =>
     refine⟨k,by omega,rfl,⟨_,(HST.out _).1,HF.out.next hkn ?_⟩,(HST.out _).2⟩
     rw[HRk.out];have h1:=HVk.out;have h2:=HVc.out;simp at h1 h2;simp[h1,h2]
    case measure=>simp[intOf] <;> omega
theorem q7u(n ga gb:Nat)(av bv:List Bool)(A B:Nat->Prop)(w:World)(hA:ValAt w ga av)(hB:ValAt w gb bv)(hl:av.length=n+1)(hl2:bv.length=n+1)(hv:∀i,i<=n->(av.getD i false=true↔A i))(hv2:∀i,i<=n->(bv.getD i false=true↔B i))(hn:n<=10000):
  Calls Tryz.prog 67 #[.int .u8 12,.slice (some ⟨ga,0,none⟩) (n+1) (n+1),.slice (some ⟨gb,0,none⟩) (n+1) (n+1)] w (ValR n (binV n 12 (A,fun _ _=>False) (B,fun _ _=>False)) w):=by
 have hmk:=qA (n+1) (by omega)
 have en:((n+1:Nat):Int)=(n:Int)+1:=by omega
 rw[en]at hmk;have HA:Hid (ValAt w ga av):=hA;have HAB:Hid (ValAt w gb bv):=hB;have HV:Hid (∀i,i<=n->(av.getD i false=true↔A i)):=hv;have HVB:Hid (∀i,i<=n->(bv.getD i false=true↔B i)):=hv2
 have HREC:Hid (∀i,i<=n->((binV n 12 (A,fun _ _=>False) (B,fun _ _=>False)) i↔A i\/B i)):=fun i hi=>by
  simp[binV]
 clear hA hv hB hv2;generalize (binV n 12 (A,fun _ _=>False) (B,fun _ _=>False))=V at *;have e1:(n:Int)+1 - 1=(n:Int):=by omega
 go_enter Tryz.func67,Tryz.ntmps67
 go_wp2;clear hmk
 go_loopw [9] (fun i wr=>∃k:Nat,k<=n+1/\i=.int .i64 ((k:Int) - 1)/\(∃bs,Hid (ValAt wr w.heap.size bs)/\Hid (FillB n V k bs))/\Hid (Below w.heap.size w wr)) (fun i _=>(intOf i+1).toNat)
 case atStart=>exact⟨n+1,Nat.le_refl _,by rw[en,e1],⟨List.replicate (n+1) false,ValAt.made w _,by simp,fun i h1 h2=>absurd h1 (by omega)⟩,qc _ _⟩
 case round =>
  obtain⟨k1,hk1,rfl,⟨bs,HB,HF⟩,HW⟩:=hrel;by_cases hk0:k1=0
  ·subst hk0
   have hle:¬ (0:Int)<=((0:Nat):Int) - 1:=by omega
   go_wp2;go_ret
   unfold ValR;exact⟨_,bs,rfl,HB.out,HF.out.len,fun i hi=>HF.out.done i (Nat.zero_le _) hi,HW.out,Nat.le_refl _⟩
  ·obtain⟨k,rfl⟩:∃k,k1=k+1:=⟨k1 - 1,by omega⟩
   have hkn:k<=n:=by omega
   have em:(((k+1:Nat):Int) - 1)=(k:Int):=by omega
   rw[em];have hle:(0:Int)<=(k:Int):=by omega
   have hAr:=HA.out.up HW.out;have hBr:=HAB.out.up HW.out;have hi1:=fun w'=>ql ga (n+1) k w' (by omega)
   have hi3:=fun w'=>ql gb (n+1) k w' (by omega)
   have hi2:=fun w'=>ql w.heap.size (n+1) k w' (by omega)
   have hca:=hAr.cell (i:=k) (by omega)
   have hcc:=hBr.cell (i:=k) (by omega)
   have hcb:=HB.out.cell (i:=k) (by rw[HF.out.len];omega)
   have hzb:=HB.out.fz k;have HST:Hid (∀b:Bool,ValAt (wr.setCell ⟨w.heap.size,k,none⟩ (.bool b)) w.heap.size (bs.set k b)/\Below w.heap.size w (wr.setCell ⟨w.heap.size,k,none⟩ (.bool b))):=fun b=>⟨HB.out.set k b,HW.out.setCell (Nat.le_refl _) _⟩
   have HRk:Hid _:=HREC.out k hkn;have HVk:Hid _:=HV.out k hkn;have HVc:Hid _:=HVB.out k hkn;clear em hk0 e1 en hAr hBr;generalize av.getD k false=q at *;generalize bv.getD k false=p at *
   cases q <;> cases p
   all_goals
    go_wp2
    go_roundw
    case rel =>
     refine⟨k,by omega,rfl,⟨_,(HST.out _).1,HF.out.next hkn ?_⟩,(HST.out _).2⟩
     rw[HRk.out];have h1:=HVk.out;have h2:=HVc.out;simp at h1 h2;simp[h1,h2]
    case measure=>simp[intOf] <;> omega
theorem q7v(n ga gb:Nat)(av bv:List Bool)(A B:Nat->Prop)(w:World)(hA:ValAt w ga av)(hB:ValAt w gb bv)(hl:av.length=n+1)(hl2:bv.length=n+1)(hv:∀i,i<=n->(av.getD i false=true↔A i))(hv2:∀i,i<=n->(bv.getD i false=true↔B i))(hn:n<=10000):
  Calls Tryz.prog 67 #[.int .u8 13,.slice (some ⟨ga,0,none⟩) (n+1) (n+1),.slice (some ⟨gb,0,none⟩) (n+1) (n+1)] w (ValR n (binV n 13 (A,fun _ _=>False) (B,fun _ _=>False)) w):=by
 have hmk:=qA (n+1) (by omega)
 have en:((n+1:Nat):Int)=(n:Int)+1:=by omega
 rw[en]at hmk;have HA:Hid (ValAt w ga av):=hA;have HAB:Hid (ValAt w gb bv):=hB;have HV:Hid (∀i,i<=n->(av.getD i false=true↔A i)):=hv;have HVB:Hid (∀i,i<=n->(bv.getD i false=true↔B i)):=hv2
 have HREC:Hid (∀i,i<=n->((binV n 13 (A,fun _ _=>False) (B,fun _ _=>False)) i↔¬ A i\/B i)):=fun i hi=>by
  simp only[binV];simp;exact⟨fun h=>by by_cases hx:A i;exact Or.inr (h hx);exact Or.inl hx,fun h hx=>by rcases h with h|h;exact absurd hx h;exact h⟩
 clear hA hv hB hv2;generalize (binV n 13 (A,fun _ _=>False) (B,fun _ _=>False))=V at *;have e1:(n:Int)+1 - 1=(n:Int):=by omega
 go_enter Tryz.func67,Tryz.ntmps67
 go_wp2;clear hmk
 go_loopw [9] (fun i wr=>∃k:Nat,k<=n+1/\i=.int .i64 ((k:Int) - 1)/\(∃bs,Hid (ValAt wr w.heap.size bs)/\Hid (FillB n V k bs))/\Hid (Below w.heap.size w wr)) (fun i _=>(intOf i+1).toNat)
 case atStart=>exact⟨n+1,Nat.le_refl _,by rw[en,e1],⟨List.replicate (n+1) false,ValAt.made w _,by simp,fun i h1 h2=>absurd h1 (by omega)⟩,qc _ _⟩
 case round =>
  obtain⟨k1,hk1,rfl,⟨bs,HB,HF⟩,HW⟩:=hrel;by_cases hk0:k1=0
  ·subst hk0
   have hle:¬ (0:Int)<=((0:Nat):Int) - 1:=by omega
   go_wp2;go_ret
   unfold ValR;exact⟨_,bs,rfl,HB.out,HF.out.len,fun i hi=>HF.out.done i (Nat.zero_le _) hi,HW.out,Nat.le_refl _⟩
  ·obtain⟨k,rfl⟩:∃k,k1=k+1:=⟨k1 - 1,by omega⟩
   have hkn:k<=n:=by omega
   have em:(((k+1:Nat):Int) - 1)=(k:Int):=by omega
   rw[em];have hle:(0:Int)<=(k:Int):=by omega
   have hAr:=HA.out.up HW.out;have hBr:=HAB.out.up HW.out;have hi1:=fun w'=>ql ga (n+1) k w' (by omega)
   have hi3:=fun w'=>ql gb (n+1) k w' (by omega)
   have hi2:=fun w'=>ql w.heap.size (n+1) k w' (by omega)
   have hca:=hAr.cell (i:=k) (by omega)
   have hcc:=hBr.cell (i:=k) (by omega)
   have hcb:=HB.out.cell (i:=k) (by rw[HF.out.len];omega)
   have hzb:=HB.out.fz k;have HST:Hid (∀b:Bool,ValAt (wr.setCell ⟨w.heap.size,k,none⟩ (.bool b)) w.heap.size (bs.set k b)/\Below w.heap.size w (wr.setCell ⟨w.heap.size,k,none⟩ (.bool b))):=fun b=>⟨HB.out.set k b,HW.out.setCell (Nat.le_refl _) _⟩
   have HRk:Hid _:=HREC.out k hkn;have HVk:Hid _:=HV.out k hkn;have HVc:Hid _:=HVB.out k hkn;clear em hk0 e1 en hAr hBr;generalize av.getD k false=q at *;generalize bv.getD k false=p at *
   cases q <;> cases p
   all_goals
    go_wp2
    go_roundw
    case rel =>
     refine⟨k,by omega,rfl,⟨_,(HST.out _).1,HF.out.next hkn ?_⟩,(HST.out _).2⟩
     rw[HRk.out];have h1:=HVk.out;have h2:=HVc.out;simp at h1 h2;simp[h1,h2]
    case measure=>simp[intOf] <;> omega
theorem q7w(n ga gb:Nat)(av bv:List Bool)(A B:Nat->Prop)(w:World)(hA:ValAt w ga av)(hB:ValAt w gb bv)(hl:av.length=n+1)(hl2:bv.length=n+1)(hv:∀i,i<=n->(av.getD i false=true↔A i))(hv2:∀i,i<=n->(bv.getD i false=true↔B i))(hn:n<=10000):
  Calls Tryz.prog 67 #[.int .u8 14,.slice (some ⟨ga,0,none⟩) (n+1) (n+1),.slice (some ⟨gb,0,none⟩) (n+1) (n+1)] w (ValR n (binV n 14 (A,fun _ _=>False) (B,fun _ _=>False)) w):=by
 have hmk:=qA (n+1) (by omega)
 have en:((n+1:Nat):Int)=(n:Int)+1:=by omega
 rw[en]at hmk;have HA:Hid (ValAt w ga av):=hA;have HAB:Hid (ValAt w gb bv):=hB;have HV:Hid (∀i,i<=n->(av.getD i false=true↔A i)):=hv;have HVB:Hid (∀i,i<=n->(bv.getD i false=true↔B i)):=hv2
 have HREC:Hid (∀i,i<=n->((binV n 14 (A,fun _ _=>False) (B,fun _ _=>False)) i↔(A i↔B i))):=fun i hi=>by
  simp[binV]
 clear hA hv hB hv2;generalize (binV n 14 (A,fun _ _=>False) (B,fun _ _=>False))=V at *;have e1:(n:Int)+1 - 1=(n:Int):=by omega
 go_enter Tryz.func67,Tryz.ntmps67
 go_wp2;clear hmk
 go_loopw [9] (fun i wr=>∃k:Nat,k<=n+1/\i=.int .i64 ((k:Int) - 1)/\(∃bs,Hid (ValAt wr w.heap.size bs)/\Hid (FillB n V k bs))/\Hid (Below w.heap.size w wr)) (fun i _=>(intOf i+1).toNat)
 case atStart=>exact⟨n+1,Nat.le_refl _,by rw[en,e1],⟨List.replicate (n+1) false,ValAt.made w _,by simp,fun i h1 h2=>absurd h1 (by omega)⟩,qc _ _⟩
 case round =>
  obtain⟨k1,hk1,rfl,⟨bs,HB,HF⟩,HW⟩:=hrel;by_cases hk0:k1=0
  ·subst hk0
   have hle:¬ (0:Int)<=((0:Nat):Int) - 1:=by omega
   go_wp2;go_ret
   unfold ValR;exact⟨_,bs,rfl,HB.out,HF.out.len,fun i hi=>HF.out.done i (Nat.zero_le _) hi,HW.out,Nat.le_refl _⟩
  ·obtain⟨k,rfl⟩:∃k,k1=k+1:=⟨k1 - 1,by omega⟩
   have hkn:k<=n:=by omega
   have em:(((k+1:Nat):Int) - 1)=(k:Int):=by omega
   rw[em];have hle:(0:Int)<=(k:Int):=by omega
   have hAr:=HA.out.up HW.out;have hBr:=HAB.out.up HW.out;have hi1:=fun w'=>ql ga (n+1) k w' (by omega)
   have hi3:=fun w'=>ql gb (n+1) k w' (by omega)
   have hi2:=fun w'=>ql w.heap.size (n+1) k w' (by omega)
   have hca:=hAr.cell (i:=k) (by omega)
   have hcc:=hBr.cell (i:=k) (by omega)
   have hcb:=HB.out.cell (i:=k) (by rw[HF.out.len];omega)
   have hzb:=HB.out.fz k;have HST:Hid (∀b:Bool,ValAt (wr.setCell ⟨w.heap.size,k,none⟩ (.bool b)) w.heap.size (bs.set k b)/\Below w.heap.size w (wr.setCell ⟨w.heap.size,k,none⟩ (.bool b))):=fun b=>⟨HB.out.set k b,HW.out.setCell (Nat.le_refl _) _⟩
   have HRk:Hid _:=HREC.out k hkn;have HVk:Hid _:=HV.out k hkn;have HVc:Hid _:=HVB.out k hkn;clear em hk0 e1 en hAr hBr;generalize av.getD k false=q at *;generalize bv.getD k false=p at *
   cases q <;> cases p
   all_goals
    go_wp2
    go_region
    go_wp2
    go_roundw
    case rel =>
     refine⟨k,by omega,rfl,⟨_,(HST.out _).1,HF.out.next hkn ?_⟩,Below.drew (HST.out _).2⟩
     rw[HRk.out];have h1:=HVk.out;have h2:=HVc.out;simp at h1 h2;simp[h1,h2]
    case measure=>simp[intOf] <;> omega
theorem q7x(n ga gb:Nat)(av bv:List Bool)(A B:Nat->Prop)(w:World)(hA:ValAt w ga av)(hB:ValAt w gb bv)(hl:av.length=n+1)(hl2:bv.length=n+1)(hv:∀i,i<=n->(av.getD i false=true↔A i))(hv2:∀i,i<=n->(bv.getD i false=true↔B i))(hn:n<=10000):
  Calls Tryz.prog 67 #[.int .u8 15,.slice (some ⟨ga,0,none⟩) (n+1) (n+1),.slice (some ⟨gb,0,none⟩) (n+1) (n+1)] w (ValR n (binV n 15 (A,fun _ _=>False) (B,fun _ _=>False)) w):=by
 have hmk:=qA (n+1) (by omega)
 have en:((n+1:Nat):Int)=(n:Int)+1:=by omega
 rw[en]at hmk;have HA:Hid (ValAt w ga av):=hA;have HAB:Hid (ValAt w gb bv):=hB;have HV:Hid (∀i,i<=n->(av.getD i false=true↔A i)):=hv;have HVB:Hid (∀i,i<=n->(bv.getD i false=true↔B i)):=hv2
 have HREC:Hid (∀i,i<=n->((binV n 15 (A,fun _ _=>False) (B,fun _ _=>False)) i↔i<n/\(B i\/A i/\(binV n 15 (A,fun _ _=>False) (B,fun _ _=>False)) (i+1)))):=fun i hi=>by
  exact qhb i
 clear hA hv hB hv2;generalize (binV n 15 (A,fun _ _=>False) (B,fun _ _=>False))=V at *;have e1:(n:Int)+1 - 1=(n:Int):=by omega
 go_enter Tryz.func67,Tryz.ntmps67
 go_wp2;clear hmk
 go_loopw [9] (fun i wr=>∃k:Nat,k<=n+1/\i=.int .i64 ((k:Int) - 1)/\(∃bs,Hid (ValAt wr w.heap.size bs)/\Hid (FillB n V k bs))/\Hid (Below w.heap.size w wr)) (fun i _=>(intOf i+1).toNat)
 case atStart=>exact⟨n+1,Nat.le_refl _,by rw[en,e1],⟨List.replicate (n+1) false,ValAt.made w _,by simp,fun i h1 h2=>absurd h1 (by omega)⟩,qc _ _⟩
 case round =>
  obtain⟨k1,hk1,rfl,⟨bs,HB,HF⟩,HW⟩:=hrel;by_cases hk0:k1=0
  ·subst hk0
   have hle:¬ (0:Int)<=((0:Nat):Int) - 1:=by omega
   go_wp2;go_ret
   unfold ValR;exact⟨_,bs,rfl,HB.out,HF.out.len,fun i hi=>HF.out.done i (Nat.zero_le _) hi,HW.out,Nat.le_refl _⟩
  ·obtain⟨k,rfl⟩:∃k,k1=k+1:=⟨k1 - 1,by omega⟩
   have hkn:k<=n:=by omega
   have em:(((k+1:Nat):Int) - 1)=(k:Int):=by omega
   rw[em];have hle:(0:Int)<=(k:Int):=by omega
   have hAr:=HA.out.up HW.out;have hBr:=HAB.out.up HW.out;have hi1:=fun w'=>ql ga (n+1) k w' (by omega)
   have hi3:=fun w'=>ql gb (n+1) k w' (by omega)
   have hi2:=fun w'=>ql w.heap.size (n+1) k w' (by omega)
   have hca:=hAr.cell (i:=k) (by omega)
   have hcc:=hBr.cell (i:=k) (by omega)
   have hcb:=HB.out.cell (i:=k) (by rw[HF.out.len];omega)
   have hzb:=HB.out.fz k;have HST:Hid (∀b:Bool,ValAt (wr.setCell ⟨w.heap.size,k,none⟩ (.bool b)) w.heap.size (bs.set k b)/\Below w.heap.size w (wr.setCell ⟨w.heap.size,k,none⟩ (.bool b))):=fun b=>⟨HB.out.set k b,HW.out.setCell (Nat.le_refl _) _⟩
   have HRk:Hid _:=HREC.out k hkn;have HVk:Hid _:=HV.out k hkn;have HVc:Hid _:=HVB.out k hkn;clear em hk0 e1 en hAr hBr;generalize av.getD k false=q at *;generalize bv.getD k false=p at *;by_cases hc:k<n
   ·have hci:(k:Int)<(n:Int):=by omega
    have hj1:=fun w'=>ql w.heap.size (n+1) (k+1) w' (by omega)
    rw[show ((k+1:Nat):Int)=(k:Int)+1 by omega]at hj1
    have hcj:=HB.out.cell (i:=k+1) (by rw[HF.out.len];omega)
    have HVj:Hid _:=HF.out.done (k+1) (Nat.le_refl _) (by omega)
    generalize bs.getD (k+1) false=r at *
    cases q <;> cases p <;> cases r
    all_goals
     go_wp2
     go_roundw
     case rel =>
      refine⟨k,by omega,rfl,⟨_,(HST.out _).1,HF.out.next hkn ?_⟩,(HST.out _).2⟩
      rw[HRk.out];have h1:=HVk.out;have h2:=HVc.out;have h3:=HVj.out;simp at h1 h2 h3;simp[h1,h2,h3,hc]
     case measure=>simp[intOf] <;> omega
   ·have hci:¬ (k:Int)<(n:Int):=by omega
    go_wp2
    go_roundw
    case rel =>
     refine⟨k,by omega,rfl,⟨_,(HST.out _).1,HF.out.next hkn ?_⟩,(HST.out _).2⟩
     rw[HRk.out];simp[hc]
    case measure=>simp[intOf] <;> omega
theorem q7y(n ga gb:Nat)(av bv:List Bool)(A B:Nat->Prop)(w:World)(hA:ValAt w ga av)(hB:ValAt w gb bv)(hl:av.length=n+1)(hl2:bv.length=n+1)(hv:∀i,i<=n->(av.getD i false=true↔A i))(hv2:∀i,i<=n->(bv.getD i false=true↔B i))(hn:n<=10000):
  Calls Tryz.prog 67 #[.int .u8 16,.slice (some ⟨ga,0,none⟩) (n+1) (n+1),.slice (some ⟨gb,0,none⟩) (n+1) (n+1)] w (ValR n (binV n 16 (A,fun _ _=>False) (B,fun _ _=>False)) w):=by
 have hmk:=qA (n+1) (by omega)
 have en:((n+1:Nat):Int)=(n:Int)+1:=by omega
 rw[en]at hmk;have HA:Hid (ValAt w ga av):=hA;have HAB:Hid (ValAt w gb bv):=hB;have HV:Hid (∀i,i<=n->(av.getD i false=true↔A i)):=hv;have HVB:Hid (∀i,i<=n->(bv.getD i false=true↔B i)):=hv2
 have HREC:Hid (∀i,i<=n->((binV n 16 (A,fun _ _=>False) (B,fun _ _=>False)) i↔i=n\/B i/\(A i\/(binV n 16 (A,fun _ _=>False) (B,fun _ _=>False)) (i+1)))):=fun i hi=>by
  exact qgY hi
 clear hA hv hB hv2;generalize (binV n 16 (A,fun _ _=>False) (B,fun _ _=>False))=V at *;have e1:(n:Int)+1 - 1=(n:Int):=by omega
 go_enter Tryz.func67,Tryz.ntmps67
 go_wp2;clear hmk
 go_loopw [9] (fun i wr=>∃k:Nat,k<=n+1/\i=.int .i64 ((k:Int) - 1)/\(∃bs,Hid (ValAt wr w.heap.size bs)/\Hid (FillB n V k bs))/\Hid (Below w.heap.size w wr)) (fun i _=>(intOf i+1).toNat)
 case atStart=>exact⟨n+1,Nat.le_refl _,by rw[en,e1],⟨List.replicate (n+1) false,ValAt.made w _,by simp,fun i h1 h2=>absurd h1 (by omega)⟩,qc _ _⟩
 case round =>
  obtain⟨k1,hk1,rfl,⟨bs,HB,HF⟩,HW⟩:=hrel;by_cases hk0:k1=0
  ·subst hk0
   have hle:¬ (0:Int)<=((0:Nat):Int) - 1:=by omega
   go_wp2;go_ret
   unfold ValR;exact⟨_,bs,rfl,HB.out,HF.out.len,fun i hi=>HF.out.done i (Nat.zero_le _) hi,HW.out,Nat.le_refl _⟩
  ·obtain⟨k,rfl⟩:∃k,k1=k+1:=⟨k1 - 1,by omega⟩
   have hkn:k<=n:=by omega
   have em:(((k+1:Nat):Int) - 1)=(k:Int):=by omega
   rw[em];have hle:(0:Int)<=(k:Int):=by omega
   have hAr:=HA.out.up HW.out;have hBr:=HAB.out.up HW.out;have hi1:=fun w'=>ql ga (n+1) k w' (by omega)
   have hi3:=fun w'=>ql gb (n+1) k w' (by omega)
   have hi2:=fun w'=>ql w.heap.size (n+1) k w' (by omega)
   have hca:=hAr.cell (i:=k) (by omega)
   have hcc:=hBr.cell (i:=k) (by omega)
   have hcb:=HB.out.cell (i:=k) (by rw[HF.out.len];omega)
   have hzb:=HB.out.fz k;have HST:Hid (∀b:Bool,ValAt (wr.setCell ⟨w.heap.size,k,none⟩ (.bool b)) w.heap.size (bs.set k b)/\Below w.heap.size w (wr.setCell ⟨w.heap.size,k,none⟩ (.bool b))):=fun b=>⟨HB.out.set k b,HW.out.setCell (Nat.le_refl _) _⟩
   have HRk:Hid _:=HREC.out k hkn;have HVk:Hid _:=HV.out k hkn;have HVc:Hid _:=HVB.out k hkn;clear em hk0 e1 en hAr hBr;generalize av.getD k false=q at *;generalize bv.getD k false=p at *;by_cases hc:k=n
   ·subst hc
    go_wp2
    go_roundw
    case rel =>
     refine⟨k,by omega,rfl,⟨_,(HST.out _).1,HF.out.next hkn ?_⟩,(HST.out _).2⟩
     rw[HRk.out];simp
    case measure=>simp[intOf] <;> omega
   ·have hci:¬ (k:Int)=(n:Int):=by omega
    have hj1:=fun w'=>ql w.heap.size (n+1) (k+1) w' (by omega)
    rw[show ((k+1:Nat):Int)=(k:Int)+1 by omega]at hj1
    have hcj:=HB.out.cell (i:=k+1) (by rw[HF.out.len];omega)
    have HVj:Hid _:=HF.out.done (k+1) (Nat.le_refl _) (by omega)
    generalize bs.getD (k+1) false=r at *
    cases q <;> cases p <;> cases r
    all_goals
     go_wp2
     go_roundw
     case rel =>
      refine⟨k,by omega,rfl,⟨_,(HST.out _).1,HF.out.next hkn ?_⟩,(HST.out _).2⟩
      rw[HRk.out];have h1:=HVk.out;have h2:=HVc.out;have h3:=HVj.out;simp at h1 h2 h3;simp[h1,h2,h3,hc,hci]
     case measure=>simp[intOf] <;> omega
theorem StkAt.only{w w':World}{b B G:Nat}{st:List Mp}(h:StkAt w b B st)(ho:Only G w w'):StkAt w' b B st:=h.keep fun k c t z hc ht _ _ =>
 ho.block k (aes hc).1 (Or.inr fun c' z' e=>by
  rw[hc]at e;injection e with e;injection e with _ e _;subst e;rcases ht with ht|ht <;> exact absurd ht (by decide))
section
variable {w w6:World} {n b lo g:Nat} {X:Sk} {rest:List (Sk×Mp)}
theorem q2z{bs:List Bool}(hS:StkAt w6 b w.heap.size ((rest.map (·.2)).reverse))(hP:Parts w6 n b lo rest)(hr:w6.heap[w.heap.size+1]? = some (.cells #[.slice none 0 0,.slice none 0 0] 63 (0,0)))(hb:Below b w w6)(hV:ValAt w6 g bs)(hl:bs.length=n+1)(hX:X.1=false)(hv:∀i,i<=n->(bs.getD i false=true↔X.2.1 i))(hlo:lo<=w6.heap.size)(hgb:b<=g):
  WorkR n b w X rest (.returned (.agg #[.slice (some ⟨g,0,none⟩) (n+1) (n+1),.slice none 0 0])) ((w6.setCell ⟨w.heap.size+1,0,none⟩ (.slice (some ⟨g,0,none⟩) (n+1) (n+1))).setCell ⟨w.heap.size+1,1,none⟩ (.slice none 0 0)):=by
 have q:=(qh w6 (w.heap.size+1) (.slice (some ⟨g,0,none⟩) (n+1) (n+1)) (.slice none 0 0)).size;have hbB:=hS.lt;exact⟨((some ⟨g,0,none⟩,n+1,n+1),(none,0,0)),rfl,hS.fin (Below.refl _ _) (qh ..) (by omega),⟨lo,q1w hX hV hl hv (Below.refl _ _) (qh ..) hr hgb,by omega,hP.keep (q1o (Below.refl _ _) (qh ..) hr)⟩,qW hb (by omega) _ _⟩
theorem q4w{rs:Nat->List Nat}(hS:StkAt w6 b w.heap.size ((rest.map (·.2)).reverse))(hP:Parts w6 n b lo rest)(hr:w6.heap[w.heap.size+1]? = some (.cells #[.slice none 0 0,.slice none 0 0] 63 (0,0)))(hb:Below b w w6)(hE:EndAt w6 g (n+1) rs)(hX:X.1=true)(hv:∀i,i<=n->∀k,hasW (rs i) k=true↔X.2.2 i k)(hlo:lo<=g):
  WorkR n b w X rest (.returned (.agg #[.slice none 0 0,.slice (some ⟨g,0,none⟩) (n+1) (n+1)])) ((w6.setCell ⟨w.heap.size+1,0,none⟩ (.slice none 0 0)).setCell ⟨w.heap.size+1,1,none⟩ (.slice (some ⟨g,0,none⟩) (n+1) (n+1))):=by
 have q:=(qh w6 (w.heap.size+1) (.slice none 0 0) (.slice (some ⟨g,0,none⟩) (n+1) (n+1))).size;have hbB:=hS.lt;have hlt:=hE.lt;exact⟨((none,0,0),(some ⟨g,0,none⟩,n+1,n+1)),rfl,hS.fin (Below.refl _ _) (qh ..) (by omega),⟨lo,qfA hX hE hv hlo (Below.refl _ _) (qh ..) hr,by omega,hP.keep (q1o (Below.refl _ _) (qh ..) hr)⟩,qW hb (by omega) _ _⟩
end
section
variable {n:Nat} {t:List Nat} {x y:Sk} {rs us:Nat->List Nat} {av:List Bool}
theorem q3d{R S:Nat->Nat->Prop}(hI:∀i k,i<=n->S i k->i<=k/\k<=n)(hRS:∀i,i<=n->∀k,R i k↔S i k):∀(m i k:Nat),i<=n->(stepsP R m i k↔stepsP S m i k)
 | 0,_,_,_=>Iff.rfl
 | m+1,i,k,hi=>by
  constructor
  ·rintro⟨j,h1,h2⟩
   have h1':=(hRS i hi j).1 h1;exact⟨j,h1',(q3d hI hRS m j k (hI i j hi h1').2).1 h2⟩
  ·rintro⟨j,h1,h2⟩
   exact⟨j,(hRS i hi j).2 h1,(q3d hI hRS m j k (hI i j hi h1).2).2 h2⟩
theorem qho(hI:InW n x)(hv:∀i,i<=n->∀k,hasW (rs i) k=true↔x.2.2 i k):InR rs (n+1):=fun i hi k hk=>by
 have:=hI i k (by omega) ((hv i (by omega) k).1 hk)
 omega
theorem qfN(hl:t.length=n)(hv:∀i,i<=n->(av.getD i false=true↔x.2.1 i))(hd:∀i,i<n+1->∀j,hasW (rs i) j=stpF av (n+1) i j):∀i,i<=n->∀k,hasW (rs i) k=true↔(skT t (19,0) [x]).2.2 i k:=fun i hi k=>by
 rw[hd i (by omega) k]
 show _↔unY t.length 19 x.2 i k
 rw[hl];have:=hv i hi
 unfold stpF;generalize av.getD i false=q at this ⊢
 rw[Bool.and_eq_true,Bool.and_eq_true,this];simp[unY]
 constructor
 ·rintro⟨⟨h1,h2⟩,h3⟩;exact⟨h3,h2,h1⟩
 ·rintro⟨h3,h2,h1⟩;exact⟨⟨h1,h2⟩,h3⟩
theorem qfO(hv:∀i,i<=n->(av.getD i false=true↔x.2.1 i))(hd:∀i,i<n+1->∀j,hasW (rs i) j=tstF av (n+1) i j):∀i,i<=n->∀k,hasW (rs i) k=true↔(skT t (20,0) [x]).2.2 i k:=fun i hi k=>by
 rw[hd i (by omega) k]
 show _↔unY t.length 20 x.2 i k
 have:=hv i hi
 unfold tstF;generalize av.getD i false=q at this ⊢
 rw[Bool.and_eq_true,this];simp[unY]
 constructor
 ·rintro⟨h1,h2⟩;exact⟨h2,h1⟩
 ·rintro⟨h1,h2⟩;exact⟨h2,h1⟩
theorem qfM(hI:InW n x)(hv:∀i,i<=n->∀k,hasW (rs i) k=true↔x.2.2 i k)(hd:∀i,i<n+1->∀k,hasW (us i) k=true↔∃m,stepsP (Rl rs) m i k):∀i,i<=n->∀k,hasW (us i) k=true↔(skT t (23,0) [x]).2.2 i k:=fun i hi k=>by
 rw[hd i (by omega) k]
 show _↔unY t.length 23 x.2 i k
 simp only[unY,if_neg (show ¬ (23=19) by decide),if_neg (show ¬ (23=20) by decide)]
 constructor
 ·rintro⟨m,h⟩;exact⟨m,(q3d (R:=Rl rs) hI hv m i k hi).1 h⟩
 ·rintro⟨m,h⟩;exact⟨m,(q3d (R:=Rl rs) hI hv m i k hi).2 h⟩
theorem qh3(hI:InW n x)(hv:∀i,i<=n->∀k,hasW (rs i) k=true↔x.2.2 i k)(hv2:∀i,i<=n->(av.getD i false=true↔y.2.1 i)):∀i,i<=n->(someP rs av i (n+1)↔(skT t (17,0) [x,y]).2.1 i):=fun i hi=>by
 show _↔binV t.length 17 x.2 y.2 i
 simp[binV,someP]
 constructor
 ·rintro⟨m,h1,h2,h3⟩;exact⟨m,(hv i hi m).1 h2,(hv2 m (by omega)).1 h3⟩
 ·rintro⟨m,h1,h2⟩
  have:=hI i m hi h1
  exact⟨m,by omega,(hv i hi m).2 h1,(hv2 m this.2).2 h2⟩
theorem qh2(hI:InW n x)(hv:∀i,i<=n->∀k,hasW (rs i) k=true↔x.2.2 i k)(hv2:∀i,i<=n->(av.getD i false=true↔y.2.1 i)):∀i,i<=n->(everyP rs av i (n+1)↔(skT t (18,0) [x,y]).2.1 i):=fun i hi=>by
 show _↔binV t.length 18 x.2 y.2 i
 simp[binV,everyP]
 constructor
 ·intro h k hk
  have:=hI i k hi hk
  exact(hv2 k this.2).1 (h k (by omega) ((hv i hi k).2 hk))
 ·intro h m hm hk;exact(hv2 m (by omega)).2 (h m ((hv i hi m).1 hk))
theorem qfL{W:Nat}(hI:InW n y)(hv:∀i,i<=n->∀k,hasW (rs i) k=true↔x.2.2 i k)(hv2:∀i,i<=n->∀k,hasW (us i) k=true↔y.2.2 i k)(ho:∀i,i<n+1->OkW W (rs i))(ho2:∀i,i<n+1->OkW W (us i)):∀i,i<=n->∀k,hasW (plusTo rs us (n+1) i) k=true↔(skT t (21,0) [x,y]).2.2 i k:=fun i hi k=>by
 show _↔binY 21 x.2 y.2 i k
 unfold plusTo;rw[if_pos (by omega),q41 (ho i (by omega)) (ho2 i (by omega)) i k (fun j hj=>(hI i j hi ((hv2 i hi j).1 hj)).1),Bool.or_eq_true,hv i hi,hv2 i hi]
 simp[binY]
theorem qh4(hI:InW n x)(hv:∀i,i<=n->∀k,hasW (rs i) k=true↔x.2.2 i k)(hv2:∀i,i<=n->∀k,hasW (us i) k=true↔y.2.2 i k){xs:Nat->List Nat}(hd:∀i,i<n+1->SeqTo rs us i (n+1) (xs i)):∀i,i<=n->∀k,hasW (xs i) k=true↔(skT t (22,0) [x,y]).2.2 i k:=fun i hi k=>by
 rw[hd i (by omega) k]
 show _↔binY 22 x.2 y.2 i k
 simp[binY]
 constructor
 ·rintro⟨m,h1,h2,h3⟩;exact⟨m,(hv i hi m).1 h2,(hv2 m (by omega) k).1 h3⟩
 ·rintro⟨m,h1,h2⟩
  have:=hI i m hi h1
  exact⟨m,by omega,(hv i hi m).2 h1,(hv2 m this.2 k).2 h2⟩
theorem q3B{op:Nat}(hop:11<=op/\op<=16)(hl:t.length=n)(i:Nat):binV n op (x.2.1,fun _ _=>False) (y.2.1,fun _ _=>False) i↔(skT t (op,0) [x,y]).2.1 i:=by
 show _↔binV t.length op x.2 y.2 i
 rw[hl];obtain rfl|rfl|rfl|rfl|rfl|rfl:op=11\/op=12\/op=13\/op=14\/op=15\/op=16:=by omega
 all_goals simp[binV]
end
theorem q6H(b n c hi:Nat)(d:Option Addr)(zs:List Int)(x:Sk)(px:Mp)(rest:List (Sk×Mp))(w:World)(hL:LtSl w d n c zs)(hn:n<=10000)(hS:StkAt w b w.heap.size ((((x,px)::rest).map (·.2)).reverse))(hP:Parts w n b hi ((x,px)::rest))(hh:hi<=w.heap.size)(hx:x.1=false)(hr:rest.length<=1000000):
  Calls Tryz.prog 38 #[.pointer (some ⟨b,0,none⟩),.agg #[.int .u8 19,.int .u8 0],.slice d n c] w (WorkR n b w (skT (zN zs) (19,0) [x]) rest):=by
 have hlen:(zN zs).length=n:=by rw[qz];exact hL.sl.hlen
 obtain⟨lo,hpx,hlo,hPr⟩:=hP;obtain⟨p1,p2⟩:=px;rw[List.map_cons,List.reverse_cons]at hS;dsimp only at hS
 obtain⟨ga,av,hp1,hVa,hla,hva,_⟩:=hpx.2 hx;dsimp only at hp1
 subst hp1;have hw1:=qc w (.cells #[.int .u8 19,.int .u8 0] 43);have hw2:=qd hw1 (qc (w.alloc (.cells #[.int .u8 19,.int .u8 0] 43)) (.cells #[.slice none 0 0,.slice none 0 0] 63));have hbox:=(Below.heap_alloc (w.alloc (.cells #[.int .u8 19,.int .u8 0] 43)) (.cells #[.slice none 0 0,.slice none 0 0] 63) w.heap.size (by simp)).trans (MapKept.heap_alloc w _).1
 have hres:=(MapKept.heap_alloc (w.alloc (.cells #[.int .u8 19,.int .u8 0] 43)) (.cells #[.slice none 0 0,.slice none 0 0] 63)).1;have hsz:((w.alloc (.cells #[.int .u8 19,.int .u8 0] 43)).alloc (.cells #[.slice none 0 0,.slice none 0 0] 63)).heap.size=w.heap.size+2:=by simp
 rw[show (w.alloc (.cells #[.int .u8 19,.int .u8 0] 43)).heap.size=w.heap.size+1 by simp]at hres
 clear hw1;have HSEM:Hid (∀rs:Nat->List Nat,(∀i,i<n+1->∀j,hasW (rs i) j=stpF av (n+1) i j)->∀i,i<=n->∀k,hasW (rs i) k=true↔(skT (zN zs) (19,0) [x]).2.2 i k):=fun rs hd=>qfN hlen hva hd
 have hcall:=fun W (h:ValAt W ga av)=>q8J ga (n+1) av W (by omega) h hla
 have HTY:Hid ((skT (zN zs) (19,0) [x]).1=true):=rfl;generalize skT (zN zs) (19,0) [x]=X at *;have hbB:=hS.lt;have HPR:Hid (Parts w n b lo rest):=hPr;have HVA:Hid (ValAt w ga av):=hVa;have HS:Hid _:=hS;clear hS hPr hVa hva hla hL hpx hlen;go_enter Tryz.func38,Tryz.ntmps38
 go_wp2_with fail
 generalize (w.alloc (.cells #[.int .u8 19,.int .u8 0] 43)).alloc (.cells #[.slice none 0 0,.slice none 0 0] 63)=w2 at *;have hS2:=HS.out.up hw2;have htk:=qm b w.heap.size _ _ w2 hS2 (by simpa using hr)
 unfold slV at htk;dsimp only at htk
 have hfd:=q1Y (.slice (some ⟨ga,0,none⟩) (n+1) (n+1)) (.slice p2.1 p2.2.1 p2.2.2)
 have HTK:Hid (∀w3,StkAt w3 b w.heap.size ((rest.map (·.2)).reverse)->w2.grownBy w3 (some b)->ValAt w3 ga av/\Parts w3 n b lo rest/\w3.heap[w.heap.size+1]? = some (.cells #[.slice none 0 0,.slice none 0 0] 63 (0,0))/\Below b w w3):=fun w3 h1 h2=>by
  obtain⟨v0,hv0,_⟩:=hS2.c;have hK:KeepT w.heap.size w w3:=(KeepT.of_below hw2).trans (KeepT.of_grown (w:=w2) h2 hv0 (by decide) (by decide) (by decide))
  refine⟨(hK _ _ _ _ HVA.out (Or.inl rfl)).trans HVA.out,HPR.out.keep (hK.mono (by omega)),(h2.block _ (by omega) (fun e=>by injection e with e;omega)).trans hres,?_⟩
  exact((hw2.mono (by omega)).trans ⟨h2.os,h2.tape,h2.output,h2.size,fun k hk=>h2.block k (by omega) (fun e=>by injection e with e;omega)⟩)
 have Hsz:Hid _:=hsz;have HB2:Hid _:=hw2;refine htk.mono ?_
 rintro e w3 ⟨rfl,hs3,hg3⟩
 obtain⟨kv3,kp3,kr3,kb3⟩:=HTK.out _ hs3 hg3;have hsz3:=hg3.size;rw[hsz]at hsz3;have hcl:=hcall w3 kv3;have KS:Hid _:=hs3;have KP:Hid _:=kp3;have KR:Hid _:=kr3;have KB:Hid _:=kb3;clear hbox hS2 hsz hw2 hres hg3 hs3 kv3 kp3 kr3 kb3 HTK HS HPR HVA
 go_wp2_with fail
 refine hcl.mono ?_
 rintro e w4 ⟨rfl,⟨us,hE,hd⟩,hb4⟩
 have hr4:=(hb4.block _ (aes KR.out).1).trans KR.out
 have c0:=qb hr4 0;have c1:=qb hr4 1;have z0:=frozen_of_row _ _ 0 _ _ hr4;have z1:=frozen_of_row _ _ 1 _ _ hr4;simp at c0 c1
 have HE:Hid _:=hE;have HD:Hid _:=hd;have HB4:Hid _:=hb4;have HR4:Hid _:=hr4;clear hE hd hb4 hr4 hcl htk hcall;go_wp2;have f:=qt HR4.out (.slice none 0 0) (.slice (some ⟨w3.heap.size,0,none⟩) (n+1) (n+1));refine bodyPost_ret (v:=.agg #[.slice none 0 0,.slice (some ⟨w3.heap.size,0,none⟩) (n+1) (n+1)]) (by simp[results,Tryz.results38,go_sem,f.1,f.2.1]) rfl ?_
 exact q4w (KS.out.up HB4.out) (KP.out.keep (KeepT.of_below HB4.out)) HR4.out (KB.out.trans (HB4.out.mono (by omega))) HE.out HTY.out (HSEM.out _ HD.out) (by omega)
theorem q6I(b n c hi:Nat)(d:Option Addr)(zs:List Int)(x:Sk)(px:Mp)(rest:List (Sk×Mp))(w:World)(hL:LtSl w d n c zs)(hn:n<=10000)(hS:StkAt w b w.heap.size ((((x,px)::rest).map (·.2)).reverse))(hP:Parts w n b hi ((x,px)::rest))(hh:hi<=w.heap.size)(hx:x.1=false)(hr:rest.length<=1000000):
  Calls Tryz.prog 38 #[.pointer (some ⟨b,0,none⟩),.agg #[.int .u8 20,.int .u8 0],.slice d n c] w (WorkR n b w (skT (zN zs) (20,0) [x]) rest):=by
 have hlen:(zN zs).length=n:=by rw[qz];exact hL.sl.hlen
 obtain⟨lo,hpx,hlo,hPr⟩:=hP;obtain⟨p1,p2⟩:=px;rw[List.map_cons,List.reverse_cons]at hS;dsimp only at hS
 obtain⟨ga,av,hp1,hVa,hla,hva,_⟩:=hpx.2 hx;dsimp only at hp1
 subst hp1;have hw1:=qc w (.cells #[.int .u8 20,.int .u8 0] 43);have hw2:=qd hw1 (qc (w.alloc (.cells #[.int .u8 20,.int .u8 0] 43)) (.cells #[.slice none 0 0,.slice none 0 0] 63));have hbox:=(Below.heap_alloc (w.alloc (.cells #[.int .u8 20,.int .u8 0] 43)) (.cells #[.slice none 0 0,.slice none 0 0] 63) w.heap.size (by simp)).trans (MapKept.heap_alloc w _).1
 have hres:=(MapKept.heap_alloc (w.alloc (.cells #[.int .u8 20,.int .u8 0] 43)) (.cells #[.slice none 0 0,.slice none 0 0] 63)).1;have hsz:((w.alloc (.cells #[.int .u8 20,.int .u8 0] 43)).alloc (.cells #[.slice none 0 0,.slice none 0 0] 63)).heap.size=w.heap.size+2:=by simp
 rw[show (w.alloc (.cells #[.int .u8 20,.int .u8 0] 43)).heap.size=w.heap.size+1 by simp]at hres
 clear hw1;have HSEM:Hid (∀rs:Nat->List Nat,(∀i,i<n+1->∀j,hasW (rs i) j=tstF av (n+1) i j)->∀i,i<=n->∀k,hasW (rs i) k=true↔(skT (zN zs) (20,0) [x]).2.2 i k):=fun rs hd=>qfO hva hd
 have hcall:=fun W (h:ValAt W ga av)=>q8K ga (n+1) av W (by omega) h hla
 have HTY:Hid ((skT (zN zs) (20,0) [x]).1=true):=rfl;generalize skT (zN zs) (20,0) [x]=X at *;have hbB:=hS.lt;have HPR:Hid (Parts w n b lo rest):=hPr;have HVA:Hid (ValAt w ga av):=hVa;have HS:Hid _:=hS;clear hS hPr hVa hva hla hL hpx hlen;go_enter Tryz.func38,Tryz.ntmps38
 go_wp2_with fail
 generalize (w.alloc (.cells #[.int .u8 20,.int .u8 0] 43)).alloc (.cells #[.slice none 0 0,.slice none 0 0] 63)=w2 at *;have hS2:=HS.out.up hw2;have htk:=qm b w.heap.size _ _ w2 hS2 (by simpa using hr)
 unfold slV at htk;dsimp only at htk
 have hfd:=q1Y (.slice (some ⟨ga,0,none⟩) (n+1) (n+1)) (.slice p2.1 p2.2.1 p2.2.2)
 have HTK:Hid (∀w3,StkAt w3 b w.heap.size ((rest.map (·.2)).reverse)->w2.grownBy w3 (some b)->ValAt w3 ga av/\Parts w3 n b lo rest/\w3.heap[w.heap.size+1]? = some (.cells #[.slice none 0 0,.slice none 0 0] 63 (0,0))/\Below b w w3):=fun w3 h1 h2=>by
  obtain⟨v0,hv0,_⟩:=hS2.c;have hK:KeepT w.heap.size w w3:=(KeepT.of_below hw2).trans (KeepT.of_grown (w:=w2) h2 hv0 (by decide) (by decide) (by decide))
  refine⟨(hK _ _ _ _ HVA.out (Or.inl rfl)).trans HVA.out,HPR.out.keep (hK.mono (by omega)),(h2.block _ (by omega) (fun e=>by injection e with e;omega)).trans hres,?_⟩
  exact((hw2.mono (by omega)).trans ⟨h2.os,h2.tape,h2.output,h2.size,fun k hk=>h2.block k (by omega) (fun e=>by injection e with e;omega)⟩)
 have Hsz:Hid _:=hsz;have HB2:Hid _:=hw2;refine htk.mono ?_
 rintro e w3 ⟨rfl,hs3,hg3⟩
 obtain⟨kv3,kp3,kr3,kb3⟩:=HTK.out _ hs3 hg3;have hsz3:=hg3.size;rw[hsz]at hsz3;have hcl:=hcall w3 kv3;have KS:Hid _:=hs3;have KP:Hid _:=kp3;have KR:Hid _:=kr3;have KB:Hid _:=kb3;clear hbox hS2 hsz hw2 hres hg3 hs3 kv3 kp3 kr3 kb3 HTK HS HPR HVA
 go_wp2_with fail
 refine hcl.mono ?_
 rintro e w4 ⟨rfl,⟨us,hE,hd⟩,hb4⟩
 have hr4:=(hb4.block _ (aes KR.out).1).trans KR.out
 have c0:=qb hr4 0;have c1:=qb hr4 1;have z0:=frozen_of_row _ _ 0 _ _ hr4;have z1:=frozen_of_row _ _ 1 _ _ hr4;simp at c0 c1
 have HE:Hid _:=hE;have HD:Hid _:=hd;have HB4:Hid _:=hb4;have HR4:Hid _:=hr4;clear hE hd hb4 hr4 hcl htk hcall;go_wp2;have f:=qt HR4.out (.slice none 0 0) (.slice (some ⟨w3.heap.size,0,none⟩) (n+1) (n+1));refine bodyPost_ret (v:=.agg #[.slice none 0 0,.slice (some ⟨w3.heap.size,0,none⟩) (n+1) (n+1)]) (by simp[results,Tryz.results38,go_sem,f.1,f.2.1]) rfl ?_
 exact q4w (KS.out.up HB4.out) (KP.out.keep (KeepT.of_below HB4.out)) HR4.out (KB.out.trans (HB4.out.mono (by omega))) HE.out HTY.out (HSEM.out _ HD.out) (by omega)
theorem q6L(b n c hi:Nat)(d:Option Addr)(zs:List Int)(x:Sk)(px:Mp)(rest:List (Sk×Mp))(w:World)(hL:LtSl w d n c zs)(hn:n<=10000)(hS:StkAt w b w.heap.size ((((x,px)::rest).map (·.2)).reverse))(hP:Parts w n b hi ((x,px)::rest))(hh:hi<=w.heap.size)(hx:x.1=true)(hI:InW n x)(hr:rest.length<=1000000):
  Calls Tryz.prog 38 #[.pointer (some ⟨b,0,none⟩),.agg #[.int .u8 23,.int .u8 0],.slice d n c] w (WorkR n b w (skT (zN zs) (23,0) [x]) rest):=by
 have hlen:(zN zs).length=n:=by rw[qz];exact hL.sl.hlen
 obtain⟨lo,hpx,hlo,hPr⟩:=hP;obtain⟨p1,p2⟩:=px;rw[List.map_cons,List.reverse_cons]at hS;dsimp only at hS
 obtain⟨ga,rs,hp1,hEa,hva,hga1,hga2⟩:=hpx.1 hx;dsimp only at hp1
 subst hp1;have hw1:=qc w (.cells #[.int .u8 23,.int .u8 0] 43);have hw2:=qd hw1 (qc (w.alloc (.cells #[.int .u8 23,.int .u8 0] 43)) (.cells #[.slice none 0 0,.slice none 0 0] 63));have hbox:=(Below.heap_alloc (w.alloc (.cells #[.int .u8 23,.int .u8 0] 43)) (.cells #[.slice none 0 0,.slice none 0 0] 63) w.heap.size (by simp)).trans (MapKept.heap_alloc w _).1
 have hres:=(MapKept.heap_alloc (w.alloc (.cells #[.int .u8 23,.int .u8 0] 43)) (.cells #[.slice none 0 0,.slice none 0 0] 63)).1;have hsz:((w.alloc (.cells #[.int .u8 23,.int .u8 0] 43)).alloc (.cells #[.slice none 0 0,.slice none 0 0] 63)).heap.size=w.heap.size+2:=by simp
 rw[show (w.alloc (.cells #[.int .u8 23,.int .u8 0] 43)).heap.size=w.heap.size+1 by simp]at hres
 clear hw1;have HSEM:Hid (∀us:Nat->List Nat,(∀i,i<n+1->∀k,hasW (us i) k=true↔∃m,stepsP (Rl rs) m i k)->∀i,i<=n->∀k,hasW (us i) k=true↔(skT (zN zs) (23,0) [x]).2.2 i k):=fun us hd=>qfM hI hva hd
 have hcall:=fun W (h:EndAt W ga (n+1) rs)=>q8I ga (n+1) rs W (by omega) (by omega) h (qho hI hva)
 have HTY:Hid ((skT (zN zs) (23,0) [x]).1=true):=rfl;generalize skT (zN zs) (23,0) [x]=X at *;have hbB:=hS.lt;have HPR:Hid (Parts w n b lo rest):=hPr;have HVA:Hid (EndAt w ga (n+1) rs):=hEa;have HS:Hid _:=hS;clear hS hPr hEa hva hL hpx hlen;go_enter Tryz.func38,Tryz.ntmps38
 go_wp2_with fail
 generalize (w.alloc (.cells #[.int .u8 23,.int .u8 0] 43)).alloc (.cells #[.slice none 0 0,.slice none 0 0] 63)=w2 at *;have hS2:=HS.out.up hw2;have htk:=qm b w.heap.size _ _ w2 hS2 (by simpa using hr)
 unfold slV at htk;dsimp only at htk
 have hfd:=qe0 (.slice p1.1 p1.2.1 p1.2.2) (.slice (some ⟨ga,0,none⟩) (n+1) (n+1))
 have HTK:Hid (∀w3,StkAt w3 b w.heap.size ((rest.map (·.2)).reverse)->w2.grownBy w3 (some b)->EndAt w3 ga (n+1) rs/\Parts w3 n b lo rest/\w3.heap[w.heap.size+1]? = some (.cells #[.slice none 0 0,.slice none 0 0] 63 (0,0))/\Below b w w3):=fun w3 h1 h2=>by
  obtain⟨v0,hv0,_⟩:=hS2.c;have hK:KeepT w.heap.size w w3:=(KeepT.of_below hw2).trans (KeepT.of_grown (w:=w2) h2 hv0 (by decide) (by decide) (by decide))
  refine⟨HVA.out.keep (fun k c t z hc ht h1 h2=>hK k c t z hc (Or.inr ⟨ht,by omega⟩)),HPR.out.keep (hK.mono (by omega)),(h2.block _ (by omega) (fun e=>by injection e with e;omega)).trans hres,?_⟩
  exact((hw2.mono (by omega)).trans ⟨h2.os,h2.tape,h2.output,h2.size,fun k hk=>h2.block k (by omega) (fun e=>by injection e with e;omega)⟩)
 have Hsz:Hid _:=hsz;have HB2:Hid _:=hw2;refine htk.mono ?_
 rintro e w3 ⟨rfl,hs3,hg3⟩
 obtain⟨kv3,kp3,kr3,kb3⟩:=HTK.out _ hs3 hg3;have hsz3:=hg3.size;rw[hsz]at hsz3;have hcl:=hcall w3 kv3;have KS:Hid _:=hs3;have KP:Hid _:=kp3;have KR:Hid _:=kr3;have KB:Hid _:=kb3;clear hbox hS2 hsz hw2 hres hg3 hs3 kv3 kp3 kr3 kb3 HTK HS HPR HVA
 go_wp2_with fail
 refine hcl.mono ?_
 rintro e w4 ⟨rfl,⟨us,hE,hd⟩,hb4⟩
 have hr4:=(hb4.block _ (aes KR.out).1).trans KR.out
 have c0:=qb hr4 0;have c1:=qb hr4 1;have z0:=frozen_of_row _ _ 0 _ _ hr4;have z1:=frozen_of_row _ _ 1 _ _ hr4;simp at c0 c1
 have HE:Hid _:=hE;have HD:Hid _:=hd;have HB4:Hid _:=hb4;have HR4:Hid _:=hr4;clear hE hd hb4 hr4 hcl htk hcall;go_wp2;have f:=qt HR4.out (.slice none 0 0) (.slice (some ⟨w3.heap.size,0,none⟩) (n+1) (n+1));refine bodyPost_ret (v:=.agg #[.slice none 0 0,.slice (some ⟨w3.heap.size,0,none⟩) (n+1) (n+1)]) (by simp[results,Tryz.results38,go_sem,f.1,f.2.1]) rfl ?_
 exact q4w (KS.out.up HB4.out) (KP.out.keep (KeepT.of_below HB4.out)) HR4.out (KB.out.trans (HB4.out.mono (by omega))) HE.out HTY.out (HSEM.out _ HD.out) (by omega)
theorem q6z(b n c hi:Nat)(d:Option Addr)(zs:List Int)(x y:Sk)(px py:Mp)(rest:List (Sk×Mp))(w:World)(hL:LtSl w d n c zs)(hn:n<=10000)(hS:StkAt w b w.heap.size ((((y,py)::(x,px)::rest).map (·.2)).reverse))(hP:Parts w n b hi ((y,py)::(x,px)::rest))(hh:hi<=w.heap.size)(hx:x.1=false)(hy:y.1=false)(hr:rest.length<=999999):
  Calls Tryz.prog 38 #[.pointer (some ⟨b,0,none⟩),.agg #[.int .u8 11,.int .u8 0],.slice d n c] w (WorkR n b w (skT (zN zs) (11,0) [x,y]) rest):=by
 have hlen:(zN zs).length=n:=by rw[qz];exact hL.sl.hlen
 obtain⟨lo2,hpy,hlo2,lo,hpx,hlo,hPr⟩:=hP;have hblo:=Parts.low hPr;obtain⟨p1,p2⟩:=px;obtain⟨q1,q2⟩:=py;rw[List.map_cons,List.reverse_cons,List.map_cons,List.reverse_cons]at hS;dsimp only at hS
 obtain⟨ga,av,hp1,hVa,hla,hva,_⟩:=hpx.2 hx;dsimp only at hp1
 subst hp1;obtain⟨gb,bv,hq1,hVb,hlb,hvb,_⟩:=hpy.2 hy;dsimp only at hq1
 subst hq1;have hw1:=qc w (.cells #[.int .u8 11,.int .u8 0] 43);have hw2:=qd hw1 (qc (w.alloc (.cells #[.int .u8 11,.int .u8 0] 43)) (.cells #[.slice none 0 0,.slice none 0 0] 63));have hbox:=(Below.heap_alloc (w.alloc (.cells #[.int .u8 11,.int .u8 0] 43)) (.cells #[.slice none 0 0,.slice none 0 0] 63) w.heap.size (by simp)).trans (MapKept.heap_alloc w _).1
 have hres:=(MapKept.heap_alloc (w.alloc (.cells #[.int .u8 11,.int .u8 0] 43)) (.cells #[.slice none 0 0,.slice none 0 0] 63)).1;have hsz:((w.alloc (.cells #[.int .u8 11,.int .u8 0] 43)).alloc (.cells #[.slice none 0 0,.slice none 0 0] 63)).heap.size=w.heap.size+2:=by simp
 rw[show (w.alloc (.cells #[.int .u8 11,.int .u8 0] 43)).heap.size=w.heap.size+1 by simp]at hres
 clear hw1;have HSEM:Hid (∀i,binV n 11 (x.2.1,fun _ _=>False) (y.2.1,fun _ _=>False) i↔(skT (zN zs) (11,0) [x,y]).2.1 i):=fun i=>q3B (by omega) hlen i
 have hcall:=fun W (h1:ValAt W ga av) (h2:ValAt W gb bv)=>q7t n ga gb av bv x.2.1 y.2.1 W h1 h2 hla hlb hva hvb hn
 generalize binV n 11 (x.2.1,fun _ _=>False) (y.2.1,fun _ _=>False)=VV at *;have HTY:Hid ((skT (zN zs) (11,0) [x,y]).1=false):=rfl;generalize skT (zN zs) (11,0) [x,y]=X at *;have hbB:=hS.lt;have HPR:Hid (Parts w n b lo rest):=hPr;have HVA:Hid (ValAt w ga av):=hVa;have HVB:Hid (ValAt w gb bv):=hVb;have HS:Hid _:=hS;clear hS hPr hVa hVb hva hvb hla hlb hL hpx hpy hlen;go_enter Tryz.func38,Tryz.ntmps38
 go_wp2_with fail
 generalize (w.alloc (.cells #[.int .u8 11,.int .u8 0] 43)).alloc (.cells #[.slice none 0 0,.slice none 0 0] 63)=w2 at *;have hS2:=HS.out.up hw2;have htk:=qm b w.heap.size _ _ w2 hS2 (by simp;omega)
 unfold slV at htk;dsimp only at htk
 have Hsz:Hid _:=hsz;have HB2:Hid _:=hw2;have HBX:Hid _:=hbox;have HRS:Hid _:=hres;have HS2:Hid _:=hS2;clear hbox hS2 hsz hw2 hres;refine htk.mono ?_
 rintro e w3 ⟨rfl,hs3,hg3⟩
 have htk2:=qm b w.heap.size _ _ (w3.alloc (.cells #[.slice (some ⟨gb,0,none⟩) (n+1) (n+1),.slice q2.1 q2.2.1 q2.2.2] 63)) (hs3.up (qc _ _)) (by simp;omega)
 unfold slV at htk2;dsimp only at htk2
 have HG3:Hid _:=hg3;have HS3:Hid _:=hs3;clear htk hs3 hg3
 go_wp2_with fail
 refine htk2.mono ?_
 rintro e w4 ⟨rfl,hs4,hg4⟩
 have hz2:=Hsz.out;have hz3:=HG3.out.size;have hz4:=hg4.size;have hz4':w3.heap.size+1<=w4.heap.size:=by simpa using hz4
 have hbx3:=(HG3.out.block w.heap.size (by omega) (fun e=>by injection e with e;omega)).trans HBX.out
 have hbx4:=(hg4.block w.heap.size (by simp;omega) (fun e=>by injection e with e;omega)).trans ((Below.heap_alloc w3 (.cells #[.slice (some ⟨gb,0,none⟩) (n+1) (n+1),.slice q2.1 q2.2.1 q2.2.2] 63) _ (by omega)).trans hbx3)
 have hrs3:=(HG3.out.block (w.heap.size+1) (by omega) (fun e=>by injection e with e;omega)).trans HRS.out
 have hrs4:=(hg4.block (w.heap.size+1) (by simp;omega) (fun e=>by injection e with e;omega)).trans ((Below.heap_alloc w3 (.cells #[.slice (some ⟨gb,0,none⟩) (n+1) (n+1),.slice q2.1 q2.2.1 q2.2.2] 63) _ (by omega)).trans hrs3)
 have hvb4:=(hg4.block w3.heap.size (by simp) (fun e=>by injection e with e;omega)).trans (MapKept.heap_alloc w3 (.cells #[.slice (some ⟨gb,0,none⟩) (n+1) (n+1),.slice q2.1 q2.2.1 q2.2.2] 63)).1
 have hK:KeepT w.heap.size w w4:=by
  obtain⟨v0,hv0,_⟩:=HS2.out.c;obtain⟨v1,hv1,_⟩:=(HS3.out.up (qc w3 (.cells #[.slice (some ⟨gb,0,none⟩) (n+1) (n+1),.slice q2.1 q2.2.1 q2.2.2] 63))).c;exact(((KeepT.of_below HB2.out).trans (KeepT.of_grown HG3.out hv0 (by decide) (by decide) (by decide))).trans (KeepT.of_below (qc _ (.cells #[.slice (some ⟨gb,0,none⟩) (n+1) (n+1),.slice q2.1 q2.2.1 q2.2.2] 63)))).trans (KeepT.of_grown hg4 hv1 (by decide) (by decide) (by decide))
 have hbl:Below b w w4:=by
  have h1:Below b w2 w3:=⟨HG3.out.os,HG3.out.tape,HG3.out.output,HG3.out.size,fun k hk=>HG3.out.block k (by omega) (fun e=>by injection e with e;omega)⟩
  have h2:Below b (w3.alloc (.cells #[.slice (some ⟨gb,0,none⟩) (n+1) (n+1),.slice q2.1 q2.2.1 q2.2.2] 63)) w4:=⟨hg4.os,hg4.tape,hg4.output,hg4.size,fun k hk=>hg4.block k (by simp;omega) (fun e=>by injection e with e;omega)⟩
  exact(((HB2.out.mono (by omega)).trans h1).trans ((qc _ _).mono (by omega))).trans h2
 have KA:Hid (ValAt w4 ga av):=(hK _ _ _ _ HVA.out (Or.inl rfl)).trans HVA.out;have KBv:Hid (ValAt w4 gb bv):=(hK _ _ _ _ HVB.out (Or.inl rfl)).trans HVB.out;have KP:Hid (Parts w4 n b lo rest):=HPR.out.keep (hK.mono (by omega))
 have KB:Hid (Below b w w4):=hbl;have KS:Hid _:=hs4;have KR:Hid _:=hrs4;have cx:=qb ((Below.heap_alloc w4 (.cells #[.slice (some ⟨ga,0,none⟩) (n+1) (n+1),.slice p2.1 p2.2.1 p2.2.2] 63) _ (by omega)).trans hbx4) 0
 have cb0:=qb ((Below.heap_alloc w4 (.cells #[.slice (some ⟨ga,0,none⟩) (n+1) (n+1),.slice p2.1 p2.2.1 p2.2.2] 63) _ (by omega)).trans hvb4) 0
 have cb1:=qb ((Below.heap_alloc w4 (.cells #[.slice (some ⟨ga,0,none⟩) (n+1) (n+1),.slice p2.1 p2.2.1 p2.2.2] 63) _ (by omega)).trans hvb4) 1
 simp at cx cb0 cb1
 have hcl:=hcall (w4.alloc (.cells #[.slice (some ⟨ga,0,none⟩) (n+1) (n+1),.slice p2.1 p2.2.1 p2.2.2] 63)) (KA.out.up (qc _ _)) (KBv.out.up (qc _ _));have HZ:Hid (w.heap.size+2<=w4.heap.size):=by show _<=_;omega
 clear hbx3 hbx4 hrs3 hrs4 hvb4 hK hbl hs4 hg4 hz2 hz3 hz4 hz4' htk2 hcall HG3 HS3 HS2 HRS HBX HB2 Hsz HPR HVA HVB HS KA KBv
 go_wp2_with fail
 refine hcl.mono ?_
 rintro e w6 ⟨g,bs,rfl,hV,hl,hv,hb6,hge⟩
 have hr6:=(hb6.block (w.heap.size+1) (by have:=HZ.out;simp;omega)).trans ((Below.heap_alloc w4 (.cells #[.slice (some ⟨ga,0,none⟩) (n+1) (n+1),.slice p2.1 p2.2.1 p2.2.2] 63) _ (by have:=HZ.out;omega)).trans KR.out)
 have K6:=qd (qc w4 (.cells #[.slice (some ⟨ga,0,none⟩) (n+1) (n+1),.slice p2.1 p2.2.1 p2.2.2] 63)) hb6;have c0:=qb hr6 0;have c1:=qb hr6 1;have z0:=frozen_of_row _ _ 0 _ _ hr6;have z1:=frozen_of_row _ _ 1 _ _ hr6;simp at c0 c1
 have HR6:Hid _:=hr6
 have HF:Hid (WorkR n b w X rest (.returned (.agg #[.slice (some ⟨g,0,none⟩) (n+1) (n+1),.slice none 0 0])) ((w6.setCell ⟨w.heap.size+1,0,none⟩ (.slice (some ⟨g,0,none⟩) (n+1) (n+1))).setCell ⟨w.heap.size+1,1,none⟩ (.slice none 0 0))) :=
  q2z (KS.out.up K6) (KP.out.keep (KeepT.of_below K6)) hr6 (KB.out.trans (K6.mono (by have:=HZ.out;omega))) hV hl HTY.out (fun i hi=>(hv i hi).trans (HSEM.out i)) (by have:=HZ.out;have:=K6.size;omega) (by have:=HZ.out;simp at hge;omega)
 clear hge hV hl hv hb6 hr6 K6 hcl KS KP KR KB cx cb0 cb1;go_wp2;have f:=qt HR6.out (.slice (some ⟨g,0,none⟩) (n+1) (n+1)) (.slice none 0 0);refine bodyPost_ret (v:=.agg #[.slice (some ⟨g,0,none⟩) (n+1) (n+1),.slice none 0 0]) (by simp[results,Tryz.results38,go_sem,f.1,f.2.1]) rfl ?_
 exact HF.out
theorem q6A(b n c hi:Nat)(d:Option Addr)(zs:List Int)(x y:Sk)(px py:Mp)(rest:List (Sk×Mp))(w:World)(hL:LtSl w d n c zs)(hn:n<=10000)(hS:StkAt w b w.heap.size ((((y,py)::(x,px)::rest).map (·.2)).reverse))(hP:Parts w n b hi ((y,py)::(x,px)::rest))(hh:hi<=w.heap.size)(hx:x.1=false)(hy:y.1=false)(hr:rest.length<=999999):
  Calls Tryz.prog 38 #[.pointer (some ⟨b,0,none⟩),.agg #[.int .u8 12,.int .u8 0],.slice d n c] w (WorkR n b w (skT (zN zs) (12,0) [x,y]) rest):=by
 have hlen:(zN zs).length=n:=by rw[qz];exact hL.sl.hlen
 obtain⟨lo2,hpy,hlo2,lo,hpx,hlo,hPr⟩:=hP;have hblo:=Parts.low hPr;obtain⟨p1,p2⟩:=px;obtain⟨q1,q2⟩:=py;rw[List.map_cons,List.reverse_cons,List.map_cons,List.reverse_cons]at hS;dsimp only at hS
 obtain⟨ga,av,hp1,hVa,hla,hva,_⟩:=hpx.2 hx;dsimp only at hp1
 subst hp1;obtain⟨gb,bv,hq1,hVb,hlb,hvb,_⟩:=hpy.2 hy;dsimp only at hq1
 subst hq1;have hw1:=qc w (.cells #[.int .u8 12,.int .u8 0] 43);have hw2:=qd hw1 (qc (w.alloc (.cells #[.int .u8 12,.int .u8 0] 43)) (.cells #[.slice none 0 0,.slice none 0 0] 63));have hbox:=(Below.heap_alloc (w.alloc (.cells #[.int .u8 12,.int .u8 0] 43)) (.cells #[.slice none 0 0,.slice none 0 0] 63) w.heap.size (by simp)).trans (MapKept.heap_alloc w _).1
 have hres:=(MapKept.heap_alloc (w.alloc (.cells #[.int .u8 12,.int .u8 0] 43)) (.cells #[.slice none 0 0,.slice none 0 0] 63)).1;have hsz:((w.alloc (.cells #[.int .u8 12,.int .u8 0] 43)).alloc (.cells #[.slice none 0 0,.slice none 0 0] 63)).heap.size=w.heap.size+2:=by simp
 rw[show (w.alloc (.cells #[.int .u8 12,.int .u8 0] 43)).heap.size=w.heap.size+1 by simp]at hres
 clear hw1;have HSEM:Hid (∀i,binV n 12 (x.2.1,fun _ _=>False) (y.2.1,fun _ _=>False) i↔(skT (zN zs) (12,0) [x,y]).2.1 i):=fun i=>q3B (by omega) hlen i
 have hcall:=fun W (h1:ValAt W ga av) (h2:ValAt W gb bv)=>q7u n ga gb av bv x.2.1 y.2.1 W h1 h2 hla hlb hva hvb hn
 generalize binV n 12 (x.2.1,fun _ _=>False) (y.2.1,fun _ _=>False)=VV at *;have HTY:Hid ((skT (zN zs) (12,0) [x,y]).1=false):=rfl;generalize skT (zN zs) (12,0) [x,y]=X at *;have hbB:=hS.lt;have HPR:Hid (Parts w n b lo rest):=hPr;have HVA:Hid (ValAt w ga av):=hVa;have HVB:Hid (ValAt w gb bv):=hVb;have HS:Hid _:=hS;clear hS hPr hVa hVb hva hvb hla hlb hL hpx hpy hlen;go_enter Tryz.func38,Tryz.ntmps38
 go_wp2_with fail
 generalize (w.alloc (.cells #[.int .u8 12,.int .u8 0] 43)).alloc (.cells #[.slice none 0 0,.slice none 0 0] 63)=w2 at *;have hS2:=HS.out.up hw2;have htk:=qm b w.heap.size _ _ w2 hS2 (by simp;omega)
 unfold slV at htk;dsimp only at htk
 have Hsz:Hid _:=hsz;have HB2:Hid _:=hw2;have HBX:Hid _:=hbox;have HRS:Hid _:=hres;have HS2:Hid _:=hS2;clear hbox hS2 hsz hw2 hres;refine htk.mono ?_
 rintro e w3 ⟨rfl,hs3,hg3⟩
 have htk2:=qm b w.heap.size _ _ (w3.alloc (.cells #[.slice (some ⟨gb,0,none⟩) (n+1) (n+1),.slice q2.1 q2.2.1 q2.2.2] 63)) (hs3.up (qc _ _)) (by simp;omega)
 unfold slV at htk2;dsimp only at htk2
 have HG3:Hid _:=hg3;have HS3:Hid _:=hs3;clear htk hs3 hg3
 go_wp2_with fail
 refine htk2.mono ?_
 rintro e w4 ⟨rfl,hs4,hg4⟩
 have hz2:=Hsz.out;have hz3:=HG3.out.size;have hz4:=hg4.size;have hz4':w3.heap.size+1<=w4.heap.size:=by simpa using hz4
 have hbx3:=(HG3.out.block w.heap.size (by omega) (fun e=>by injection e with e;omega)).trans HBX.out
 have hbx4:=(hg4.block w.heap.size (by simp;omega) (fun e=>by injection e with e;omega)).trans ((Below.heap_alloc w3 (.cells #[.slice (some ⟨gb,0,none⟩) (n+1) (n+1),.slice q2.1 q2.2.1 q2.2.2] 63) _ (by omega)).trans hbx3)
 have hrs3:=(HG3.out.block (w.heap.size+1) (by omega) (fun e=>by injection e with e;omega)).trans HRS.out
 have hrs4:=(hg4.block (w.heap.size+1) (by simp;omega) (fun e=>by injection e with e;omega)).trans ((Below.heap_alloc w3 (.cells #[.slice (some ⟨gb,0,none⟩) (n+1) (n+1),.slice q2.1 q2.2.1 q2.2.2] 63) _ (by omega)).trans hrs3)
 have hvb4:=(hg4.block w3.heap.size (by simp) (fun e=>by injection e with e;omega)).trans (MapKept.heap_alloc w3 (.cells #[.slice (some ⟨gb,0,none⟩) (n+1) (n+1),.slice q2.1 q2.2.1 q2.2.2] 63)).1
 have hK:KeepT w.heap.size w w4:=by
  obtain⟨v0,hv0,_⟩:=HS2.out.c;obtain⟨v1,hv1,_⟩:=(HS3.out.up (qc w3 (.cells #[.slice (some ⟨gb,0,none⟩) (n+1) (n+1),.slice q2.1 q2.2.1 q2.2.2] 63))).c;exact(((KeepT.of_below HB2.out).trans (KeepT.of_grown HG3.out hv0 (by decide) (by decide) (by decide))).trans (KeepT.of_below (qc _ (.cells #[.slice (some ⟨gb,0,none⟩) (n+1) (n+1),.slice q2.1 q2.2.1 q2.2.2] 63)))).trans (KeepT.of_grown hg4 hv1 (by decide) (by decide) (by decide))
 have hbl:Below b w w4:=by
  have h1:Below b w2 w3:=⟨HG3.out.os,HG3.out.tape,HG3.out.output,HG3.out.size,fun k hk=>HG3.out.block k (by omega) (fun e=>by injection e with e;omega)⟩
  have h2:Below b (w3.alloc (.cells #[.slice (some ⟨gb,0,none⟩) (n+1) (n+1),.slice q2.1 q2.2.1 q2.2.2] 63)) w4:=⟨hg4.os,hg4.tape,hg4.output,hg4.size,fun k hk=>hg4.block k (by simp;omega) (fun e=>by injection e with e;omega)⟩
  exact(((HB2.out.mono (by omega)).trans h1).trans ((qc _ _).mono (by omega))).trans h2
 have KA:Hid (ValAt w4 ga av):=(hK _ _ _ _ HVA.out (Or.inl rfl)).trans HVA.out;have KBv:Hid (ValAt w4 gb bv):=(hK _ _ _ _ HVB.out (Or.inl rfl)).trans HVB.out;have KP:Hid (Parts w4 n b lo rest):=HPR.out.keep (hK.mono (by omega))
 have KB:Hid (Below b w w4):=hbl;have KS:Hid _:=hs4;have KR:Hid _:=hrs4;have cx:=qb ((Below.heap_alloc w4 (.cells #[.slice (some ⟨ga,0,none⟩) (n+1) (n+1),.slice p2.1 p2.2.1 p2.2.2] 63) _ (by omega)).trans hbx4) 0
 have cb0:=qb ((Below.heap_alloc w4 (.cells #[.slice (some ⟨ga,0,none⟩) (n+1) (n+1),.slice p2.1 p2.2.1 p2.2.2] 63) _ (by omega)).trans hvb4) 0
 have cb1:=qb ((Below.heap_alloc w4 (.cells #[.slice (some ⟨ga,0,none⟩) (n+1) (n+1),.slice p2.1 p2.2.1 p2.2.2] 63) _ (by omega)).trans hvb4) 1
 simp at cx cb0 cb1
 have hcl:=hcall (w4.alloc (.cells #[.slice (some ⟨ga,0,none⟩) (n+1) (n+1),.slice p2.1 p2.2.1 p2.2.2] 63)) (KA.out.up (qc _ _)) (KBv.out.up (qc _ _));have HZ:Hid (w.heap.size+2<=w4.heap.size):=by show _<=_;omega
 clear hbx3 hbx4 hrs3 hrs4 hvb4 hK hbl hs4 hg4 hz2 hz3 hz4 hz4' htk2 hcall HG3 HS3 HS2 HRS HBX HB2 Hsz HPR HVA HVB HS KA KBv
 go_wp2_with fail
 refine hcl.mono ?_
 rintro e w6 ⟨g,bs,rfl,hV,hl,hv,hb6,hge⟩
 have hr6:=(hb6.block (w.heap.size+1) (by have:=HZ.out;simp;omega)).trans ((Below.heap_alloc w4 (.cells #[.slice (some ⟨ga,0,none⟩) (n+1) (n+1),.slice p2.1 p2.2.1 p2.2.2] 63) _ (by have:=HZ.out;omega)).trans KR.out)
 have K6:=qd (qc w4 (.cells #[.slice (some ⟨ga,0,none⟩) (n+1) (n+1),.slice p2.1 p2.2.1 p2.2.2] 63)) hb6;have c0:=qb hr6 0;have c1:=qb hr6 1;have z0:=frozen_of_row _ _ 0 _ _ hr6;have z1:=frozen_of_row _ _ 1 _ _ hr6;simp at c0 c1
 have HR6:Hid _:=hr6
 have HF:Hid (WorkR n b w X rest (.returned (.agg #[.slice (some ⟨g,0,none⟩) (n+1) (n+1),.slice none 0 0])) ((w6.setCell ⟨w.heap.size+1,0,none⟩ (.slice (some ⟨g,0,none⟩) (n+1) (n+1))).setCell ⟨w.heap.size+1,1,none⟩ (.slice none 0 0))) :=
  q2z (KS.out.up K6) (KP.out.keep (KeepT.of_below K6)) hr6 (KB.out.trans (K6.mono (by have:=HZ.out;omega))) hV hl HTY.out (fun i hi=>(hv i hi).trans (HSEM.out i)) (by have:=HZ.out;have:=K6.size;omega) (by have:=HZ.out;simp at hge;omega)
 clear hge hV hl hv hb6 hr6 K6 hcl KS KP KR KB cx cb0 cb1;go_wp2;have f:=qt HR6.out (.slice (some ⟨g,0,none⟩) (n+1) (n+1)) (.slice none 0 0);refine bodyPost_ret (v:=.agg #[.slice (some ⟨g,0,none⟩) (n+1) (n+1),.slice none 0 0]) (by simp[results,Tryz.results38,go_sem,f.1,f.2.1]) rfl ?_
 exact HF.out
theorem q6B(b n c hi:Nat)(d:Option Addr)(zs:List Int)(x y:Sk)(px py:Mp)(rest:List (Sk×Mp))(w:World)(hL:LtSl w d n c zs)(hn:n<=10000)(hS:StkAt w b w.heap.size ((((y,py)::(x,px)::rest).map (·.2)).reverse))(hP:Parts w n b hi ((y,py)::(x,px)::rest))(hh:hi<=w.heap.size)(hx:x.1=false)(hy:y.1=false)(hr:rest.length<=999999):
  Calls Tryz.prog 38 #[.pointer (some ⟨b,0,none⟩),.agg #[.int .u8 13,.int .u8 0],.slice d n c] w (WorkR n b w (skT (zN zs) (13,0) [x,y]) rest):=by
 have hlen:(zN zs).length=n:=by rw[qz];exact hL.sl.hlen
 obtain⟨lo2,hpy,hlo2,lo,hpx,hlo,hPr⟩:=hP;have hblo:=Parts.low hPr;obtain⟨p1,p2⟩:=px;obtain⟨q1,q2⟩:=py;rw[List.map_cons,List.reverse_cons,List.map_cons,List.reverse_cons]at hS;dsimp only at hS
 obtain⟨ga,av,hp1,hVa,hla,hva,_⟩:=hpx.2 hx;dsimp only at hp1
 subst hp1;obtain⟨gb,bv,hq1,hVb,hlb,hvb,_⟩:=hpy.2 hy;dsimp only at hq1
 subst hq1;have hw1:=qc w (.cells #[.int .u8 13,.int .u8 0] 43);have hw2:=qd hw1 (qc (w.alloc (.cells #[.int .u8 13,.int .u8 0] 43)) (.cells #[.slice none 0 0,.slice none 0 0] 63));have hbox:=(Below.heap_alloc (w.alloc (.cells #[.int .u8 13,.int .u8 0] 43)) (.cells #[.slice none 0 0,.slice none 0 0] 63) w.heap.size (by simp)).trans (MapKept.heap_alloc w _).1
 have hres:=(MapKept.heap_alloc (w.alloc (.cells #[.int .u8 13,.int .u8 0] 43)) (.cells #[.slice none 0 0,.slice none 0 0] 63)).1;have hsz:((w.alloc (.cells #[.int .u8 13,.int .u8 0] 43)).alloc (.cells #[.slice none 0 0,.slice none 0 0] 63)).heap.size=w.heap.size+2:=by simp
 rw[show (w.alloc (.cells #[.int .u8 13,.int .u8 0] 43)).heap.size=w.heap.size+1 by simp]at hres
 clear hw1;have HSEM:Hid (∀i,binV n 13 (x.2.1,fun _ _=>False) (y.2.1,fun _ _=>False) i↔(skT (zN zs) (13,0) [x,y]).2.1 i):=fun i=>q3B (by omega) hlen i
 have hcall:=fun W (h1:ValAt W ga av) (h2:ValAt W gb bv)=>q7v n ga gb av bv x.2.1 y.2.1 W h1 h2 hla hlb hva hvb hn
 generalize binV n 13 (x.2.1,fun _ _=>False) (y.2.1,fun _ _=>False)=VV at *;have HTY:Hid ((skT (zN zs) (13,0) [x,y]).1=false):=rfl;generalize skT (zN zs) (13,0) [x,y]=X at *;have hbB:=hS.lt;have HPR:Hid (Parts w n b lo rest):=hPr;have HVA:Hid (ValAt w ga av):=hVa;have HVB:Hid (ValAt w gb bv):=hVb;have HS:Hid _:=hS;clear hS hPr hVa hVb hva hvb hla hlb hL hpx hpy hlen;go_enter Tryz.func38,Tryz.ntmps38
 go_wp2_with fail
 generalize (w.alloc (.cells #[.int .u8 13,.int .u8 0] 43)).alloc (.cells #[.slice none 0 0,.slice none 0 0] 63)=w2 at *;have hS2:=HS.out.up hw2;have htk:=qm b w.heap.size _ _ w2 hS2 (by simp;omega)
 unfold slV at htk;dsimp only at htk
 have Hsz:Hid _:=hsz;have HB2:Hid _:=hw2;have HBX:Hid _:=hbox;have HRS:Hid _:=hres;have HS2:Hid _:=hS2;clear hbox hS2 hsz hw2 hres;refine htk.mono ?_
 rintro e w3 ⟨rfl,hs3,hg3⟩
 have htk2:=qm b w.heap.size _ _ (w3.alloc (.cells #[.slice (some ⟨gb,0,none⟩) (n+1) (n+1),.slice q2.1 q2.2.1 q2.2.2] 63)) (hs3.up (qc _ _)) (by simp;omega)
 unfold slV at htk2;dsimp only at htk2
 have HG3:Hid _:=hg3;have HS3:Hid _:=hs3;clear htk hs3 hg3
 go_wp2_with fail
 refine htk2.mono ?_
 rintro e w4 ⟨rfl,hs4,hg4⟩
 have hz2:=Hsz.out;have hz3:=HG3.out.size;have hz4:=hg4.size;have hz4':w3.heap.size+1<=w4.heap.size:=by simpa using hz4
 have hbx3:=(HG3.out.block w.heap.size (by omega) (fun e=>by injection e with e;omega)).trans HBX.out
 have hbx4:=(hg4.block w.heap.size (by simp;omega) (fun e=>by injection e with e;omega)).trans ((Below.heap_alloc w3 (.cells #[.slice (some ⟨gb,0,none⟩) (n+1) (n+1),.slice q2.1 q2.2.1 q2.2.2] 63) _ (by omega)).trans hbx3)
 have hrs3:=(HG3.out.block (w.heap.size+1) (by omega) (fun e=>by injection e with e;omega)).trans HRS.out
 have hrs4:=(hg4.block (w.heap.size+1) (by simp;omega) (fun e=>by injection e with e;omega)).trans ((Below.heap_alloc w3 (.cells #[.slice (some ⟨gb,0,none⟩) (n+1) (n+1),.slice q2.1 q2.2.1 q2.2.2] 63) _ (by omega)).trans hrs3)
 have hvb4:=(hg4.block w3.heap.size (by simp) (fun e=>by injection e with e;omega)).trans (MapKept.heap_alloc w3 (.cells #[.slice (some ⟨gb,0,none⟩) (n+1) (n+1),.slice q2.1 q2.2.1 q2.2.2] 63)).1
 have hK:KeepT w.heap.size w w4:=by
  obtain⟨v0,hv0,_⟩:=HS2.out.c;obtain⟨v1,hv1,_⟩:=(HS3.out.up (qc w3 (.cells #[.slice (some ⟨gb,0,none⟩) (n+1) (n+1),.slice q2.1 q2.2.1 q2.2.2] 63))).c;exact(((KeepT.of_below HB2.out).trans (KeepT.of_grown HG3.out hv0 (by decide) (by decide) (by decide))).trans (KeepT.of_below (qc _ (.cells #[.slice (some ⟨gb,0,none⟩) (n+1) (n+1),.slice q2.1 q2.2.1 q2.2.2] 63)))).trans (KeepT.of_grown hg4 hv1 (by decide) (by decide) (by decide))
 have hbl:Below b w w4:=by
  have h1:Below b w2 w3:=⟨HG3.out.os,HG3.out.tape,HG3.out.output,HG3.out.size,fun k hk=>HG3.out.block k (by omega) (fun e=>by injection e with e;omega)⟩
  have h2:Below b (w3.alloc (.cells #[.slice (some ⟨gb,0,none⟩) (n+1) (n+1),.slice q2.1 q2.2.1 q2.2.2] 63)) w4:=⟨hg4.os,hg4.tape,hg4.output,hg4.size,fun k hk=>hg4.block k (by simp;omega) (fun e=>by injection e with e;omega)⟩
  exact(((HB2.out.mono (by omega)).trans h1).trans ((qc _ _).mono (by omega))).trans h2
 have KA:Hid (ValAt w4 ga av):=(hK _ _ _ _ HVA.out (Or.inl rfl)).trans HVA.out;have KBv:Hid (ValAt w4 gb bv):=(hK _ _ _ _ HVB.out (Or.inl rfl)).trans HVB.out;have KP:Hid (Parts w4 n b lo rest):=HPR.out.keep (hK.mono (by omega))
 have KB:Hid (Below b w w4):=hbl;have KS:Hid _:=hs4;have KR:Hid _:=hrs4;have cx:=qb ((Below.heap_alloc w4 (.cells #[.slice (some ⟨ga,0,none⟩) (n+1) (n+1),.slice p2.1 p2.2.1 p2.2.2] 63) _ (by omega)).trans hbx4) 0
 have cb0:=qb ((Below.heap_alloc w4 (.cells #[.slice (some ⟨ga,0,none⟩) (n+1) (n+1),.slice p2.1 p2.2.1 p2.2.2] 63) _ (by omega)).trans hvb4) 0
 have cb1:=qb ((Below.heap_alloc w4 (.cells #[.slice (some ⟨ga,0,none⟩) (n+1) (n+1),.slice p2.1 p2.2.1 p2.2.2] 63) _ (by omega)).trans hvb4) 1
 simp at cx cb0 cb1
 have hcl:=hcall (w4.alloc (.cells #[.slice (some ⟨ga,0,none⟩) (n+1) (n+1),.slice p2.1 p2.2.1 p2.2.2] 63)) (KA.out.up (qc _ _)) (KBv.out.up (qc _ _));have HZ:Hid (w.heap.size+2<=w4.heap.size):=by show _<=_;omega
 clear hbx3 hbx4 hrs3 hrs4 hvb4 hK hbl hs4 hg4 hz2 hz3 hz4 hz4' htk2 hcall HG3 HS3 HS2 HRS HBX HB2 Hsz HPR HVA HVB HS KA KBv
 go_wp2_with fail
 refine hcl.mono ?_
 rintro e w6 ⟨g,bs,rfl,hV,hl,hv,hb6,hge⟩
 have hr6:=(hb6.block (w.heap.size+1) (by have:=HZ.out;simp;omega)).trans ((Below.heap_alloc w4 (.cells #[.slice (some ⟨ga,0,none⟩) (n+1) (n+1),.slice p2.1 p2.2.1 p2.2.2] 63) _ (by have:=HZ.out;omega)).trans KR.out)
 have K6:=qd (qc w4 (.cells #[.slice (some ⟨ga,0,none⟩) (n+1) (n+1),.slice p2.1 p2.2.1 p2.2.2] 63)) hb6;have c0:=qb hr6 0;have c1:=qb hr6 1;have z0:=frozen_of_row _ _ 0 _ _ hr6;have z1:=frozen_of_row _ _ 1 _ _ hr6;simp at c0 c1
 have HR6:Hid _:=hr6
 have HF:Hid (WorkR n b w X rest (.returned (.agg #[.slice (some ⟨g,0,none⟩) (n+1) (n+1),.slice none 0 0])) ((w6.setCell ⟨w.heap.size+1,0,none⟩ (.slice (some ⟨g,0,none⟩) (n+1) (n+1))).setCell ⟨w.heap.size+1,1,none⟩ (.slice none 0 0))) :=
  q2z (KS.out.up K6) (KP.out.keep (KeepT.of_below K6)) hr6 (KB.out.trans (K6.mono (by have:=HZ.out;omega))) hV hl HTY.out (fun i hi=>(hv i hi).trans (HSEM.out i)) (by have:=HZ.out;have:=K6.size;omega) (by have:=HZ.out;simp at hge;omega)
 clear hge hV hl hv hb6 hr6 K6 hcl KS KP KR KB cx cb0 cb1;go_wp2;have f:=qt HR6.out (.slice (some ⟨g,0,none⟩) (n+1) (n+1)) (.slice none 0 0);refine bodyPost_ret (v:=.agg #[.slice (some ⟨g,0,none⟩) (n+1) (n+1),.slice none 0 0]) (by simp[results,Tryz.results38,go_sem,f.1,f.2.1]) rfl ?_
 exact HF.out
theorem q6C(b n c hi:Nat)(d:Option Addr)(zs:List Int)(x y:Sk)(px py:Mp)(rest:List (Sk×Mp))(w:World)(hL:LtSl w d n c zs)(hn:n<=10000)(hS:StkAt w b w.heap.size ((((y,py)::(x,px)::rest).map (·.2)).reverse))(hP:Parts w n b hi ((y,py)::(x,px)::rest))(hh:hi<=w.heap.size)(hx:x.1=false)(hy:y.1=false)(hr:rest.length<=999999):
  Calls Tryz.prog 38 #[.pointer (some ⟨b,0,none⟩),.agg #[.int .u8 14,.int .u8 0],.slice d n c] w (WorkR n b w (skT (zN zs) (14,0) [x,y]) rest):=by
 have hlen:(zN zs).length=n:=by rw[qz];exact hL.sl.hlen
 obtain⟨lo2,hpy,hlo2,lo,hpx,hlo,hPr⟩:=hP;have hblo:=Parts.low hPr;obtain⟨p1,p2⟩:=px;obtain⟨q1,q2⟩:=py;rw[List.map_cons,List.reverse_cons,List.map_cons,List.reverse_cons]at hS;dsimp only at hS
 obtain⟨ga,av,hp1,hVa,hla,hva,_⟩:=hpx.2 hx;dsimp only at hp1
 subst hp1;obtain⟨gb,bv,hq1,hVb,hlb,hvb,_⟩:=hpy.2 hy;dsimp only at hq1
 subst hq1;have hw1:=qc w (.cells #[.int .u8 14,.int .u8 0] 43);have hw2:=qd hw1 (qc (w.alloc (.cells #[.int .u8 14,.int .u8 0] 43)) (.cells #[.slice none 0 0,.slice none 0 0] 63));have hbox:=(Below.heap_alloc (w.alloc (.cells #[.int .u8 14,.int .u8 0] 43)) (.cells #[.slice none 0 0,.slice none 0 0] 63) w.heap.size (by simp)).trans (MapKept.heap_alloc w _).1
 have hres:=(MapKept.heap_alloc (w.alloc (.cells #[.int .u8 14,.int .u8 0] 43)) (.cells #[.slice none 0 0,.slice none 0 0] 63)).1;have hsz:((w.alloc (.cells #[.int .u8 14,.int .u8 0] 43)).alloc (.cells #[.slice none 0 0,.slice none 0 0] 63)).heap.size=w.heap.size+2:=by simp
 rw[show (w.alloc (.cells #[.int .u8 14,.int .u8 0] 43)).heap.size=w.heap.size+1 by simp]at hres
 clear hw1;have HSEM:Hid (∀i,binV n 14 (x.2.1,fun _ _=>False) (y.2.1,fun _ _=>False) i↔(skT (zN zs) (14,0) [x,y]).2.1 i):=fun i=>q3B (by omega) hlen i
 have hcall:=fun W (h1:ValAt W ga av) (h2:ValAt W gb bv)=>q7w n ga gb av bv x.2.1 y.2.1 W h1 h2 hla hlb hva hvb hn
 generalize binV n 14 (x.2.1,fun _ _=>False) (y.2.1,fun _ _=>False)=VV at *;have HTY:Hid ((skT (zN zs) (14,0) [x,y]).1=false):=rfl;generalize skT (zN zs) (14,0) [x,y]=X at *;have hbB:=hS.lt;have HPR:Hid (Parts w n b lo rest):=hPr;have HVA:Hid (ValAt w ga av):=hVa;have HVB:Hid (ValAt w gb bv):=hVb;have HS:Hid _:=hS;clear hS hPr hVa hVb hva hvb hla hlb hL hpx hpy hlen;go_enter Tryz.func38,Tryz.ntmps38
 go_wp2_with fail
 generalize (w.alloc (.cells #[.int .u8 14,.int .u8 0] 43)).alloc (.cells #[.slice none 0 0,.slice none 0 0] 63)=w2 at *;have hS2:=HS.out.up hw2;have htk:=qm b w.heap.size _ _ w2 hS2 (by simp;omega)
 unfold slV at htk;dsimp only at htk
 have Hsz:Hid _:=hsz;have HB2:Hid _:=hw2;have HBX:Hid _:=hbox;have HRS:Hid _:=hres;have HS2:Hid _:=hS2;clear hbox hS2 hsz hw2 hres;refine htk.mono ?_
 rintro e w3 ⟨rfl,hs3,hg3⟩
 have htk2:=qm b w.heap.size _ _ (w3.alloc (.cells #[.slice (some ⟨gb,0,none⟩) (n+1) (n+1),.slice q2.1 q2.2.1 q2.2.2] 63)) (hs3.up (qc _ _)) (by simp;omega)
 unfold slV at htk2;dsimp only at htk2
 have HG3:Hid _:=hg3;have HS3:Hid _:=hs3;clear htk hs3 hg3
 go_wp2_with fail
 refine htk2.mono ?_
 rintro e w4 ⟨rfl,hs4,hg4⟩
 have hz2:=Hsz.out;have hz3:=HG3.out.size;have hz4:=hg4.size;have hz4':w3.heap.size+1<=w4.heap.size:=by simpa using hz4
 have hbx3:=(HG3.out.block w.heap.size (by omega) (fun e=>by injection e with e;omega)).trans HBX.out
 have hbx4:=(hg4.block w.heap.size (by simp;omega) (fun e=>by injection e with e;omega)).trans ((Below.heap_alloc w3 (.cells #[.slice (some ⟨gb,0,none⟩) (n+1) (n+1),.slice q2.1 q2.2.1 q2.2.2] 63) _ (by omega)).trans hbx3)
 have hrs3:=(HG3.out.block (w.heap.size+1) (by omega) (fun e=>by injection e with e;omega)).trans HRS.out
 have hrs4:=(hg4.block (w.heap.size+1) (by simp;omega) (fun e=>by injection e with e;omega)).trans ((Below.heap_alloc w3 (.cells #[.slice (some ⟨gb,0,none⟩) (n+1) (n+1),.slice q2.1 q2.2.1 q2.2.2] 63) _ (by omega)).trans hrs3)
 have hvb4:=(hg4.block w3.heap.size (by simp) (fun e=>by injection e with e;omega)).trans (MapKept.heap_alloc w3 (.cells #[.slice (some ⟨gb,0,none⟩) (n+1) (n+1),.slice q2.1 q2.2.1 q2.2.2] 63)).1
 have hK:KeepT w.heap.size w w4:=by
  obtain⟨v0,hv0,_⟩:=HS2.out.c;obtain⟨v1,hv1,_⟩:=(HS3.out.up (qc w3 (.cells #[.slice (some ⟨gb,0,none⟩) (n+1) (n+1),.slice q2.1 q2.2.1 q2.2.2] 63))).c;exact(((KeepT.of_below HB2.out).trans (KeepT.of_grown HG3.out hv0 (by decide) (by decide) (by decide))).trans (KeepT.of_below (qc _ (.cells #[.slice (some ⟨gb,0,none⟩) (n+1) (n+1),.slice q2.1 q2.2.1 q2.2.2] 63)))).trans (KeepT.of_grown hg4 hv1 (by decide) (by decide) (by decide))
 have hbl:Below b w w4:=by
  have h1:Below b w2 w3:=⟨HG3.out.os,HG3.out.tape,HG3.out.output,HG3.out.size,fun k hk=>HG3.out.block k (by omega) (fun e=>by injection e with e;omega)⟩
  have h2:Below b (w3.alloc (.cells #[.slice (some ⟨gb,0,none⟩) (n+1) (n+1),.slice q2.1 q2.2.1 q2.2.2] 63)) w4:=⟨hg4.os,hg4.tape,hg4.output,hg4.size,fun k hk=>hg4.block k (by simp;omega) (fun e=>by injection e with e;omega)⟩
  exact(((HB2.out.mono (by omega)).trans h1).trans ((qc _ _).mono (by omega))).trans h2
 have KA:Hid (ValAt w4 ga av):=(hK _ _ _ _ HVA.out (Or.inl rfl)).trans HVA.out;have KBv:Hid (ValAt w4 gb bv):=(hK _ _ _ _ HVB.out (Or.inl rfl)).trans HVB.out;have KP:Hid (Parts w4 n b lo rest):=HPR.out.keep (hK.mono (by omega))
 have KB:Hid (Below b w w4):=hbl;have KS:Hid _:=hs4;have KR:Hid _:=hrs4;have cx:=qb ((Below.heap_alloc w4 (.cells #[.slice (some ⟨ga,0,none⟩) (n+1) (n+1),.slice p2.1 p2.2.1 p2.2.2] 63) _ (by omega)).trans hbx4) 0
 have cb0:=qb ((Below.heap_alloc w4 (.cells #[.slice (some ⟨ga,0,none⟩) (n+1) (n+1),.slice p2.1 p2.2.1 p2.2.2] 63) _ (by omega)).trans hvb4) 0
 have cb1:=qb ((Below.heap_alloc w4 (.cells #[.slice (some ⟨ga,0,none⟩) (n+1) (n+1),.slice p2.1 p2.2.1 p2.2.2] 63) _ (by omega)).trans hvb4) 1
 simp at cx cb0 cb1
 have hcl:=hcall (w4.alloc (.cells #[.slice (some ⟨ga,0,none⟩) (n+1) (n+1),.slice p2.1 p2.2.1 p2.2.2] 63)) (KA.out.up (qc _ _)) (KBv.out.up (qc _ _));have HZ:Hid (w.heap.size+2<=w4.heap.size):=by show _<=_;omega
 clear hbx3 hbx4 hrs3 hrs4 hvb4 hK hbl hs4 hg4 hz2 hz3 hz4 hz4' htk2 hcall HG3 HS3 HS2 HRS HBX HB2 Hsz HPR HVA HVB HS KA KBv
 go_wp2_with fail
 refine hcl.mono ?_
 rintro e w6 ⟨g,bs,rfl,hV,hl,hv,hb6,hge⟩
 have hr6:=(hb6.block (w.heap.size+1) (by have:=HZ.out;simp;omega)).trans ((Below.heap_alloc w4 (.cells #[.slice (some ⟨ga,0,none⟩) (n+1) (n+1),.slice p2.1 p2.2.1 p2.2.2] 63) _ (by have:=HZ.out;omega)).trans KR.out)
 have K6:=qd (qc w4 (.cells #[.slice (some ⟨ga,0,none⟩) (n+1) (n+1),.slice p2.1 p2.2.1 p2.2.2] 63)) hb6;have c0:=qb hr6 0;have c1:=qb hr6 1;have z0:=frozen_of_row _ _ 0 _ _ hr6;have z1:=frozen_of_row _ _ 1 _ _ hr6;simp at c0 c1
 have HR6:Hid _:=hr6
 have HF:Hid (WorkR n b w X rest (.returned (.agg #[.slice (some ⟨g,0,none⟩) (n+1) (n+1),.slice none 0 0])) ((w6.setCell ⟨w.heap.size+1,0,none⟩ (.slice (some ⟨g,0,none⟩) (n+1) (n+1))).setCell ⟨w.heap.size+1,1,none⟩ (.slice none 0 0))) :=
  q2z (KS.out.up K6) (KP.out.keep (KeepT.of_below K6)) hr6 (KB.out.trans (K6.mono (by have:=HZ.out;omega))) hV hl HTY.out (fun i hi=>(hv i hi).trans (HSEM.out i)) (by have:=HZ.out;have:=K6.size;omega) (by have:=HZ.out;simp at hge;omega)
 clear hge hV hl hv hb6 hr6 K6 hcl KS KP KR KB cx cb0 cb1;go_wp2;have f:=qt HR6.out (.slice (some ⟨g,0,none⟩) (n+1) (n+1)) (.slice none 0 0);refine bodyPost_ret (v:=.agg #[.slice (some ⟨g,0,none⟩) (n+1) (n+1),.slice none 0 0]) (by simp[results,Tryz.results38,go_sem,f.1,f.2.1]) rfl ?_
 exact HF.out
theorem q6D(b n c hi:Nat)(d:Option Addr)(zs:List Int)(x y:Sk)(px py:Mp)(rest:List (Sk×Mp))(w:World)(hL:LtSl w d n c zs)(hn:n<=10000)(hS:StkAt w b w.heap.size ((((y,py)::(x,px)::rest).map (·.2)).reverse))(hP:Parts w n b hi ((y,py)::(x,px)::rest))(hh:hi<=w.heap.size)(hx:x.1=false)(hy:y.1=false)(hr:rest.length<=999999):
  Calls Tryz.prog 38 #[.pointer (some ⟨b,0,none⟩),.agg #[.int .u8 15,.int .u8 0],.slice d n c] w (WorkR n b w (skT (zN zs) (15,0) [x,y]) rest):=by
 have hlen:(zN zs).length=n:=by rw[qz];exact hL.sl.hlen
 obtain⟨lo2,hpy,hlo2,lo,hpx,hlo,hPr⟩:=hP;have hblo:=Parts.low hPr;obtain⟨p1,p2⟩:=px;obtain⟨q1,q2⟩:=py;rw[List.map_cons,List.reverse_cons,List.map_cons,List.reverse_cons]at hS;dsimp only at hS
 obtain⟨ga,av,hp1,hVa,hla,hva,_⟩:=hpx.2 hx;dsimp only at hp1
 subst hp1;obtain⟨gb,bv,hq1,hVb,hlb,hvb,_⟩:=hpy.2 hy;dsimp only at hq1
 subst hq1;have hw1:=qc w (.cells #[.int .u8 15,.int .u8 0] 43);have hw2:=qd hw1 (qc (w.alloc (.cells #[.int .u8 15,.int .u8 0] 43)) (.cells #[.slice none 0 0,.slice none 0 0] 63));have hbox:=(Below.heap_alloc (w.alloc (.cells #[.int .u8 15,.int .u8 0] 43)) (.cells #[.slice none 0 0,.slice none 0 0] 63) w.heap.size (by simp)).trans (MapKept.heap_alloc w _).1
 have hres:=(MapKept.heap_alloc (w.alloc (.cells #[.int .u8 15,.int .u8 0] 43)) (.cells #[.slice none 0 0,.slice none 0 0] 63)).1;have hsz:((w.alloc (.cells #[.int .u8 15,.int .u8 0] 43)).alloc (.cells #[.slice none 0 0,.slice none 0 0] 63)).heap.size=w.heap.size+2:=by simp
 rw[show (w.alloc (.cells #[.int .u8 15,.int .u8 0] 43)).heap.size=w.heap.size+1 by simp]at hres
 clear hw1;have HSEM:Hid (∀i,binV n 15 (x.2.1,fun _ _=>False) (y.2.1,fun _ _=>False) i↔(skT (zN zs) (15,0) [x,y]).2.1 i):=fun i=>q3B (by omega) hlen i
 have hcall:=fun W (h1:ValAt W ga av) (h2:ValAt W gb bv)=>q7x n ga gb av bv x.2.1 y.2.1 W h1 h2 hla hlb hva hvb hn
 generalize binV n 15 (x.2.1,fun _ _=>False) (y.2.1,fun _ _=>False)=VV at *;have HTY:Hid ((skT (zN zs) (15,0) [x,y]).1=false):=rfl;generalize skT (zN zs) (15,0) [x,y]=X at *;have hbB:=hS.lt;have HPR:Hid (Parts w n b lo rest):=hPr;have HVA:Hid (ValAt w ga av):=hVa;have HVB:Hid (ValAt w gb bv):=hVb;have HS:Hid _:=hS;clear hS hPr hVa hVb hva hvb hla hlb hL hpx hpy hlen;go_enter Tryz.func38,Tryz.ntmps38
 go_wp2_with fail
 generalize (w.alloc (.cells #[.int .u8 15,.int .u8 0] 43)).alloc (.cells #[.slice none 0 0,.slice none 0 0] 63)=w2 at *;have hS2:=HS.out.up hw2;have htk:=qm b w.heap.size _ _ w2 hS2 (by simp;omega)
 unfold slV at htk;dsimp only at htk
 have Hsz:Hid _:=hsz;have HB2:Hid _:=hw2;have HBX:Hid _:=hbox;have HRS:Hid _:=hres;have HS2:Hid _:=hS2;clear hbox hS2 hsz hw2 hres;refine htk.mono ?_
 rintro e w3 ⟨rfl,hs3,hg3⟩
 have htk2:=qm b w.heap.size _ _ (w3.alloc (.cells #[.slice (some ⟨gb,0,none⟩) (n+1) (n+1),.slice q2.1 q2.2.1 q2.2.2] 63)) (hs3.up (qc _ _)) (by simp;omega)
 unfold slV at htk2;dsimp only at htk2
 have HG3:Hid _:=hg3;have HS3:Hid _:=hs3;clear htk hs3 hg3
 go_wp2_with fail
 refine htk2.mono ?_
 rintro e w4 ⟨rfl,hs4,hg4⟩
 have hz2:=Hsz.out;have hz3:=HG3.out.size;have hz4:=hg4.size;have hz4':w3.heap.size+1<=w4.heap.size:=by simpa using hz4
 have hbx3:=(HG3.out.block w.heap.size (by omega) (fun e=>by injection e with e;omega)).trans HBX.out
 have hbx4:=(hg4.block w.heap.size (by simp;omega) (fun e=>by injection e with e;omega)).trans ((Below.heap_alloc w3 (.cells #[.slice (some ⟨gb,0,none⟩) (n+1) (n+1),.slice q2.1 q2.2.1 q2.2.2] 63) _ (by omega)).trans hbx3)
 have hrs3:=(HG3.out.block (w.heap.size+1) (by omega) (fun e=>by injection e with e;omega)).trans HRS.out
 have hrs4:=(hg4.block (w.heap.size+1) (by simp;omega) (fun e=>by injection e with e;omega)).trans ((Below.heap_alloc w3 (.cells #[.slice (some ⟨gb,0,none⟩) (n+1) (n+1),.slice q2.1 q2.2.1 q2.2.2] 63) _ (by omega)).trans hrs3)
 have hvb4:=(hg4.block w3.heap.size (by simp) (fun e=>by injection e with e;omega)).trans (MapKept.heap_alloc w3 (.cells #[.slice (some ⟨gb,0,none⟩) (n+1) (n+1),.slice q2.1 q2.2.1 q2.2.2] 63)).1
 have hK:KeepT w.heap.size w w4:=by
  obtain⟨v0,hv0,_⟩:=HS2.out.c;obtain⟨v1,hv1,_⟩:=(HS3.out.up (qc w3 (.cells #[.slice (some ⟨gb,0,none⟩) (n+1) (n+1),.slice q2.1 q2.2.1 q2.2.2] 63))).c;exact(((KeepT.of_below HB2.out).trans (KeepT.of_grown HG3.out hv0 (by decide) (by decide) (by decide))).trans (KeepT.of_below (qc _ (.cells #[.slice (some ⟨gb,0,none⟩) (n+1) (n+1),.slice q2.1 q2.2.1 q2.2.2] 63)))).trans (KeepT.of_grown hg4 hv1 (by decide) (by decide) (by decide))
 have hbl:Below b w w4:=by
  have h1:Below b w2 w3:=⟨HG3.out.os,HG3.out.tape,HG3.out.output,HG3.out.size,fun k hk=>HG3.out.block k (by omega) (fun e=>by injection e with e;omega)⟩
  have h2:Below b (w3.alloc (.cells #[.slice (some ⟨gb,0,none⟩) (n+1) (n+1),.slice q2.1 q2.2.1 q2.2.2] 63)) w4:=⟨hg4.os,hg4.tape,hg4.output,hg4.size,fun k hk=>hg4.block k (by simp;omega) (fun e=>by injection e with e;omega)⟩
  exact(((HB2.out.mono (by omega)).trans h1).trans ((qc _ _).mono (by omega))).trans h2
 have KA:Hid (ValAt w4 ga av):=(hK _ _ _ _ HVA.out (Or.inl rfl)).trans HVA.out;have KBv:Hid (ValAt w4 gb bv):=(hK _ _ _ _ HVB.out (Or.inl rfl)).trans HVB.out;have KP:Hid (Parts w4 n b lo rest):=HPR.out.keep (hK.mono (by omega))
 have KB:Hid (Below b w w4):=hbl;have KS:Hid _:=hs4;have KR:Hid _:=hrs4;have cx:=qb ((Below.heap_alloc w4 (.cells #[.slice (some ⟨ga,0,none⟩) (n+1) (n+1),.slice p2.1 p2.2.1 p2.2.2] 63) _ (by omega)).trans hbx4) 0
 have cb0:=qb ((Below.heap_alloc w4 (.cells #[.slice (some ⟨ga,0,none⟩) (n+1) (n+1),.slice p2.1 p2.2.1 p2.2.2] 63) _ (by omega)).trans hvb4) 0
 have cb1:=qb ((Below.heap_alloc w4 (.cells #[.slice (some ⟨ga,0,none⟩) (n+1) (n+1),.slice p2.1 p2.2.1 p2.2.2] 63) _ (by omega)).trans hvb4) 1
 simp at cx cb0 cb1
 have hcl:=hcall (w4.alloc (.cells #[.slice (some ⟨ga,0,none⟩) (n+1) (n+1),.slice p2.1 p2.2.1 p2.2.2] 63)) (KA.out.up (qc _ _)) (KBv.out.up (qc _ _));have HZ:Hid (w.heap.size+2<=w4.heap.size):=by show _<=_;omega
 clear hbx3 hbx4 hrs3 hrs4 hvb4 hK hbl hs4 hg4 hz2 hz3 hz4 hz4' htk2 hcall HG3 HS3 HS2 HRS HBX HB2 Hsz HPR HVA HVB HS KA KBv
 go_wp2_with fail
 refine hcl.mono ?_
 rintro e w6 ⟨g,bs,rfl,hV,hl,hv,hb6,hge⟩
 have hr6:=(hb6.block (w.heap.size+1) (by have:=HZ.out;simp;omega)).trans ((Below.heap_alloc w4 (.cells #[.slice (some ⟨ga,0,none⟩) (n+1) (n+1),.slice p2.1 p2.2.1 p2.2.2] 63) _ (by have:=HZ.out;omega)).trans KR.out)
 have K6:=qd (qc w4 (.cells #[.slice (some ⟨ga,0,none⟩) (n+1) (n+1),.slice p2.1 p2.2.1 p2.2.2] 63)) hb6;have c0:=qb hr6 0;have c1:=qb hr6 1;have z0:=frozen_of_row _ _ 0 _ _ hr6;have z1:=frozen_of_row _ _ 1 _ _ hr6;simp at c0 c1
 have HR6:Hid _:=hr6
 have HF:Hid (WorkR n b w X rest (.returned (.agg #[.slice (some ⟨g,0,none⟩) (n+1) (n+1),.slice none 0 0])) ((w6.setCell ⟨w.heap.size+1,0,none⟩ (.slice (some ⟨g,0,none⟩) (n+1) (n+1))).setCell ⟨w.heap.size+1,1,none⟩ (.slice none 0 0))) :=
  q2z (KS.out.up K6) (KP.out.keep (KeepT.of_below K6)) hr6 (KB.out.trans (K6.mono (by have:=HZ.out;omega))) hV hl HTY.out (fun i hi=>(hv i hi).trans (HSEM.out i)) (by have:=HZ.out;have:=K6.size;omega) (by have:=HZ.out;simp at hge;omega)
 clear hge hV hl hv hb6 hr6 K6 hcl KS KP KR KB cx cb0 cb1;go_wp2;have f:=qt HR6.out (.slice (some ⟨g,0,none⟩) (n+1) (n+1)) (.slice none 0 0);refine bodyPost_ret (v:=.agg #[.slice (some ⟨g,0,none⟩) (n+1) (n+1),.slice none 0 0]) (by simp[results,Tryz.results38,go_sem,f.1,f.2.1]) rfl ?_
 exact HF.out
theorem q6E(b n c hi:Nat)(d:Option Addr)(zs:List Int)(x y:Sk)(px py:Mp)(rest:List (Sk×Mp))(w:World)(hL:LtSl w d n c zs)(hn:n<=10000)(hS:StkAt w b w.heap.size ((((y,py)::(x,px)::rest).map (·.2)).reverse))(hP:Parts w n b hi ((y,py)::(x,px)::rest))(hh:hi<=w.heap.size)(hx:x.1=false)(hy:y.1=false)(hr:rest.length<=999999):
  Calls Tryz.prog 38 #[.pointer (some ⟨b,0,none⟩),.agg #[.int .u8 16,.int .u8 0],.slice d n c] w (WorkR n b w (skT (zN zs) (16,0) [x,y]) rest):=by
 have hlen:(zN zs).length=n:=by rw[qz];exact hL.sl.hlen
 obtain⟨lo2,hpy,hlo2,lo,hpx,hlo,hPr⟩:=hP;have hblo:=Parts.low hPr;obtain⟨p1,p2⟩:=px;obtain⟨q1,q2⟩:=py;rw[List.map_cons,List.reverse_cons,List.map_cons,List.reverse_cons]at hS;dsimp only at hS
 obtain⟨ga,av,hp1,hVa,hla,hva,_⟩:=hpx.2 hx;dsimp only at hp1
 subst hp1;obtain⟨gb,bv,hq1,hVb,hlb,hvb,_⟩:=hpy.2 hy;dsimp only at hq1
 subst hq1;have hw1:=qc w (.cells #[.int .u8 16,.int .u8 0] 43);have hw2:=qd hw1 (qc (w.alloc (.cells #[.int .u8 16,.int .u8 0] 43)) (.cells #[.slice none 0 0,.slice none 0 0] 63));have hbox:=(Below.heap_alloc (w.alloc (.cells #[.int .u8 16,.int .u8 0] 43)) (.cells #[.slice none 0 0,.slice none 0 0] 63) w.heap.size (by simp)).trans (MapKept.heap_alloc w _).1
 have hres:=(MapKept.heap_alloc (w.alloc (.cells #[.int .u8 16,.int .u8 0] 43)) (.cells #[.slice none 0 0,.slice none 0 0] 63)).1;have hsz:((w.alloc (.cells #[.int .u8 16,.int .u8 0] 43)).alloc (.cells #[.slice none 0 0,.slice none 0 0] 63)).heap.size=w.heap.size+2:=by simp
 rw[show (w.alloc (.cells #[.int .u8 16,.int .u8 0] 43)).heap.size=w.heap.size+1 by simp]at hres
 clear hw1;have HSEM:Hid (∀i,binV n 16 (x.2.1,fun _ _=>False) (y.2.1,fun _ _=>False) i↔(skT (zN zs) (16,0) [x,y]).2.1 i):=fun i=>q3B (by omega) hlen i
 have hcall:=fun W (h1:ValAt W ga av) (h2:ValAt W gb bv)=>q7y n ga gb av bv x.2.1 y.2.1 W h1 h2 hla hlb hva hvb hn
 generalize binV n 16 (x.2.1,fun _ _=>False) (y.2.1,fun _ _=>False)=VV at *;have HTY:Hid ((skT (zN zs) (16,0) [x,y]).1=false):=rfl;generalize skT (zN zs) (16,0) [x,y]=X at *;have hbB:=hS.lt;have HPR:Hid (Parts w n b lo rest):=hPr;have HVA:Hid (ValAt w ga av):=hVa;have HVB:Hid (ValAt w gb bv):=hVb;have HS:Hid _:=hS;clear hS hPr hVa hVb hva hvb hla hlb hL hpx hpy hlen;go_enter Tryz.func38,Tryz.ntmps38
 go_wp2_with fail
 generalize (w.alloc (.cells #[.int .u8 16,.int .u8 0] 43)).alloc (.cells #[.slice none 0 0,.slice none 0 0] 63)=w2 at *;have hS2:=HS.out.up hw2;have htk:=qm b w.heap.size _ _ w2 hS2 (by simp;omega)
 unfold slV at htk;dsimp only at htk
 have Hsz:Hid _:=hsz;have HB2:Hid _:=hw2;have HBX:Hid _:=hbox;have HRS:Hid _:=hres;have HS2:Hid _:=hS2;clear hbox hS2 hsz hw2 hres;refine htk.mono ?_
 rintro e w3 ⟨rfl,hs3,hg3⟩
 have htk2:=qm b w.heap.size _ _ (w3.alloc (.cells #[.slice (some ⟨gb,0,none⟩) (n+1) (n+1),.slice q2.1 q2.2.1 q2.2.2] 63)) (hs3.up (qc _ _)) (by simp;omega)
 unfold slV at htk2;dsimp only at htk2
 have HG3:Hid _:=hg3;have HS3:Hid _:=hs3;clear htk hs3 hg3
 go_wp2_with fail
 refine htk2.mono ?_
 rintro e w4 ⟨rfl,hs4,hg4⟩
 have hz2:=Hsz.out;have hz3:=HG3.out.size;have hz4:=hg4.size;have hz4':w3.heap.size+1<=w4.heap.size:=by simpa using hz4
 have hbx3:=(HG3.out.block w.heap.size (by omega) (fun e=>by injection e with e;omega)).trans HBX.out
 have hbx4:=(hg4.block w.heap.size (by simp;omega) (fun e=>by injection e with e;omega)).trans ((Below.heap_alloc w3 (.cells #[.slice (some ⟨gb,0,none⟩) (n+1) (n+1),.slice q2.1 q2.2.1 q2.2.2] 63) _ (by omega)).trans hbx3)
 have hrs3:=(HG3.out.block (w.heap.size+1) (by omega) (fun e=>by injection e with e;omega)).trans HRS.out
 have hrs4:=(hg4.block (w.heap.size+1) (by simp;omega) (fun e=>by injection e with e;omega)).trans ((Below.heap_alloc w3 (.cells #[.slice (some ⟨gb,0,none⟩) (n+1) (n+1),.slice q2.1 q2.2.1 q2.2.2] 63) _ (by omega)).trans hrs3)
 have hvb4:=(hg4.block w3.heap.size (by simp) (fun e=>by injection e with e;omega)).trans (MapKept.heap_alloc w3 (.cells #[.slice (some ⟨gb,0,none⟩) (n+1) (n+1),.slice q2.1 q2.2.1 q2.2.2] 63)).1
 have hK:KeepT w.heap.size w w4:=by
  obtain⟨v0,hv0,_⟩:=HS2.out.c;obtain⟨v1,hv1,_⟩:=(HS3.out.up (qc w3 (.cells #[.slice (some ⟨gb,0,none⟩) (n+1) (n+1),.slice q2.1 q2.2.1 q2.2.2] 63))).c;exact(((KeepT.of_below HB2.out).trans (KeepT.of_grown HG3.out hv0 (by decide) (by decide) (by decide))).trans (KeepT.of_below (qc _ (.cells #[.slice (some ⟨gb,0,none⟩) (n+1) (n+1),.slice q2.1 q2.2.1 q2.2.2] 63)))).trans (KeepT.of_grown hg4 hv1 (by decide) (by decide) (by decide))
 have hbl:Below b w w4:=by
  have h1:Below b w2 w3:=⟨HG3.out.os,HG3.out.tape,HG3.out.output,HG3.out.size,fun k hk=>HG3.out.block k (by omega) (fun e=>by injection e with e;omega)⟩
  have h2:Below b (w3.alloc (.cells #[.slice (some ⟨gb,0,none⟩) (n+1) (n+1),.slice q2.1 q2.2.1 q2.2.2] 63)) w4:=⟨hg4.os,hg4.tape,hg4.output,hg4.size,fun k hk=>hg4.block k (by simp;omega) (fun e=>by injection e with e;omega)⟩
  exact(((HB2.out.mono (by omega)).trans h1).trans ((qc _ _).mono (by omega))).trans h2
 have KA:Hid (ValAt w4 ga av):=(hK _ _ _ _ HVA.out (Or.inl rfl)).trans HVA.out;have KBv:Hid (ValAt w4 gb bv):=(hK _ _ _ _ HVB.out (Or.inl rfl)).trans HVB.out;have KP:Hid (Parts w4 n b lo rest):=HPR.out.keep (hK.mono (by omega))
 have KB:Hid (Below b w w4):=hbl;have KS:Hid _:=hs4;have KR:Hid _:=hrs4;have cx:=qb ((Below.heap_alloc w4 (.cells #[.slice (some ⟨ga,0,none⟩) (n+1) (n+1),.slice p2.1 p2.2.1 p2.2.2] 63) _ (by omega)).trans hbx4) 0
 have cb0:=qb ((Below.heap_alloc w4 (.cells #[.slice (some ⟨ga,0,none⟩) (n+1) (n+1),.slice p2.1 p2.2.1 p2.2.2] 63) _ (by omega)).trans hvb4) 0
 have cb1:=qb ((Below.heap_alloc w4 (.cells #[.slice (some ⟨ga,0,none⟩) (n+1) (n+1),.slice p2.1 p2.2.1 p2.2.2] 63) _ (by omega)).trans hvb4) 1
 simp at cx cb0 cb1
 have hcl:=hcall (w4.alloc (.cells #[.slice (some ⟨ga,0,none⟩) (n+1) (n+1),.slice p2.1 p2.2.1 p2.2.2] 63)) (KA.out.up (qc _ _)) (KBv.out.up (qc _ _));have HZ:Hid (w.heap.size+2<=w4.heap.size):=by show _<=_;omega
 clear hbx3 hbx4 hrs3 hrs4 hvb4 hK hbl hs4 hg4 hz2 hz3 hz4 hz4' htk2 hcall HG3 HS3 HS2 HRS HBX HB2 Hsz HPR HVA HVB HS KA KBv
 go_wp2_with fail
 refine hcl.mono ?_
 rintro e w6 ⟨g,bs,rfl,hV,hl,hv,hb6,hge⟩
 have hr6:=(hb6.block (w.heap.size+1) (by have:=HZ.out;simp;omega)).trans ((Below.heap_alloc w4 (.cells #[.slice (some ⟨ga,0,none⟩) (n+1) (n+1),.slice p2.1 p2.2.1 p2.2.2] 63) _ (by have:=HZ.out;omega)).trans KR.out)
 have K6:=qd (qc w4 (.cells #[.slice (some ⟨ga,0,none⟩) (n+1) (n+1),.slice p2.1 p2.2.1 p2.2.2] 63)) hb6;have c0:=qb hr6 0;have c1:=qb hr6 1;have z0:=frozen_of_row _ _ 0 _ _ hr6;have z1:=frozen_of_row _ _ 1 _ _ hr6;simp at c0 c1
 have HR6:Hid _:=hr6
 have HF:Hid (WorkR n b w X rest (.returned (.agg #[.slice (some ⟨g,0,none⟩) (n+1) (n+1),.slice none 0 0])) ((w6.setCell ⟨w.heap.size+1,0,none⟩ (.slice (some ⟨g,0,none⟩) (n+1) (n+1))).setCell ⟨w.heap.size+1,1,none⟩ (.slice none 0 0))) :=
  q2z (KS.out.up K6) (KP.out.keep (KeepT.of_below K6)) hr6 (KB.out.trans (K6.mono (by have:=HZ.out;omega))) hV hl HTY.out (fun i hi=>(hv i hi).trans (HSEM.out i)) (by have:=HZ.out;have:=K6.size;omega) (by have:=HZ.out;simp at hge;omega)
 clear hge hV hl hv hb6 hr6 K6 hcl KS KP KR KB cx cb0 cb1;go_wp2;have f:=qt HR6.out (.slice (some ⟨g,0,none⟩) (n+1) (n+1)) (.slice none 0 0);refine bodyPost_ret (v:=.agg #[.slice (some ⟨g,0,none⟩) (n+1) (n+1),.slice none 0 0]) (by simp[results,Tryz.results38,go_sem,f.1,f.2.1]) rfl ?_
 exact HF.out
theorem q6F(b n c hi:Nat)(d:Option Addr)(zs:List Int)(x y:Sk)(px py:Mp)(rest:List (Sk×Mp))(w:World)(hL:LtSl w d n c zs)(hn:n<=10000)(hS:StkAt w b w.heap.size ((((y,py)::(x,px)::rest).map (·.2)).reverse))(hP:Parts w n b hi ((y,py)::(x,px)::rest))(hh:hi<=w.heap.size)(hx:x.1=true)(hy:y.1=false)(hI:InW n x)(hr:rest.length<=999999):
  Calls Tryz.prog 38 #[.pointer (some ⟨b,0,none⟩),.agg #[.int .u8 17,.int .u8 0],.slice d n c] w (WorkR n b w (skT (zN zs) (17,0) [x,y]) rest):=by
 have hlen:(zN zs).length=n:=by rw[qz];exact hL.sl.hlen
 obtain⟨lo2,hpy,hlo2,lo,hpx,hlo,hPr⟩:=hP;have hblo:=Parts.low hPr;obtain⟨p1,p2⟩:=px;obtain⟨q1,q2⟩:=py;rw[List.map_cons,List.reverse_cons,List.map_cons,List.reverse_cons]at hS;dsimp only at hS
 obtain⟨ga,rs,hp1,hEa,hva,hga1,hga2⟩:=hpx.1 hx;dsimp only at hp1
 subst hp1;obtain⟨gb,bv,hq1,hVb,hlb,hvb,_⟩:=hpy.2 hy;dsimp only at hq1
 subst hq1;have hw1:=qc w (.cells #[.int .u8 17,.int .u8 0] 43);have hw2:=qd hw1 (qc (w.alloc (.cells #[.int .u8 17,.int .u8 0] 43)) (.cells #[.slice none 0 0,.slice none 0 0] 63));have hbox:=(Below.heap_alloc (w.alloc (.cells #[.int .u8 17,.int .u8 0] 43)) (.cells #[.slice none 0 0,.slice none 0 0] 63) w.heap.size (by simp)).trans (MapKept.heap_alloc w _).1
 have hres:=(MapKept.heap_alloc (w.alloc (.cells #[.int .u8 17,.int .u8 0] 43)) (.cells #[.slice none 0 0,.slice none 0 0] 63)).1;have hsz:((w.alloc (.cells #[.int .u8 17,.int .u8 0] 43)).alloc (.cells #[.slice none 0 0,.slice none 0 0] 63)).heap.size=w.heap.size+2:=by simp
 rw[show (w.alloc (.cells #[.int .u8 17,.int .u8 0] 43)).heap.size=w.heap.size+1 by simp]at hres
 clear hw1;have HSEM:Hid (∀i,i<=n->(someP rs bv i (n+1)↔(skT (zN zs) (17,0) [x,y]).2.1 i)):=qh3 hI hva hvb;have hcall:=fun W (h1:EndAt W ga (n+1) rs) (h2:ValAt W gb bv)=>q68 n ga gb rs bv W h1 h2 hlb hn
 have HTY:Hid ((skT (zN zs) (17,0) [x,y]).1=false):=rfl;generalize skT (zN zs) (17,0) [x,y]=X at *;have hbB:=hS.lt;have HPR:Hid (Parts w n b lo rest):=hPr;have HVA:Hid (EndAt w ga (n+1) rs):=hEa;have HVB:Hid (ValAt w gb bv):=hVb;have HS:Hid _:=hS;clear hS hPr hEa hVb hva hvb hlb hL hpx hpy hlen;go_enter Tryz.func38,Tryz.ntmps38
 go_wp2_with fail
 generalize (w.alloc (.cells #[.int .u8 17,.int .u8 0] 43)).alloc (.cells #[.slice none 0 0,.slice none 0 0] 63)=w2 at *;have hS2:=HS.out.up hw2;have htk:=qm b w.heap.size _ _ w2 hS2 (by simp;omega)
 unfold slV at htk;dsimp only at htk
 have Hsz:Hid _:=hsz;have HB2:Hid _:=hw2;have HBX:Hid _:=hbox;have HRS:Hid _:=hres;have HS2:Hid _:=hS2;clear hbox hS2 hsz hw2 hres;refine htk.mono ?_
 rintro e w3 ⟨rfl,hs3,hg3⟩
 have htk2:=qm b w.heap.size _ _ (w3.alloc (.cells #[.slice (some ⟨gb,0,none⟩) (n+1) (n+1),.slice q2.1 q2.2.1 q2.2.2] 63)) (hs3.up (qc _ _)) (by simp;omega)
 unfold slV at htk2;dsimp only at htk2
 have HG3:Hid _:=hg3;have HS3:Hid _:=hs3;clear htk hs3 hg3
 go_wp2_with fail
 refine htk2.mono ?_
 rintro e w4 ⟨rfl,hs4,hg4⟩
 have hz2:=Hsz.out;have hz3:=HG3.out.size;have hz4:=hg4.size;have hz4':w3.heap.size+1<=w4.heap.size:=by simpa using hz4
 have hbx3:=(HG3.out.block w.heap.size (by omega) (fun e=>by injection e with e;omega)).trans HBX.out
 have hbx4:=(hg4.block w.heap.size (by simp;omega) (fun e=>by injection e with e;omega)).trans ((Below.heap_alloc w3 (.cells #[.slice (some ⟨gb,0,none⟩) (n+1) (n+1),.slice q2.1 q2.2.1 q2.2.2] 63) _ (by omega)).trans hbx3)
 have hrs3:=(HG3.out.block (w.heap.size+1) (by omega) (fun e=>by injection e with e;omega)).trans HRS.out
 have hrs4:=(hg4.block (w.heap.size+1) (by simp;omega) (fun e=>by injection e with e;omega)).trans ((Below.heap_alloc w3 (.cells #[.slice (some ⟨gb,0,none⟩) (n+1) (n+1),.slice q2.1 q2.2.1 q2.2.2] 63) _ (by omega)).trans hrs3)
 have hvb4:=(hg4.block w3.heap.size (by simp) (fun e=>by injection e with e;omega)).trans (MapKept.heap_alloc w3 (.cells #[.slice (some ⟨gb,0,none⟩) (n+1) (n+1),.slice q2.1 q2.2.1 q2.2.2] 63)).1
 have hK:KeepT w.heap.size w w4:=by
  obtain⟨v0,hv0,_⟩:=HS2.out.c;obtain⟨v1,hv1,_⟩:=(HS3.out.up (qc w3 (.cells #[.slice (some ⟨gb,0,none⟩) (n+1) (n+1),.slice q2.1 q2.2.1 q2.2.2] 63))).c;exact(((KeepT.of_below HB2.out).trans (KeepT.of_grown HG3.out hv0 (by decide) (by decide) (by decide))).trans (KeepT.of_below (qc _ (.cells #[.slice (some ⟨gb,0,none⟩) (n+1) (n+1),.slice q2.1 q2.2.1 q2.2.2] 63)))).trans (KeepT.of_grown hg4 hv1 (by decide) (by decide) (by decide))
 have hbl:Below b w w4:=by
  have h1:Below b w2 w3:=⟨HG3.out.os,HG3.out.tape,HG3.out.output,HG3.out.size,fun k hk=>HG3.out.block k (by omega) (fun e=>by injection e with e;omega)⟩
  have h2:Below b (w3.alloc (.cells #[.slice (some ⟨gb,0,none⟩) (n+1) (n+1),.slice q2.1 q2.2.1 q2.2.2] 63)) w4:=⟨hg4.os,hg4.tape,hg4.output,hg4.size,fun k hk=>hg4.block k (by simp;omega) (fun e=>by injection e with e;omega)⟩
  exact(((HB2.out.mono (by omega)).trans h1).trans ((qc _ _).mono (by omega))).trans h2
 have KA:Hid (EndAt w4 ga (n+1) rs):=HVA.out.keep (fun k c t z hc ht h1 h2=>hK k c t z hc (Or.inr ⟨ht,by omega⟩))
 have KBv:Hid (ValAt w4 gb bv):=(hK _ _ _ _ HVB.out (Or.inl rfl)).trans HVB.out;have KP:Hid (Parts w4 n b lo rest):=HPR.out.keep (hK.mono (by omega))
 have KB:Hid (Below b w w4):=hbl;have KS:Hid _:=hs4;have KR:Hid _:=hrs4;have cx:=qb ((Below.heap_alloc w4 (.cells #[.slice p1.1 p1.2.1 p1.2.2,.slice (some ⟨ga,0,none⟩) (n+1) (n+1)] 63) _ (by omega)).trans hbx4) 0
 have cb0:=qb ((Below.heap_alloc w4 (.cells #[.slice p1.1 p1.2.1 p1.2.2,.slice (some ⟨ga,0,none⟩) (n+1) (n+1)] 63) _ (by omega)).trans hvb4) 0
 have cb1:=qb ((Below.heap_alloc w4 (.cells #[.slice p1.1 p1.2.1 p1.2.2,.slice (some ⟨ga,0,none⟩) (n+1) (n+1)] 63) _ (by omega)).trans hvb4) 1
 simp at cx cb0 cb1
 have hcl:=hcall (w4.alloc (.cells #[.slice p1.1 p1.2.1 p1.2.2,.slice (some ⟨ga,0,none⟩) (n+1) (n+1)] 63)) (KA.out.up (qc _ _)) (KBv.out.up (qc _ _));have HZ:Hid (w.heap.size+2<=w4.heap.size):=by show _<=_;omega
 clear hbx3 hbx4 hrs3 hrs4 hvb4 hK hbl hs4 hg4 hz2 hz3 hz4 hz4' htk2 hcall HG3 HS3 HS2 HRS HBX HB2 Hsz HPR HVA HVB HS KA KBv
 go_wp2_with fail
 refine hcl.mono ?_
 rintro e w6 ⟨g,bs,rfl,hV,hl,hv,hb6,hge⟩
 have hr6:=(hb6.block (w.heap.size+1) (by have:=HZ.out;simp;omega)).trans ((Below.heap_alloc w4 (.cells #[.slice p1.1 p1.2.1 p1.2.2,.slice (some ⟨ga,0,none⟩) (n+1) (n+1)] 63) _ (by have:=HZ.out;omega)).trans KR.out)
 have K6:=qd (qc w4 (.cells #[.slice p1.1 p1.2.1 p1.2.2,.slice (some ⟨ga,0,none⟩) (n+1) (n+1)] 63)) hb6;have c0:=qb hr6 0;have c1:=qb hr6 1;have z0:=frozen_of_row _ _ 0 _ _ hr6;have z1:=frozen_of_row _ _ 1 _ _ hr6;simp at c0 c1
 have HR6:Hid _:=hr6
 have HF:Hid (WorkR n b w X rest (.returned (.agg #[.slice (some ⟨g,0,none⟩) (n+1) (n+1),.slice none 0 0])) ((w6.setCell ⟨w.heap.size+1,0,none⟩ (.slice (some ⟨g,0,none⟩) (n+1) (n+1))).setCell ⟨w.heap.size+1,1,none⟩ (.slice none 0 0))) :=
  q2z (KS.out.up K6) (KP.out.keep (KeepT.of_below K6)) hr6 (KB.out.trans (K6.mono (by have:=HZ.out;omega))) hV hl HTY.out (fun i hi=>(hv i hi).trans (HSEM.out i hi)) (by have:=HZ.out;have:=K6.size;omega) (by have:=HZ.out;simp at hge;omega)
 clear hge hV hl hv hb6 hr6 K6 hcl KS KP KR KB cx cb0 cb1;go_wp2;have f:=qt HR6.out (.slice (some ⟨g,0,none⟩) (n+1) (n+1)) (.slice none 0 0);refine bodyPost_ret (v:=.agg #[.slice (some ⟨g,0,none⟩) (n+1) (n+1),.slice none 0 0]) (by simp[results,Tryz.results38,go_sem,f.1,f.2.1]) rfl ?_
 exact HF.out
theorem q6G(b n c hi:Nat)(d:Option Addr)(zs:List Int)(x y:Sk)(px py:Mp)(rest:List (Sk×Mp))(w:World)(hL:LtSl w d n c zs)(hn:n<=10000)(hS:StkAt w b w.heap.size ((((y,py)::(x,px)::rest).map (·.2)).reverse))(hP:Parts w n b hi ((y,py)::(x,px)::rest))(hh:hi<=w.heap.size)(hx:x.1=true)(hy:y.1=false)(hI:InW n x)(hr:rest.length<=999999):
  Calls Tryz.prog 38 #[.pointer (some ⟨b,0,none⟩),.agg #[.int .u8 18,.int .u8 0],.slice d n c] w (WorkR n b w (skT (zN zs) (18,0) [x,y]) rest):=by
 have hlen:(zN zs).length=n:=by rw[qz];exact hL.sl.hlen
 obtain⟨lo2,hpy,hlo2,lo,hpx,hlo,hPr⟩:=hP;have hblo:=Parts.low hPr;obtain⟨p1,p2⟩:=px;obtain⟨q1,q2⟩:=py;rw[List.map_cons,List.reverse_cons,List.map_cons,List.reverse_cons]at hS;dsimp only at hS
 obtain⟨ga,rs,hp1,hEa,hva,hga1,hga2⟩:=hpx.1 hx;dsimp only at hp1
 subst hp1;obtain⟨gb,bv,hq1,hVb,hlb,hvb,_⟩:=hpy.2 hy;dsimp only at hq1
 subst hq1;have hw1:=qc w (.cells #[.int .u8 18,.int .u8 0] 43);have hw2:=qd hw1 (qc (w.alloc (.cells #[.int .u8 18,.int .u8 0] 43)) (.cells #[.slice none 0 0,.slice none 0 0] 63));have hbox:=(Below.heap_alloc (w.alloc (.cells #[.int .u8 18,.int .u8 0] 43)) (.cells #[.slice none 0 0,.slice none 0 0] 63) w.heap.size (by simp)).trans (MapKept.heap_alloc w _).1
 have hres:=(MapKept.heap_alloc (w.alloc (.cells #[.int .u8 18,.int .u8 0] 43)) (.cells #[.slice none 0 0,.slice none 0 0] 63)).1;have hsz:((w.alloc (.cells #[.int .u8 18,.int .u8 0] 43)).alloc (.cells #[.slice none 0 0,.slice none 0 0] 63)).heap.size=w.heap.size+2:=by simp
 rw[show (w.alloc (.cells #[.int .u8 18,.int .u8 0] 43)).heap.size=w.heap.size+1 by simp]at hres
 clear hw1;have HSEM:Hid (∀i,i<=n->(everyP rs bv i (n+1)↔(skT (zN zs) (18,0) [x,y]).2.1 i)):=qh2 hI hva hvb;have hcall:=fun W (h1:EndAt W ga (n+1) rs) (h2:ValAt W gb bv)=>q5t n ga gb rs bv W h1 h2 hlb hn
 have HTY:Hid ((skT (zN zs) (18,0) [x,y]).1=false):=rfl;generalize skT (zN zs) (18,0) [x,y]=X at *;have hbB:=hS.lt;have HPR:Hid (Parts w n b lo rest):=hPr;have HVA:Hid (EndAt w ga (n+1) rs):=hEa;have HVB:Hid (ValAt w gb bv):=hVb;have HS:Hid _:=hS;clear hS hPr hEa hVb hva hvb hlb hL hpx hpy hlen;go_enter Tryz.func38,Tryz.ntmps38
 go_wp2_with fail
 generalize (w.alloc (.cells #[.int .u8 18,.int .u8 0] 43)).alloc (.cells #[.slice none 0 0,.slice none 0 0] 63)=w2 at *;have hS2:=HS.out.up hw2;have htk:=qm b w.heap.size _ _ w2 hS2 (by simp;omega)
 unfold slV at htk;dsimp only at htk
 have Hsz:Hid _:=hsz;have HB2:Hid _:=hw2;have HBX:Hid _:=hbox;have HRS:Hid _:=hres;have HS2:Hid _:=hS2;clear hbox hS2 hsz hw2 hres;refine htk.mono ?_
 rintro e w3 ⟨rfl,hs3,hg3⟩
 have htk2:=qm b w.heap.size _ _ (w3.alloc (.cells #[.slice (some ⟨gb,0,none⟩) (n+1) (n+1),.slice q2.1 q2.2.1 q2.2.2] 63)) (hs3.up (qc _ _)) (by simp;omega)
 unfold slV at htk2;dsimp only at htk2
 have HG3:Hid _:=hg3;have HS3:Hid _:=hs3;clear htk hs3 hg3
 go_wp2_with fail
 refine htk2.mono ?_
 rintro e w4 ⟨rfl,hs4,hg4⟩
 have hz2:=Hsz.out;have hz3:=HG3.out.size;have hz4:=hg4.size;have hz4':w3.heap.size+1<=w4.heap.size:=by simpa using hz4
 have hbx3:=(HG3.out.block w.heap.size (by omega) (fun e=>by injection e with e;omega)).trans HBX.out
 have hbx4:=(hg4.block w.heap.size (by simp;omega) (fun e=>by injection e with e;omega)).trans ((Below.heap_alloc w3 (.cells #[.slice (some ⟨gb,0,none⟩) (n+1) (n+1),.slice q2.1 q2.2.1 q2.2.2] 63) _ (by omega)).trans hbx3)
 have hrs3:=(HG3.out.block (w.heap.size+1) (by omega) (fun e=>by injection e with e;omega)).trans HRS.out
 have hrs4:=(hg4.block (w.heap.size+1) (by simp;omega) (fun e=>by injection e with e;omega)).trans ((Below.heap_alloc w3 (.cells #[.slice (some ⟨gb,0,none⟩) (n+1) (n+1),.slice q2.1 q2.2.1 q2.2.2] 63) _ (by omega)).trans hrs3)
 have hvb4:=(hg4.block w3.heap.size (by simp) (fun e=>by injection e with e;omega)).trans (MapKept.heap_alloc w3 (.cells #[.slice (some ⟨gb,0,none⟩) (n+1) (n+1),.slice q2.1 q2.2.1 q2.2.2] 63)).1
 have hK:KeepT w.heap.size w w4:=by
  obtain⟨v0,hv0,_⟩:=HS2.out.c;obtain⟨v1,hv1,_⟩:=(HS3.out.up (qc w3 (.cells #[.slice (some ⟨gb,0,none⟩) (n+1) (n+1),.slice q2.1 q2.2.1 q2.2.2] 63))).c;exact(((KeepT.of_below HB2.out).trans (KeepT.of_grown HG3.out hv0 (by decide) (by decide) (by decide))).trans (KeepT.of_below (qc _ (.cells #[.slice (some ⟨gb,0,none⟩) (n+1) (n+1),.slice q2.1 q2.2.1 q2.2.2] 63)))).trans (KeepT.of_grown hg4 hv1 (by decide) (by decide) (by decide))
 have hbl:Below b w w4:=by
  have h1:Below b w2 w3:=⟨HG3.out.os,HG3.out.tape,HG3.out.output,HG3.out.size,fun k hk=>HG3.out.block k (by omega) (fun e=>by injection e with e;omega)⟩
  have h2:Below b (w3.alloc (.cells #[.slice (some ⟨gb,0,none⟩) (n+1) (n+1),.slice q2.1 q2.2.1 q2.2.2] 63)) w4:=⟨hg4.os,hg4.tape,hg4.output,hg4.size,fun k hk=>hg4.block k (by simp;omega) (fun e=>by injection e with e;omega)⟩
  exact(((HB2.out.mono (by omega)).trans h1).trans ((qc _ _).mono (by omega))).trans h2
 have KA:Hid (EndAt w4 ga (n+1) rs):=HVA.out.keep (fun k c t z hc ht h1 h2=>hK k c t z hc (Or.inr ⟨ht,by omega⟩))
 have KBv:Hid (ValAt w4 gb bv):=(hK _ _ _ _ HVB.out (Or.inl rfl)).trans HVB.out;have KP:Hid (Parts w4 n b lo rest):=HPR.out.keep (hK.mono (by omega))
 have KB:Hid (Below b w w4):=hbl;have KS:Hid _:=hs4;have KR:Hid _:=hrs4;have cx:=qb ((Below.heap_alloc w4 (.cells #[.slice p1.1 p1.2.1 p1.2.2,.slice (some ⟨ga,0,none⟩) (n+1) (n+1)] 63) _ (by omega)).trans hbx4) 0
 have cb0:=qb ((Below.heap_alloc w4 (.cells #[.slice p1.1 p1.2.1 p1.2.2,.slice (some ⟨ga,0,none⟩) (n+1) (n+1)] 63) _ (by omega)).trans hvb4) 0
 have cb1:=qb ((Below.heap_alloc w4 (.cells #[.slice p1.1 p1.2.1 p1.2.2,.slice (some ⟨ga,0,none⟩) (n+1) (n+1)] 63) _ (by omega)).trans hvb4) 1
 simp at cx cb0 cb1
 have hcl:=hcall (w4.alloc (.cells #[.slice p1.1 p1.2.1 p1.2.2,.slice (some ⟨ga,0,none⟩) (n+1) (n+1)] 63)) (KA.out.up (qc _ _)) (KBv.out.up (qc _ _));have HZ:Hid (w.heap.size+2<=w4.heap.size):=by show _<=_;omega
 clear hbx3 hbx4 hrs3 hrs4 hvb4 hK hbl hs4 hg4 hz2 hz3 hz4 hz4' htk2 hcall HG3 HS3 HS2 HRS HBX HB2 Hsz HPR HVA HVB HS KA KBv
 go_wp2_with fail
 refine hcl.mono ?_
 rintro e w6 ⟨g,bs,rfl,hV,hl,hv,hb6,hge⟩
 have hr6:=(hb6.block (w.heap.size+1) (by have:=HZ.out;simp;omega)).trans ((Below.heap_alloc w4 (.cells #[.slice p1.1 p1.2.1 p1.2.2,.slice (some ⟨ga,0,none⟩) (n+1) (n+1)] 63) _ (by have:=HZ.out;omega)).trans KR.out)
 have K6:=qd (qc w4 (.cells #[.slice p1.1 p1.2.1 p1.2.2,.slice (some ⟨ga,0,none⟩) (n+1) (n+1)] 63)) hb6;have c0:=qb hr6 0;have c1:=qb hr6 1;have z0:=frozen_of_row _ _ 0 _ _ hr6;have z1:=frozen_of_row _ _ 1 _ _ hr6;simp at c0 c1
 have HR6:Hid _:=hr6
 have HF:Hid (WorkR n b w X rest (.returned (.agg #[.slice (some ⟨g,0,none⟩) (n+1) (n+1),.slice none 0 0])) ((w6.setCell ⟨w.heap.size+1,0,none⟩ (.slice (some ⟨g,0,none⟩) (n+1) (n+1))).setCell ⟨w.heap.size+1,1,none⟩ (.slice none 0 0))) :=
  q2z (KS.out.up K6) (KP.out.keep (KeepT.of_below K6)) hr6 (KB.out.trans (K6.mono (by have:=HZ.out;omega))) hV hl HTY.out (fun i hi=>(hv i hi).trans (HSEM.out i hi)) (by have:=HZ.out;have:=K6.size;omega) (by have:=HZ.out;simp at hge;omega)
 clear hge hV hl hv hb6 hr6 K6 hcl KS KP KR KB cx cb0 cb1;go_wp2;have f:=qt HR6.out (.slice (some ⟨g,0,none⟩) (n+1) (n+1)) (.slice none 0 0);refine bodyPost_ret (v:=.agg #[.slice (some ⟨g,0,none⟩) (n+1) (n+1),.slice none 0 0]) (by simp[results,Tryz.results38,go_sem,f.1,f.2.1]) rfl ?_
 exact HF.out
theorem q6J(b n c hi:Nat)(d:Option Addr)(zs:List Int)(x y:Sk)(px py:Mp)(rest:List (Sk×Mp))(w:World)(hL:LtSl w d n c zs)(hn:n<=10000)(hS:StkAt w b w.heap.size ((((y,py)::(x,px)::rest).map (·.2)).reverse))(hP:Parts w n b hi ((y,py)::(x,px)::rest))(hh:hi<=w.heap.size)(hx:x.1=true)(hy:y.1=true)(hJ:InW n y)(hr:rest.length<=999999):
  Calls Tryz.prog 38 #[.pointer (some ⟨b,0,none⟩),.agg #[.int .u8 21,.int .u8 0],.slice d n c] w (WorkR n b w (skT (zN zs) (21,0) [x,y]) rest):=by
 have hlen:(zN zs).length=n:=by rw[qz];exact hL.sl.hlen
 obtain⟨lo2,hpy,hlo2,lo,hpx,hlo,hPr⟩:=hP;have hblo:=Parts.low hPr;obtain⟨p1,p2⟩:=px;obtain⟨q1,q2⟩:=py;rw[List.map_cons,List.reverse_cons,List.map_cons,List.reverse_cons]at hS;dsimp only at hS
 obtain⟨ga,rs,hp1,hEa,hva,hga1,hga2⟩:=hpx.1 hx;dsimp only at hp1
 subst hp1;obtain⟨gb,us,hq1,hEb,hvb,hgb1,hgb2⟩:=hpy.1 hy;dsimp only at hq1
 subst hq1;have hw1:=qc w (.cells #[.int .u8 21,.int .u8 0] 43);have hw2:=qd hw1 (qc (w.alloc (.cells #[.int .u8 21,.int .u8 0] 43)) (.cells #[.slice none 0 0,.slice none 0 0] 63));have hbox:=(Below.heap_alloc (w.alloc (.cells #[.int .u8 21,.int .u8 0] 43)) (.cells #[.slice none 0 0,.slice none 0 0] 63) w.heap.size (by simp)).trans (MapKept.heap_alloc w _).1
 have hres:=(MapKept.heap_alloc (w.alloc (.cells #[.int .u8 21,.int .u8 0] 43)) (.cells #[.slice none 0 0,.slice none 0 0] 63)).1;have hsz:((w.alloc (.cells #[.int .u8 21,.int .u8 0] 43)).alloc (.cells #[.slice none 0 0,.slice none 0 0] 63)).heap.size=w.heap.size+2:=by simp
 rw[show (w.alloc (.cells #[.int .u8 21,.int .u8 0] 43)).heap.size=w.heap.size+1 by simp]at hres
 clear hw1;have HSEM:Hid (∀i,i<=n->∀k,hasW (plusTo rs us (n+1) i) k=true↔(skT (zN zs) (21,0) [x,y]).2.2 i k):=qfL hJ hva hvb hEa.ok hEb.ok;have hcall:=fun W (h1:EndAt W ga (n+1) rs) (h2:EndAt W gb (n+1) us)=>q8H ga gb (n+1) rs us W (by omega) h1 h2 (by omega)
 have HTY:Hid ((skT (zN zs) (21,0) [x,y]).1=true):=rfl;generalize skT (zN zs) (21,0) [x,y]=X at *;have hbB:=hS.lt;have HPR:Hid (Parts w n b lo rest):=hPr;have HVA:Hid (EndAt w ga (n+1) rs):=hEa;have HVB:Hid (EndAt w gb (n+1) us):=hEb;have HS:Hid _:=hS;clear hS hPr hEa hEb hva hvb hL hpx hpy hlen;go_enter Tryz.func38,Tryz.ntmps38
 go_wp2_with fail
 generalize (w.alloc (.cells #[.int .u8 21,.int .u8 0] 43)).alloc (.cells #[.slice none 0 0,.slice none 0 0] 63)=w2 at *;have hS2:=HS.out.up hw2;have htk:=qm b w.heap.size _ _ w2 hS2 (by simp;omega)
 unfold slV at htk;dsimp only at htk
 have Hsz:Hid _:=hsz;have HB2:Hid _:=hw2;have HBX:Hid _:=hbox;have HRS:Hid _:=hres;have HS2:Hid _:=hS2;clear hbox hS2 hsz hw2 hres;refine htk.mono ?_
 rintro e w3 ⟨rfl,hs3,hg3⟩
 have htk2:=qm b w.heap.size _ _ (w3.alloc (.cells #[.slice q1.1 q1.2.1 q1.2.2,.slice (some ⟨gb,0,none⟩) (n+1) (n+1)] 63)) (hs3.up (qc _ _)) (by simp;omega)
 unfold slV at htk2;dsimp only at htk2
 have HG3:Hid _:=hg3;have HS3:Hid _:=hs3;clear htk hs3 hg3
 go_wp2_with fail
 refine htk2.mono ?_
 rintro e w4 ⟨rfl,hs4,hg4⟩
 have hz2:=Hsz.out;have hz3:=HG3.out.size;have hz4:=hg4.size;have hz4':w3.heap.size+1<=w4.heap.size:=by simpa using hz4
 have hbx3:=(HG3.out.block w.heap.size (by omega) (fun e=>by injection e with e;omega)).trans HBX.out
 have hbx4:=(hg4.block w.heap.size (by simp;omega) (fun e=>by injection e with e;omega)).trans ((Below.heap_alloc w3 (.cells #[.slice q1.1 q1.2.1 q1.2.2,.slice (some ⟨gb,0,none⟩) (n+1) (n+1)] 63) _ (by omega)).trans hbx3)
 have hrs3:=(HG3.out.block (w.heap.size+1) (by omega) (fun e=>by injection e with e;omega)).trans HRS.out
 have hrs4:=(hg4.block (w.heap.size+1) (by simp;omega) (fun e=>by injection e with e;omega)).trans ((Below.heap_alloc w3 (.cells #[.slice q1.1 q1.2.1 q1.2.2,.slice (some ⟨gb,0,none⟩) (n+1) (n+1)] 63) _ (by omega)).trans hrs3)
 have hvb4:=(hg4.block w3.heap.size (by simp) (fun e=>by injection e with e;omega)).trans (MapKept.heap_alloc w3 (.cells #[.slice q1.1 q1.2.1 q1.2.2,.slice (some ⟨gb,0,none⟩) (n+1) (n+1)] 63)).1
 have hK:KeepT w.heap.size w w4:=by
  obtain⟨v0,hv0,_⟩:=HS2.out.c;obtain⟨v1,hv1,_⟩:=(HS3.out.up (qc w3 (.cells #[.slice q1.1 q1.2.1 q1.2.2,.slice (some ⟨gb,0,none⟩) (n+1) (n+1)] 63))).c;exact(((KeepT.of_below HB2.out).trans (KeepT.of_grown HG3.out hv0 (by decide) (by decide) (by decide))).trans (KeepT.of_below (qc _ (.cells #[.slice q1.1 q1.2.1 q1.2.2,.slice (some ⟨gb,0,none⟩) (n+1) (n+1)] 63)))).trans (KeepT.of_grown hg4 hv1 (by decide) (by decide) (by decide))
 have hbl:Below b w w4:=by
  have h1:Below b w2 w3:=⟨HG3.out.os,HG3.out.tape,HG3.out.output,HG3.out.size,fun k hk=>HG3.out.block k (by omega) (fun e=>by injection e with e;omega)⟩
  have h2:Below b (w3.alloc (.cells #[.slice q1.1 q1.2.1 q1.2.2,.slice (some ⟨gb,0,none⟩) (n+1) (n+1)] 63)) w4:=⟨hg4.os,hg4.tape,hg4.output,hg4.size,fun k hk=>hg4.block k (by simp;omega) (fun e=>by injection e with e;omega)⟩
  exact(((HB2.out.mono (by omega)).trans h1).trans ((qc _ _).mono (by omega))).trans h2
 have KA:Hid (EndAt w4 ga (n+1) rs):=HVA.out.keep (fun k c t z hc ht h1 h2=>hK k c t z hc (Or.inr ⟨ht,by omega⟩))
 have KBv:Hid (EndAt w4 gb (n+1) us):=HVB.out.keep (fun k c t z hc ht h1 h2=>hK k c t z hc (Or.inr ⟨ht,by omega⟩))
 have KP:Hid (Parts w4 n b lo rest):=HPR.out.keep (hK.mono (by omega))
 have KB:Hid (Below b w w4):=hbl;have KS:Hid _:=hs4;have KR:Hid _:=hrs4;have cx:=qb ((Below.heap_alloc w4 (.cells #[.slice p1.1 p1.2.1 p1.2.2,.slice (some ⟨ga,0,none⟩) (n+1) (n+1)] 63) _ (by omega)).trans hbx4) 0
 have cb0:=qb ((Below.heap_alloc w4 (.cells #[.slice p1.1 p1.2.1 p1.2.2,.slice (some ⟨ga,0,none⟩) (n+1) (n+1)] 63) _ (by omega)).trans hvb4) 0
 have cb1:=qb ((Below.heap_alloc w4 (.cells #[.slice p1.1 p1.2.1 p1.2.2,.slice (some ⟨ga,0,none⟩) (n+1) (n+1)] 63) _ (by omega)).trans hvb4) 1
 simp at cx cb0 cb1
 have hcl:=hcall (w4.alloc (.cells #[.slice p1.1 p1.2.1 p1.2.2,.slice (some ⟨ga,0,none⟩) (n+1) (n+1)] 63)) (KA.out.up (qc _ _)) (KBv.out.up (qc _ _));have HZ:Hid (w.heap.size+2<=w4.heap.size):=by show _<=_;omega
 clear hbx3 hbx4 hrs3 hrs4 hvb4 hK hbl hs4 hg4 hz2 hz3 hz4 hz4' htk2 hcall HG3 HS3 HS2 HRS HBX HB2 Hsz HPR HVA HVB HS KA KBv
 go_wp2_with fail
 refine hcl.mono ?_
 rintro e w6 ⟨rfl,hE,ho6⟩
 have hr6:=(ho6.block (w.heap.size+1) (by have:=HZ.out;simp;omega) (Or.inr fun c z e=>by
  rw[(Below.heap_alloc w4 (.cells #[.slice p1.1 p1.2.1 p1.2.2,.slice (some ⟨ga,0,none⟩) (n+1) (n+1)] 63) _ (by have:=HZ.out;omega)).trans KR.out]at e
  injection e with e;injection e with _ e _;exact absurd e (by decide))).trans ((Below.heap_alloc w4 (.cells #[.slice p1.1 p1.2.1 p1.2.2,.slice (some ⟨ga,0,none⟩) (n+1) (n+1)] 63) _ (by have:=HZ.out;omega)).trans KR.out)
 have c0:=qb hr6 0;have c1:=qb hr6 1;have z0:=frozen_of_row _ _ 0 _ _ hr6;have z1:=frozen_of_row _ _ 1 _ _ hr6;simp at c0 c1
 have HR6:Hid _:=hr6
 have HF:Hid (WorkR n b w X rest (.returned (.agg #[.slice none 0 0,.slice (some ⟨ga,0,none⟩) (n+1) (n+1)])) ((w6.setCell ⟨w.heap.size+1,0,none⟩ (.slice none 0 0)).setCell ⟨w.heap.size+1,1,none⟩ (.slice (some ⟨ga,0,none⟩) (n+1) (n+1)))) :=
  q4w ((KS.out.up (qc _ (.cells #[.slice p1.1 p1.2.1 p1.2.2,.slice (some ⟨ga,0,none⟩) (n+1) (n+1)] 63))).only ho6) ((KP.out.keep (KeepT.of_below (qc _ (.cells #[.slice p1.1 p1.2.1 p1.2.2,.slice (some ⟨ga,0,none⟩) (n+1) (n+1)] 63)))).keep ((KeepT.of_only ho6).mono (by omega))) hr6 ((KB.out.trans ((qc _ (.cells #[.slice p1.1 p1.2.1 p1.2.2,.slice (some ⟨ga,0,none⟩) (n+1) (n+1)] 63)).mono (by have:=HZ.out;omega))).trans (ho6.below (by omega) (by have:=HZ.out;simp;omega))) hE HTY.out HSEM.out (by omega)
 clear hE ho6 hr6 hcl KS KP KR KB cx cb0 cb1;go_wp2;have f:=qt HR6.out (.slice none 0 0) (.slice (some ⟨ga,0,none⟩) (n+1) (n+1));refine bodyPost_ret (v:=.agg #[.slice none 0 0,.slice (some ⟨ga,0,none⟩) (n+1) (n+1)]) (by simp[results,Tryz.results38,go_sem,f.1,f.2.1]) rfl ?_
 exact HF.out
theorem q6K(b n c hi:Nat)(d:Option Addr)(zs:List Int)(x y:Sk)(px py:Mp)(rest:List (Sk×Mp))(w:World)(hL:LtSl w d n c zs)(hn:n<=10000)(hS:StkAt w b w.heap.size ((((y,py)::(x,px)::rest).map (·.2)).reverse))(hP:Parts w n b hi ((y,py)::(x,px)::rest))(hh:hi<=w.heap.size)(hx:x.1=true)(hy:y.1=true)(hI:InW n x)(hJ:InW n y)(hr:rest.length<=999999):
  Calls Tryz.prog 38 #[.pointer (some ⟨b,0,none⟩),.agg #[.int .u8 22,.int .u8 0],.slice d n c] w (WorkR n b w (skT (zN zs) (22,0) [x,y]) rest):=by
 have hlen:(zN zs).length=n:=by rw[qz];exact hL.sl.hlen
 obtain⟨lo2,hpy,hlo2,lo,hpx,hlo,hPr⟩:=hP;have hblo:=Parts.low hPr;obtain⟨p1,p2⟩:=px;obtain⟨q1,q2⟩:=py;rw[List.map_cons,List.reverse_cons,List.map_cons,List.reverse_cons]at hS;dsimp only at hS
 obtain⟨ga,rs,hp1,hEa,hva,hga1,hga2⟩:=hpx.1 hx;dsimp only at hp1
 subst hp1;obtain⟨gb,us,hq1,hEb,hvb,hgb1,hgb2⟩:=hpy.1 hy;dsimp only at hq1
 subst hq1;have hw1:=qc w (.cells #[.int .u8 22,.int .u8 0] 43);have hw2:=qd hw1 (qc (w.alloc (.cells #[.int .u8 22,.int .u8 0] 43)) (.cells #[.slice none 0 0,.slice none 0 0] 63));have hbox:=(Below.heap_alloc (w.alloc (.cells #[.int .u8 22,.int .u8 0] 43)) (.cells #[.slice none 0 0,.slice none 0 0] 63) w.heap.size (by simp)).trans (MapKept.heap_alloc w _).1
 have hres:=(MapKept.heap_alloc (w.alloc (.cells #[.int .u8 22,.int .u8 0] 43)) (.cells #[.slice none 0 0,.slice none 0 0] 63)).1;have hsz:((w.alloc (.cells #[.int .u8 22,.int .u8 0] 43)).alloc (.cells #[.slice none 0 0,.slice none 0 0] 63)).heap.size=w.heap.size+2:=by simp
 rw[show (w.alloc (.cells #[.int .u8 22,.int .u8 0] 43)).heap.size=w.heap.size+1 by simp]at hres
 clear hw1;have HSEM:Hid (∀xs:Nat->List Nat,(∀i,i<n+1->SeqTo rs us i (n+1) (xs i))->∀i,i<=n->∀k,hasW (xs i) k=true↔(skT (zN zs) (22,0) [x,y]).2.2 i k):=fun xs hd=>qh4 hI hva hvb hd
 have hcall:=fun W (h1:EndAt W ga (n+1) rs) (h2:EndAt W gb (n+1) us)=>qar ga gb (n+1) rs us W (by omega) h1 h2 (fun j hj k hk=>(hJ j k (by omega) ((hvb j (by omega) k).1 hk)).1)
 have HTY:Hid ((skT (zN zs) (22,0) [x,y]).1=true):=rfl;generalize skT (zN zs) (22,0) [x,y]=X at *;have hbB:=hS.lt;have HPR:Hid (Parts w n b lo rest):=hPr;have HVA:Hid (EndAt w ga (n+1) rs):=hEa;have HVB:Hid (EndAt w gb (n+1) us):=hEb;have HS:Hid _:=hS;clear hS hPr hEa hEb hva hvb hL hpx hpy hlen;go_enter Tryz.func38,Tryz.ntmps38
 go_wp2_with fail
 generalize (w.alloc (.cells #[.int .u8 22,.int .u8 0] 43)).alloc (.cells #[.slice none 0 0,.slice none 0 0] 63)=w2 at *;have hS2:=HS.out.up hw2;have htk:=qm b w.heap.size _ _ w2 hS2 (by simp;omega)
 unfold slV at htk;dsimp only at htk
 have Hsz:Hid _:=hsz;have HB2:Hid _:=hw2;have HBX:Hid _:=hbox;have HRS:Hid _:=hres;have HS2:Hid _:=hS2;clear hbox hS2 hsz hw2 hres;refine htk.mono ?_
 rintro e w3 ⟨rfl,hs3,hg3⟩
 have htk2:=qm b w.heap.size _ _ (w3.alloc (.cells #[.slice q1.1 q1.2.1 q1.2.2,.slice (some ⟨gb,0,none⟩) (n+1) (n+1)] 63)) (hs3.up (qc _ _)) (by simp;omega)
 unfold slV at htk2;dsimp only at htk2
 have HG3:Hid _:=hg3;have HS3:Hid _:=hs3;clear htk hs3 hg3
 go_wp2_with fail
 refine htk2.mono ?_
 rintro e w4 ⟨rfl,hs4,hg4⟩
 have hz2:=Hsz.out;have hz3:=HG3.out.size;have hz4:=hg4.size;have hz4':w3.heap.size+1<=w4.heap.size:=by simpa using hz4
 have hbx3:=(HG3.out.block w.heap.size (by omega) (fun e=>by injection e with e;omega)).trans HBX.out
 have hbx4:=(hg4.block w.heap.size (by simp;omega) (fun e=>by injection e with e;omega)).trans ((Below.heap_alloc w3 (.cells #[.slice q1.1 q1.2.1 q1.2.2,.slice (some ⟨gb,0,none⟩) (n+1) (n+1)] 63) _ (by omega)).trans hbx3)
 have hrs3:=(HG3.out.block (w.heap.size+1) (by omega) (fun e=>by injection e with e;omega)).trans HRS.out
 have hrs4:=(hg4.block (w.heap.size+1) (by simp;omega) (fun e=>by injection e with e;omega)).trans ((Below.heap_alloc w3 (.cells #[.slice q1.1 q1.2.1 q1.2.2,.slice (some ⟨gb,0,none⟩) (n+1) (n+1)] 63) _ (by omega)).trans hrs3)
 have hvb4:=(hg4.block w3.heap.size (by simp) (fun e=>by injection e with e;omega)).trans (MapKept.heap_alloc w3 (.cells #[.slice q1.1 q1.2.1 q1.2.2,.slice (some ⟨gb,0,none⟩) (n+1) (n+1)] 63)).1
 have hK:KeepT w.heap.size w w4:=by
  obtain⟨v0,hv0,_⟩:=HS2.out.c;obtain⟨v1,hv1,_⟩:=(HS3.out.up (qc w3 (.cells #[.slice q1.1 q1.2.1 q1.2.2,.slice (some ⟨gb,0,none⟩) (n+1) (n+1)] 63))).c;exact(((KeepT.of_below HB2.out).trans (KeepT.of_grown HG3.out hv0 (by decide) (by decide) (by decide))).trans (KeepT.of_below (qc _ (.cells #[.slice q1.1 q1.2.1 q1.2.2,.slice (some ⟨gb,0,none⟩) (n+1) (n+1)] 63)))).trans (KeepT.of_grown hg4 hv1 (by decide) (by decide) (by decide))
 have hbl:Below b w w4:=by
  have h1:Below b w2 w3:=⟨HG3.out.os,HG3.out.tape,HG3.out.output,HG3.out.size,fun k hk=>HG3.out.block k (by omega) (fun e=>by injection e with e;omega)⟩
  have h2:Below b (w3.alloc (.cells #[.slice q1.1 q1.2.1 q1.2.2,.slice (some ⟨gb,0,none⟩) (n+1) (n+1)] 63)) w4:=⟨hg4.os,hg4.tape,hg4.output,hg4.size,fun k hk=>hg4.block k (by simp;omega) (fun e=>by injection e with e;omega)⟩
  exact(((HB2.out.mono (by omega)).trans h1).trans ((qc _ _).mono (by omega))).trans h2
 have KA:Hid (EndAt w4 ga (n+1) rs):=HVA.out.keep (fun k c t z hc ht h1 h2=>hK k c t z hc (Or.inr ⟨ht,by omega⟩))
 have KBv:Hid (EndAt w4 gb (n+1) us):=HVB.out.keep (fun k c t z hc ht h1 h2=>hK k c t z hc (Or.inr ⟨ht,by omega⟩))
 have KP:Hid (Parts w4 n b lo rest):=HPR.out.keep (hK.mono (by omega))
 have KB:Hid (Below b w w4):=hbl;have KS:Hid _:=hs4;have KR:Hid _:=hrs4;have cx:=qb ((Below.heap_alloc w4 (.cells #[.slice p1.1 p1.2.1 p1.2.2,.slice (some ⟨ga,0,none⟩) (n+1) (n+1)] 63) _ (by omega)).trans hbx4) 0
 have cb0:=qb ((Below.heap_alloc w4 (.cells #[.slice p1.1 p1.2.1 p1.2.2,.slice (some ⟨ga,0,none⟩) (n+1) (n+1)] 63) _ (by omega)).trans hvb4) 0
 have cb1:=qb ((Below.heap_alloc w4 (.cells #[.slice p1.1 p1.2.1 p1.2.2,.slice (some ⟨ga,0,none⟩) (n+1) (n+1)] 63) _ (by omega)).trans hvb4) 1
 simp at cx cb0 cb1
 have hcl:=hcall (w4.alloc (.cells #[.slice p1.1 p1.2.1 p1.2.2,.slice (some ⟨ga,0,none⟩) (n+1) (n+1)] 63)) (KA.out.up (qc _ _)) (KBv.out.up (qc _ _));have HZ:Hid (w.heap.size+2<=w4.heap.size):=by show _<=_;omega
 clear hbx3 hbx4 hrs3 hrs4 hvb4 hK hbl hs4 hg4 hz2 hz3 hz4 hz4' htk2 hcall HG3 HS3 HS2 HRS HBX HB2 Hsz HPR HVA HVB HS KA KBv
 go_wp2_with fail
 refine hcl.mono ?_
 rintro e w6 ⟨rfl,⟨xs,hE,hd⟩,hb6⟩
 have hr6:=(hb6.block (w.heap.size+1) (by have:=HZ.out;simp;omega)).trans ((Below.heap_alloc w4 (.cells #[.slice p1.1 p1.2.1 p1.2.2,.slice (some ⟨ga,0,none⟩) (n+1) (n+1)] 63) _ (by have:=HZ.out;omega)).trans KR.out)
 have K6:=qd (qc w4 (.cells #[.slice p1.1 p1.2.1 p1.2.2,.slice (some ⟨ga,0,none⟩) (n+1) (n+1)] 63)) hb6;have c0:=qb hr6 0;have c1:=qb hr6 1;have z0:=frozen_of_row _ _ 0 _ _ hr6;have z1:=frozen_of_row _ _ 1 _ _ hr6;simp at c0 c1
 have HR6:Hid _:=hr6;have eg:(w4.alloc (.cells #[.slice p1.1 p1.2.1 p1.2.2,.slice (some ⟨ga,0,none⟩) (n+1) (n+1)] 63)).heap.size=w4.heap.size+1:=by simp
 rw[eg]at hE
 have HF:Hid (WorkR n b w X rest (.returned (.agg #[.slice none 0 0,.slice (some ⟨(w4.heap.size+1),0,none⟩) (n+1) (n+1)])) ((w6.setCell ⟨w.heap.size+1,0,none⟩ (.slice none 0 0)).setCell ⟨w.heap.size+1,1,none⟩ (.slice (some ⟨(w4.heap.size+1),0,none⟩) (n+1) (n+1)))) :=
  q4w (KS.out.up K6) (KP.out.keep (KeepT.of_below K6)) hr6 (KB.out.trans (K6.mono (by have:=HZ.out;omega))) hE HTY.out (HSEM.out _ hd) (by have:=HZ.out;omega)
 clear hE hd hb6 K6 hr6 hcl KS KP KR KB cx cb0 cb1;go_wp2;have f:=qt HR6.out (.slice none 0 0) (.slice (some ⟨(w4.heap.size+1),0,none⟩) (n+1) (n+1));refine bodyPost_ret (v:=.agg #[.slice none 0 0,.slice (some ⟨(w4.heap.size+1),0,none⟩) (n+1) (n+1)]) (by simp[results,Tryz.results38,go_sem,f.1,f.2.1]) rfl ?_
 exact HF.out
theorem fit1{op:Nat}{q:Bool}(h:fitK op [q]=true)(h1:op≠23):q=false:=by
 unfold fitK at h;rw[if_neg h1]at h
 split at h
 ·cases q <;> simp at h
 ·split at h
  ·cases q <;> simp at h
  ·cases q <;> simp_all
theorem qcZ{op p m:Nat}(h:takesN (op,p)=some m):(op<=5/\m=0/\(op≠2->p=0)/\p<=7)\/((6<=op/\op<=10\/op=19\/op=20\/op=23)/\m=1/\p=0)\/((11<=op/\op<=18\/op=21\/op=22)/\m=2/\p=0):=by
 unfold takesN at h;dsimp only at h
 split at h
 ·cases h
 ·next h0 =>
  split at h
  ·cases h;exact Or.inl ⟨by omega,rfl,by omega,by omega⟩
  ·split at h
   ·cases h;exact Or.inr (Or.inl ⟨by omega,rfl,by omega⟩)
   ·cases h;exact Or.inr (Or.inr ⟨by omega,rfl,by omega⟩)
theorem q8L(b n c hi:Nat)(d:Option Addr)(zs:List Int)(op p:Nat)(l:List (Sk×Mp))(w:World)(hL:LtSl w d n c zs)(hn:n<=10000)(hS:StkAt w b w.heap.size ((l.map (·.2)).reverse))(hP:Parts w n b hi l)(hh:hi<=w.heap.size)(hl:l.length<=100000)(hok:OkAt n ((l.map (·.1)).reverse) (op,p)):
  ∃x rest,skStep (zN zs) ((l.map (·.1)).reverse) (op,p)=(rest.map (·.1)).reverse++[x]/\rest.length<=l.length/\Calls Tryz.prog 38 #[.pointer (some ⟨b,0,none⟩),.agg #[.int .u8 (op:Int),.int .u8 (p:Int)],.slice d n c] w (WorkR n b w x rest):=by
 obtain⟨m,hm,hml,hf,hin⟩:=hok;have ht:=q1S hm;rcases qcZ hm with⟨h1,rfl,h3,h4⟩|⟨h1,rfl,rfl⟩|⟨h1,rfl,rfl⟩
 ·refine⟨skT (zN zs) (op,p) [],l,?_,Nat.le_refl _,?_⟩
  ·unfold skStep
   have:=q1f ((l.map (·.1)).reverse) [] 0 rfl
   rw[List.append_nil]at this;rw[ht,this.1,this.2]
  ·obtain rfl|rfl|rfl|rfl|rfl|rfl:op=0\/op=1\/op=2\/op=3\/op=4\/op=5:=by omega
   ·obtain rfl:=h3 (by decide)
    exact q7A b n c hi d zs l w hL hn hS hP hh
   ·obtain rfl:=h3 (by decide)
    exact q7B b n c hi d zs l w hL hn hS hP hh
   ·exact q7C b n c hi p d zs l w hL hn h4 hS hP hh
   ·obtain rfl:=h3 (by decide)
    exact q7D b n c hi d zs l w hL hn hS hP hh
   ·obtain rfl:=h3 (by decide)
    exact q7E b n c hi d zs l w hL hn hS hP hh
   ·obtain rfl:=h3 (by decide)
    exact q7F b n c hi d zs l w hL hn hS hP hh
 ·obtain⟨⟨x,px⟩,rest,rfl⟩:∃q rest,l=q::rest:=by
   cases l with
   | nil=>simp at hml
   | cons q r=>exact⟨q,r,rfl⟩
  have hd:=q1f ((rest.map (·.1)).reverse) [x] 1 rfl;have e0:(((x,px)::rest).map (·.1)).reverse=(rest.map (·.1)).reverse++[x]:=by simp
  rw[e0]at hf hin ⊢;refine⟨skT (zN zs) (op,0) [x],rest,?_,by simp,?_⟩
  ·unfold skStep
   rw[ht,hd.1,hd.2]
  ·rw[hd.1]at hf
   have hI:InW n x:=hin x (by simp)
   have hr:rest.length<=1000000:=by simp at hl;omega
   obtain rfl|rfl|rfl|rfl|rfl|rfl|rfl|rfl:op=6\/op=7\/op=8\/op=9\/op=10\/op=19\/op=20\/op=23:=by omega
   ·exact q7G b n c hi d zs x px rest w hL hn hS hP hh (fit1 hf (by decide)) hr
   ·exact q7H b n c hi d zs x px rest w hL hn hS hP hh (fit1 hf (by decide)) hr
   ·exact q7I b n c hi d zs x px rest w hL hn hS hP hh (fit1 hf (by decide)) hr
   ·exact q7J b n c hi d zs x px rest w hL hn hS hP hh (fit1 hf (by decide)) hr
   ·exact q6y b n c hi d zs x px rest w hL hn hS hP hh (fit1 hf (by decide)) hr
   ·exact q6H b n c hi d zs x px rest w hL hn hS hP hh (fit1 hf (by decide)) hr
   ·exact q6I b n c hi d zs x px rest w hL hn hS hP hh (fit1 hf (by decide)) hr
   ·exact q6L b n c hi d zs x px rest w hL hn hS hP hh (by have:=hf;simpa [fitK] using this) hI hr
 ·obtain⟨⟨y,py⟩,⟨x,px⟩,rest,rfl⟩:∃q q' rest,l=q::q'::rest:=by
   match l,hml with
   | [],h=>simp at h
   | [_],h=>simp at h
   | q::q'::r,_=>exact⟨q,q',r,rfl⟩
  have hd:=q1f ((rest.map (·.1)).reverse) [x,y] 2 rfl;have e0:(((y,py)::(x,px)::rest).map (·.1)).reverse=(rest.map (·.1)).reverse++[x,y]:=by simp
  rw[e0]at hf hin ⊢;refine⟨skT (zN zs) (op,0) [x,y],rest,?_,by simp;omega,?_⟩
  ·unfold skStep
   rw[ht,hd.1,hd.2]
  ·rw[hd.1]at hf
   have hI:InW n x:=hin x (by simp)
   have hJ:InW n y:=hin y (by simp)
   have hr:rest.length<=999999:=by simp at hl;omega
   obtain rfl|rfl|rfl|rfl|rfl|rfl|rfl|rfl|rfl|rfl:op=11\/op=12\/op=13\/op=14\/op=15\/op=16\/op=17\/op=18\/op=21\/op=22:=by omega
   ·have hk:x.1=false/\y.1=false:=by have:=hf;simpa [fitK] using this
    exact q6z b n c hi d zs x y px py rest w hL hn hS hP hh hk.1 hk.2 hr
   ·have hk:x.1=false/\y.1=false:=by have:=hf;simpa [fitK] using this
    exact q6A b n c hi d zs x y px py rest w hL hn hS hP hh hk.1 hk.2 hr
   ·have hk:x.1=false/\y.1=false:=by have:=hf;simpa [fitK] using this
    exact q6B b n c hi d zs x y px py rest w hL hn hS hP hh hk.1 hk.2 hr
   ·have hk:x.1=false/\y.1=false:=by have:=hf;simpa [fitK] using this
    exact q6C b n c hi d zs x y px py rest w hL hn hS hP hh hk.1 hk.2 hr
   ·have hk:x.1=false/\y.1=false:=by have:=hf;simpa [fitK] using this
    exact q6D b n c hi d zs x y px py rest w hL hn hS hP hh hk.1 hk.2 hr
   ·have hk:x.1=false/\y.1=false:=by have:=hf;simpa [fitK] using this
    exact q6E b n c hi d zs x y px py rest w hL hn hS hP hh hk.1 hk.2 hr
   ·have hk:x.1=true/\y.1=false:=by have:=hf;simpa [fitK] using this
    exact q6F b n c hi d zs x y px py rest w hL hn hS hP hh hk.1 hk.2 hI hr
   ·have hk:x.1=true/\y.1=false:=by have:=hf;simpa [fitK] using this
    exact q6G b n c hi d zs x y px py rest w hL hn hS hP hh hk.1 hk.2 hI hr
   ·have hk:x.1=true/\y.1=true:=by have:=hf;simpa [fitK] using this
    exact q6J b n c hi d zs x y px py rest w hL hn hS hP hh hk.1 hk.2 hJ hr
   ·have hk:x.1=true/\y.1=true:=by have:=hf;simpa [fitK] using this
    exact q6K b n c hi d zs x y px py rest w hL hn hS hP hh hk.1 hk.2 hI hJ hr
theorem q8p{w:World}{ops:Array Oper}{rest:List Oper}{o:Oper}{a:Act}{Q:Exit->Act->World->Prop}(hgd:o.guard=none)(s x:Operand)
  (ho:o.op=.call { callee:=.builtin .append,args:=#[s,x],argTypes:=#[94,94] }) (base:Nat)
  (v:Value) (st:List Mp) (hs:a.eval s=v) (hown:w.ownsRow base 63 2 v st.length (encS st)) (g:Nat) (p:Mp) (hx:a.eval x=.slice (some ⟨g,0,none⟩) 1 1) (hB:w.heap[g]? = some (.cells #[slV p.1,slV p.2] 63 (0,0)))
  (hn:st.length<=1000000) (hbase:base<=w.heap.size)
  (h:∀v' w',w'.ownsRow base 63 2 v' (st.length+1) (encS (st++[p]))->w.grownBy w' v.ownBlock->wpList Tryz.prog ops Q rest (a.put o.dst v') w'):wpList Tryz.prog ops Q (o::rest) a w:=by
 obtain⟨i,hi,hz0,hz1,hz2⟩:=info_parts qcs;refine wpList_append_own w hgd s x 94 ho base 63 i _ 2 48 Tryz.underlying94 hi hz0 hz1 hz2 rfl (by decide) v st.length _ hs hown ⟨g,0,none⟩ 1 1 [slV p.1,slV p.2] hx rfl (fun j u hj=>?_) (fun u hu=>qf9 [p] u (by simpa [encS] using hu)) (by unfold maxLen;omega) (by omega) hbase ?_
 ·rw[qg,Nat.zero_add,qb hB];simpa using hj
 ·intro v' w' h1 h2 _
  exact h v' w' (by rw[q4b];simpa [encS] using h1) h2
structure Good (t:List Nat) (ts:List Tk) (x:Sk):Prop where
 few:ts.length<=512
 ok:∀k (h:k<ts.length),OkAt t.length (skS t (ts.take k) []) ts[k]
 fin:skS t ts []=[x]
theorem PartOk.low{w:World}{n b b' lo hi:Nat}{x:Sk}{p:Mp}(h:PartOk w n b x p lo hi)(hb:b'<=b):PartOk w n b' x p lo hi:=⟨h.1,fun hx=>by
 obtain⟨g,bs,h1,h2,h3,h4,h5⟩:=h.2 hx;exact⟨g,bs,h1,h2,h3,h4,Nat.le_trans hb h5⟩⟩
def WholeR (n:Nat) (x:Sk) (w:World) (e:Ending) (w':World):Prop:=∃p lo hi,e=.returned (.agg #[slV p.1,slV p.2])/\PartOk w' n w.heap.size x p lo hi/\w.heap.size<=lo/\Below w.heap.size w w'
theorem KeepT.of_grownO{G:Nat}{w w':World}{v:Value}{n m:Nat}{xs:List Value}(h:w.grownBy w' v.ownBlock)(ho:w.ownsRow m 63 2 v n xs):KeepT G w w':=fun k c t z hc ht =>
 h.block k (aes hc).1 fun e=>by
  rcases ho.2 with⟨rfl,_⟩|⟨g,cap,cur,rfl,_,hcell,_⟩
  ·cases e
  ·injection e with e
   dsimp only at e
   subst e;rw[hcell]at hc;injection hc with hc;injection hc with _ hc _;subst hc;rcases ht with ht|⟨ht|ht,_⟩ <;> exact absurd ht (by decide)
theorem KeepT.of_set{G b:Nat}{w:World}{c0:Array Value}{z0:Nat×Nat}(hj:w.heap[b]? = some (.cells c0 94 z0))(i:Nat)(u:Value):KeepT G w (w.setCell ⟨b,i,none⟩ u) :=
 KeepT.of_grown (j:=b) ⟨rfl,rfl,rfl,by simp[World.setCell],fun k _ hne=>Below.heap_setCell _ _ _ _ (fun e=>hne (congrArg some e))⟩ hj (by decide) (by decide) (by decide)
theorem q7z(a:Option Addr)(len cap:Nat)(ts:List Tk)(n c:Nat)(d:Option Addr)(zs:List Int)(x:Sk)(w:World)(hT:TkSl w a len cap ts)(hL:LtSl w d n c zs)(hn:n<=10000)(hG:Good (zN zs) ts x):
  Calls Tryz.prog 18 #[.slice a len cap,.slice d n c] w (WholeR n x w):=by
 have hlen:=hT.hlen;have hzl:(zN zs).length=n:=by rw[qz];exact hL.sl.hlen
 have hl5:=hG.few;have HT:Hid (TkSl w a len cap ts):=hT;have HL:Hid (LtSl w d n c zs):=hL;have HG:Hid (Good (zN zs) ts x):=hG;have hw2:=qd (qc w (.cells #[.slice none 0 0,.slice none 0 0] 63)) (qc (w.alloc (.cells #[.slice none 0 0,.slice none 0 0] 63)) (.cells #[.slice none 0 0] 94));have hres:=(Below.heap_alloc (w.alloc (.cells #[.slice none 0 0,.slice none 0 0] 63)) (.cells #[.slice none 0 0] 94) w.heap.size (by simp)).trans (MapKept.heap_alloc w _).1
 have hstk:=(MapKept.heap_alloc (w.alloc (.cells #[.slice none 0 0,.slice none 0 0] 63)) (.cells #[.slice none 0 0] 94)).1;have hsz:((w.alloc (.cells #[.slice none 0 0,.slice none 0 0] 63)).alloc (.cells #[.slice none 0 0] 94)).heap.size=w.heap.size+2:=by simp
 rw[show (w.alloc (.cells #[.slice none 0 0,.slice none 0 0] 63)).heap.size=w.heap.size+1 by simp]at hstk
 clear hT hL hG;go_enter Tryz.func18,Tryz.ntmps18
 go_wp2;generalize (w.alloc (.cells #[.slice none 0 0,.slice none 0 0] 63)).alloc (.cells #[.slice none 0 0] 94)=w2 at *;have HB2:Hid (Below w.heap.size w w2):=hw2;have HS0:Hid (StkAt w2 (w.heap.size+1) w2.heap.size []):=⟨⟨.slice none 0 0,hstk,⟨rfl,Or.inl ⟨rfl,rfl⟩⟩,fun k hk=>by cases hk⟩,by omega⟩
 have HR:Hid _:=hres;have Hsz:Hid _:=hsz;clear hw2 hres hstk hsz
 go_loopw [11] (fun i wr=>∃k:Nat,k<=len/\i=.int .i64 k/\(∃l:List (Sk×Mp),Hid (StkAt wr (w.heap.size+1) wr.heap.size ((l.map (·.2)).reverse))/\Hid (Parts wr n (w.heap.size+1) wr.heap.size l)/\Hid ((l.map (·.1)).reverse=skS (zN zs) (ts.take k) [])/\Hid (l.length<=k))/\Hid (Below (w.heap.size+1) w2 wr)) (fun i _=>len - (intOf i).toNat)
 case atStart=>exact⟨0,Nat.zero_le _,rfl,⟨[],HS0,by show Parts _ _ _ _ _;have:=Hsz.out;unfold Parts;omega,rfl,Nat.le_refl _⟩,Below.refl _ _⟩
 case round =>
  obtain⟨k,hk,rfl,⟨l,HS,HP,HE,HLL⟩,HW⟩:=hrel;clear HS0;have hszr:=HW.out.size;have hsz2:=Hsz.out;have HWW:Hid (Below w.heap.size w wr):=HB2.out.trans (HW.out.mono (by omega))
  by_cases hlt:k<len
  ·obtain⟨g1,o1,s1,hi1,hx0,hx1,hg1,_⟩:=(HT.out.up HWW.out).at Tryz.underlying22 q1G k hlt
   have hidx:=fun w'=>hi1 len w' hlt
   clear hi1;have hxl:k<ts.length:=by omega
   have hok:=HG.out.ok k hxl;have HNX:Hid (skS (zN zs) (ts.take (k+1)) []=skStep (zN zs) (skS (zN zs) (ts.take k) []) ts[k]):=qfR _ hxl _;rw[<- HE.out]at hok HNX;rw[hzl]at hok;generalize ts[k]=q at *;obtain⟨op,p⟩:=q;dsimp only at hx0 hx1
   have hb1:=qc wr (.cells #[.int .u8 (op:Int),.int .u8 (p:Int)] 43);have hll:=HLL.out;obtain⟨y,rest,hst,hrl,hcall⟩:=q8L (w.heap.size+1) n c wr.heap.size d zs op p l (wr.alloc (.cells #[.int .u8 (op:Int),.int .u8 (p:Int)] 43)) ((HL.out.up HWW.out).up hb1) hn ((HS.out.up hb1).size) (HP.out.keep (KeepT.of_below hb1)) hb1.size (by omega) hok
   have HST:Hid _:=hst;have HRL:Hid _:=hrl;have hz1:(wr.alloc (.cells #[.int .u8 (op:Int),.int .u8 (p:Int)] 43)).heap.size=wr.heap.size+1:=by simp
   clear hst hrl hok HS HP
   go_wp2_with fail
   have HB1:Hid _:=hb1;clear hb1 hx0 hx1 hidx;generalize wr.alloc (.cells #[.int .u8 (op:Int),.int .u8 (p:Int)] 43)=w3 at *;refine hcall.mono ?_
   rintro e w4 ⟨pv,rfl,hs4,hp4,hb4⟩
   obtain⟨⟨xa,xl,xc⟩,⟨ya,yl,yc⟩⟩:=pv;obtain⟨v,hr4,ho4,_⟩:=hs4.c;obtain⟨va,vc,rfl⟩:=qeE ho4;have hbl4:w.heap.size+1<w4.heap.size:=(aes hr4).1
   have hz4:=hb4.size;rw[hz1]at hz4;have hlr:=HRL.out;have HRS:Hid (((((y,((xa,xl,xc),(ya,yl,yc)))::rest).map (·.2)).reverse:List Mp)=(rest.map (·.2)).reverse++[((xa,xl,xc),(ya,yl,yc))]):=by show _=_;simp
   have HLE:Hid (((rest.map (·.2)).reverse:List Mp).length=rest.length):=by show _=_;simp
   have HPt:Hid (Parts w4 n (w.heap.size+1) w4.heap.size ((y,((xa,xl,xc),(ya,yl,yc)))::rest)):=hp4;have hll3:((rest.map (·.2)).reverse:List Mp).length<=1000:=by rw[HLE.out];omega
   have hz4':=hb4.size;have HW4:Hid (Below (w.heap.size+1) w2 w4):=(HW.out.trans (HB1.out.mono (by omega))).trans hb4
   generalize hst:((rest.map (·.2)).reverse:List Mp)=st at *;have HST2:Hid (((rest.map (·.2)).reverse:List Mp)=st):=hst;clear hst;have hb5:=qc w4 (.cells #[.slice xa xl xc,.slice ya yl yc] 63);have hb6:=qd hb5 (qc (w4.alloc (.cells #[.slice xa xl xc,.slice ya yl yc] 63)) (.cells #[.slice xa xl xc,.slice ya yl yc] 63));have cb5:=qb ((hb5.block (w.heap.size+1) (by omega)).trans hr4) 0
   simp at cb5
   have hO6:=q1a ho4 hb6;have hB6:=(MapKept.heap_alloc (w4.alloc (.cells #[.slice xa xl xc,.slice ya yl yc] 63)) (.cells #[.slice xa xl xc,.slice ya yl yc] 63)).1;rw[show (w4.alloc (.cells #[.slice xa xl xc,.slice ya yl yc] 63)).heap.size=w4.heap.size+1 by simp]at hB6
   have hR6:=(hb6.block (w.heap.size+1) (by omega)).trans hr4
   have hz6:((w4.alloc (.cells #[.slice xa xl xc,.slice ya yl yc] 63)).alloc (.cells #[.slice xa xl xc,.slice ya yl yc] 63)).heap.size=w4.heap.size+2:=by simp
   have HO6:Hid _:=hO6;have HB6:Hid _:=hB6;have HR6:Hid _:=hR6;have Hb6:Hid _:=hb6;have Hz6:Hid _:=hz6;have HGE:Hid (∀j,(Value.slice va st.length vc).ownBlock=some j->w.heap.size+1+1<=j):=q1Q ho4;unfold slV;clear hO6 hB6 hR6 hb6 hz6 ho4 hr4 hs4 hp4 hb4 hb5 hcall;dsimp only
   go_wp2_with (at_builtin;refine q8p rfl _ _ rfl (w.heap.size+1+1) _ st rfl HO6.out (w4.heap.size+1) ((xa,xl,xc),(ya,yl,yc)) rfl HB6.out (by omega) (by rw[Hz6.out];omega) ?_)
   intro v7 w7 hown7 hgr7;obtain⟨va7,vc7,rfl⟩:=qeE hown7;have hR7:=(hgr7.block (w.heap.size+1) (by rw[Hz6.out];omega) (fun e=>by have:=HGE.out _ e.symm;omega)).trans HR6.out
   have cb7:=qb hR7 0;have zb7:=frozen_of_row _ _ 0 _ _ hR7;simp at cb7
   have HFIN:Hid (StkAt (w7.setCell ⟨w.heap.size+1,0,none⟩ (.slice va7 (st.length+1) vc7)) (w.heap.size+1) (w7.setCell ⟨w.heap.size+1,0,none⟩ (.slice va7 (st.length+1) vc7)).heap.size (st++[((xa,xl,xc),(ya,yl,yc))])/\Parts (w7.setCell ⟨w.heap.size+1,0,none⟩ (.slice va7 (st.length+1) vc7)) n (w.heap.size+1) (w7.setCell ⟨w.heap.size+1,0,none⟩ (.slice va7 (st.length+1) vc7)).heap.size ((y,((xa,xl,xc),(ya,yl,yc)))::rest)/\Below (w.heap.size+1) w2 (w7.setCell ⟨w.heap.size+1,0,none⟩ (.slice va7 (st.length+1) vc7))):=by
    have hK:KeepT w4.heap.size w4 (w7.setCell ⟨w.heap.size+1,0,none⟩ (.slice va7 (st.length+1) vc7)):=((KeepT.of_below Hb6.out).trans (KeepT.of_grownO hgr7 HO6.out)).trans (KeepT.of_set hR7 0 _);have hsS:(w7.setCell ⟨w.heap.size+1,0,none⟩ (.slice va7 (st.length+1) vc7)).heap.size=w7.heap.size:=by simp[World.setCell]
    have hsz7:=hgr7.size;rw[Hz6.out]at hsz7;refine⟨?_,(HPt.out.keep hK).mono (by omega),?_⟩
    ·have hfin:StkAt (w7.setCell ⟨w.heap.size+1,0,none⟩ (.slice va7 (st.length+1) vc7)) (w.heap.size+1) (w7.setCell ⟨w.heap.size+1,0,none⟩ (.slice va7 (st.length+1) vc7)).heap.size (st++[((xa,xl,xc),(ya,yl,yc))]):=by
      refine⟨⟨.slice va7 (st.length+1) vc7,?_,?_,fun j hj=>?_⟩,by omega⟩
      ·rw[heap_setCell_same _ _ 0 _ _ _ hR7];rfl
      ·have h8:(w7.setCell ⟨w.heap.size+1,0,none⟩ (.slice va7 (st.length+1) vc7)).ownsRow (w.heap.size+1+1) 63 2 (.slice va7 (st.length+1) vc7) (st.length+1) (encS (st++[((xa,xl,xc),(ya,yl,yc))])):=qfz hown7 (by dsimp only;omega) _
       rw[List.length_append];exact h8
      ·rcases hown7.2 with⟨e,_⟩|⟨g,cap,cur,e,_,hcell,_⟩
       ·rw[e]at hj;cases hj
       ·rw[e]at hj
        injection hj with hj;dsimp only at hj
        subst hj;rw[hsS];exact(aes hcell).1
     exact hfin
    ·have h9:Below (w.heap.size+1) w2 w7:=(HW4.out.trans (Hb6.out.mono (by omega))).grown hgr7 (by rw[Hz6.out];omega) (fun j e=>by have:=HGE.out _ e;omega)
     exact h9.setCell (by dsimp only;omega) _
   clear hown7 hgr7 hR7;go_wp2
   go_roundw
   case rel =>
    refine⟨k+1,by omega,by go_num,⟨(y,((xa,xl,xc),(ya,yl,yc)))::rest,?_,HFIN.out.2.1,?_,?_⟩,HFIN.out.2.2⟩
    ·show StkAt _ _ _ _
     rw[HRS.out];exact HFIN.out.1
    ·show _=_
     rw[HNX.out,HST.out];simp
    ·show _<=_
     simp;omega
   case measure=>simp[intOf] <;> omega
  ·obtain rfl:k=len:=by omega
   have he:=HE.out;rw[List.take_of_length_le (by omega),HG.out.fin]at he
   obtain⟨⟨x',p⟩,rfl⟩:∃q,l=[q]:=by
    match l,he with
    | [],h=>simp at h
    | [q],_=>exact⟨q,rfl⟩
    | _::_::_,h=>have:=congrArg List.length h;simp at this
   obtain rfl:x'=x:=by simpa using he
   obtain⟨⟨xa,xl,xc⟩,⟨ya,yl,yc⟩⟩:=p;have hS:=HS.out;have htk:=qm (w.heap.size+1) wr.heap.size [] ((xa,xl,xc),(ya,yl,yc)) wr (by simpa using hS) (by simp)
   obtain⟨lo,hpo,hlo,hlo2⟩:=HP.out;have hlo3:w.heap.size+1<lo:=hlo2;have hrr:=(HW.out.block w.heap.size (by omega)).trans HR.out
   have HPO:Hid (PartOk wr n (w.heap.size+1) x' ((xa,xl,xc),(ya,yl,yc)) lo wr.heap.size):=hpo;have HRR:Hid _:=hrr;have HSS:Hid _:=hS;clear hpo hrr hS HS HP HE he;unfold slV at htk;dsimp only at htk
   go_wp2_with fail
   refine htk.mono ?_
   rintro e w3 ⟨rfl,hs3,hg3⟩
   have hr3:=(hg3.block w.heap.size (by omega) (fun e=>by injection e with e;omega)).trans HRR.out
   have c0:=qb hr3 0;have c1:=qb hr3 1;have z0:=frozen_of_row _ _ 0 _ _ hr3;have z1:=frozen_of_row _ _ 1 _ _ hr3;simp at c0 c1
   have HR3:Hid _:=hr3
   have HF:Hid (WholeR n x' w (.returned (.agg #[.slice xa xl xc,.slice ya yl yc])) ((w3.setCell ⟨w.heap.size,0,none⟩ (.slice xa xl xc)).setCell ⟨w.heap.size,1,none⟩ (.slice ya yl yc))):=by
    obtain⟨v0,hv0,_⟩:=HSS.out.c;have hK:KeepT wr.heap.size wr ((w3.setCell ⟨w.heap.size,0,none⟩ (.slice xa xl xc)).setCell ⟨w.heap.size,1,none⟩ (.slice ya yl yc)):=(KeepT.of_grown hg3 hv0 (by decide) (by decide) (by decide)).trans (KeepT.of_grown (qh ..) hr3 (by decide) (by decide) (by decide))
    refine⟨((xa,xl,xc),(ya,yl,yc)),lo,wr.heap.size,rfl,(PartOk.keep HPO.out hK).low (by omega),by omega,?_⟩
    have h1:Below w.heap.size w w3:=HWW.out.trans ⟨hg3.os,hg3.tape,hg3.output,hg3.size,fun k hk=>hg3.block k (by omega) (fun e=>by injection e with e;omega)⟩
    exact(h1.setCell (Nat.le_refl _) _).setCell (Nat.le_refl _) _
   clear hs3 hg3 hr3 htk;go_wp2;have f:=qt HR3.out (.slice xa xl xc) (.slice ya yl yc);refine bodyPost_ret (v:=.agg #[.slice xa xl xc,.slice ya yl yc]) (by simp[results,Tryz.results18,go_sem,f.1,f.2.1]) rfl ?_
   exact HF.out
def EntersM (F:FuncId):Prop:=∀args w,(callFunc F args).run Tryz.prog w=.ok (.enter F args) w
theorem qcE(z:Int)(w:World)(h0:0<=z)(h1:z<256):Calls Tryz.prog 56 #[.int .i64 8,.int .u8 z] w fun e w'=>e=.returned (.bool true)/\w'=w:=by
 have hz:z / 256=0:=by omega
 go_enter Tryz.func56,Tryz.ntmps56
 go_wp2;go_ret
 exact⟨by simp,rfl⟩
theorem q7s(d:Option Addr)(m c:Nat)(zs:List Int)(w:World)(hL:LtSl w d m c zs):
  Calls Tryz.prog 36 #[.int .i64 8,.slice d m c] w fun e w'=>e=.returned (.int .i64 (trE zs))/\Below w.heap.size w w':=by
 have hlen:=hL.sl.hlen;have hb0:=hL.sl.bd;have hb1:=hL.sl.hcap;unfold maxLen at hb0;have HL:Hid (LtSl w d m c zs):=hL;clear hL;by_cases hm:1024<m
 ·have HE:Hid (trE zs=3):=if_pos (by omega)
  have hmi:(1024:Int)<(m:Int):=by omega
  go_enter Tryz.func36,Tryz.ntmps36
  go_wp2;go_ret
  exact⟨by rw[HE.out];rfl,Below.refl _ _⟩
 ·have HE:Hid (trE zs=0):=if_neg (by omega)
  have hmi:¬ (1024:Int)<(m:Int):=by omega
  go_enter Tryz.func36,Tryz.ntmps36
  go_wp2
  go_loopw [15] (fun i wr=>∃k:Nat,k<=m/\i=.int .i64 k/\Hid (Below w.heap.size w wr)) (fun i _=>m - (intOf i).toNat)
  case atStart=>exact⟨0,Nat.zero_le _,rfl,Below.refl _ _⟩
  case round =>
   obtain⟨k,hk,rfl,HW⟩:=hrel;by_cases hlt:k<m
   ·have hLr:=HL.out.up HW.out
    have hi1:=fun w'=>hLr.sl.idx m k w' hlt (Nat.le_refl _)
    have hc1:=hLr.sl.cell k hlt
    have hzz:0<=zs.getD k 0/\zs.getD k 0<256:=by
     have:zs.getD k 0=zs[k]'(by omega):=by simp[List.getD_eq_getElem?_getD,show k<zs.length by omega]
     rw[this];exact hLr.ok _ (List.getElem_mem _)
    have hft:=qcE (zs.getD k 0) wr hzz.1 hzz.2;generalize zs.getD k 0=z at *;clear hLr hzz
    go_wp2_with fail
    refine hft.mono ?_
    rintro e w2 ⟨rfl,rfl⟩
    go_wp2
    go_roundw
    case rel=>exact⟨k+1,by omega,by go_num,HW⟩
    case measure=>simp[intOf] <;> omega
   ·obtain rfl:k=m:=by omega
    go_wp2;go_ret
    exact⟨by rw[HE.out];rfl,HW.out⟩
def refM (ts:List Tk) (want:Nat) (zs:List Int):Int:=if lookE ts want=0 then trE zs else (lookE ts want:Int)
theorem qaq(F:FuncId)(want:Nat)(hE:EntersM F)(hF:∀a len cap ts w,TkSl w a len cap ts->Calls Tryz.prog F #[.slice a len cap] w fun e w'=>e=.returned (.int .i64 (lookE ts want:Int))/\Below w.heap.size w w')
  (a:Option Addr) (len cap:Nat) (ts:List Tk) (d:Option Addr) (m c:Nat) (zs:List Int) (w:World) (hT:TkSl w a len cap ts) (hL:LtSl w d m c zs):
  Calls Tryz.prog 16 #[.slice a len cap,.slice d m c,.func (.func F) #[] #[]] w fun e w'=>e=.returned (.int .i64 (refM ts want zs))/\Below w.heap.size w w':=by
 have h1:=hF a len cap ts w hT;have h2:=fun w' (h:Below w.heap.size w w')=>q7s d m c zs w' (hL.up h)
 unfold EntersM at hE;unfold refM;clear hF hT hL;generalize trE zs=T at *;generalize lookE ts want=E at *;by_cases hz:E=0
 ·subst hz
  go_enter Tryz.func16,Tryz.ntmps16
  go_wp2_with fail
  refine h1.mono ?_
  rintro e w1 ⟨rfl,hb1⟩
  go_wp2_with fail
  refine (h2 w1 hb1).mono ?_
  rintro e w2 ⟨rfl,hb2⟩
  go_wp2;go_ret
  exact⟨rfl,qd hb1 hb2⟩
 ·have hz':¬ (E:Int)=0:=by omega
  rw[if_neg hz];go_enter Tryz.func16,Tryz.ntmps16
  go_wp2_with fail
  refine h1.mono ?_
  rintro e w1 ⟨rfl,hb1⟩
  go_wp2;go_ret
  exact⟨rfl,hb1⟩
theorem q8x:EntersM 17:=fun _ _=>rfl
theorem qeN(ts:List Tk)(want:Nat)(zs:List Int):(refM ts want zs≠0/\(lookE ts want≠0/\refM ts want zs=(lookE ts want:Int)\/lookE ts want=0/\trE zs≠0/\refM ts want zs=trE zs))\/(refM ts want zs=0/\lookE ts want=0/\trE zs=0):=by
 unfold refM;by_cases h:lookE ts want=0
 ·rw[if_pos h]
  by_cases h2:trE zs=0
  ·exact Or.inr ⟨h2,h,h2⟩
  ·exact Or.inl ⟨h2,Or.inr ⟨h,h2,rfl⟩⟩
 ·rw[if_neg h]
  exact Or.inl ⟨by omega,Or.inl ⟨h,rfl⟩⟩
theorem qeY{zs:List Int}(h:trE zs=0):zs.length<=1024:=by
 unfold trE at h
 split at h
 ·cases h
 ·omega
theorem qgk(zs:List Int){ts:List Tk}{want:Nat}(h:lookE ts want=0):∃(v:Sv) (b:Bool),Cl (zN zs) ts v/\Good (zN zs) ts (b,v)/\(want=1->b=false)/\(want=3->b=true)/\InW (zN zs).length (b,v):=by
 obtain⟨v,b,h1,h2,h3,h4,h5,h6,h7⟩:=qh5 (zN zs) h;exact⟨v,b,h1,⟨h6,h7,h2⟩,h3,h4,h5⟩
theorem qf0{n:Nat}{b:Bool}{v:Sv}{w:World}{e:Ending}{w':World}(h:WholeR n (b,v) w e w')(hb:b=false):∃g bs q,e=.returned (.agg #[.slice (some ⟨g,0,none⟩) (n+1) (n+1),slV q])/\ValAt w' g bs/\bs.length=n+1/\(∀i,i<=n->(bs.getD i false=true↔v.1 i))/\w.heap.size<=g/\Below w.heap.size w w':=by
 obtain⟨⟨p,q⟩,lo,hi,rfl,hp,_,hw⟩:=h;obtain⟨g,bs,h1,h2,h3,h4,h5⟩:=hp.2 hb;dsimp only at h1
 subst h1;exact⟨g,bs,q,rfl,h2,h3,h4,h5,hw⟩
theorem qgS{w:World}{g base:Nat}{bs:List Bool}(h:ValAt w g bs)(hb:base<=g)(hl:bs.length<=1000000):w.ownsRow base 4 1 (.slice (some ⟨g,0,none⟩) bs.length bs.length) bs.length (bs.map Value.bool) :=
 ⟨by simp,Or.inr ⟨g,bs.length,_,rfl,hb,h,Nat.le_refl _,by unfold maxLen;omega,by simp,by simp;exact List.take_of_length_le (by simp)⟩⟩
theorem q8M(a:Option Addr)(len cap:Nat)(ts:List Tk)(d:Option Addr)(m c:Nat)(zs:List Int)(w:World)(hT:TkSl w a len cap ts)(hL:LtSl w d m c zs)(h0:lookE ts 1=0)(ht:trE zs=0):Calls Tryz.prog 18 #[.slice a len cap,.slice d m c] w fun e w''=>∃g bs q,e=.returned (.agg #[.slice (some ⟨g,0,none⟩) (m+1) (m+1),slV q])/\ValAt w'' g bs/\bs.length=m+1/\ValB (zN zs) ts bs/\w.heap.size<=g/\Below w.heap.size w w'':=by
 have hm:zs.length=m:=hL.sl.hlen;obtain⟨v,b,hc,hg,hb1,_,_⟩:=qgk zs h0;have hf:=qeY ht;refine (q7z a len cap ts m c d zs (b,v) w hT hL (by omega) hg).mono fun e w'' h=>?_
 obtain⟨g,bs,q,h1,h2,h3,h4,h5,h6⟩:=qf0 h (hb1 rfl);refine⟨g,bs,q,h1,h2,h3,⟨by rw[h3,qz,hm],fun u hu i hi=>?_⟩,h5,h6⟩
 obtain rfl:=hc.same hu
 have:=h4 i (by omega)
 simpa [List.getD_eq_getElem?_getD,hi] using this
theorem qao:AllC 7:=by
 intro a len cap ts d m c zs w hT hL;have hm:zs.length=m:=hL.sl.hlen;have h1:=qaq 17 1 q8x q8v a len cap ts d m c zs w hT hL;have HK:Hid _:=qeN ts 1 zs;have HG:Hid (lookE ts 1=0->trE zs=0->∀w',Below w.heap.size w w'->Calls Tryz.prog 18 #[.slice a len cap,.slice d m c] w' fun e w''=>∃g bs q,e=.returned (.agg #[.slice (some ⟨g,0,none⟩) (m+1) (m+1),slV q])/\ValAt w'' g bs/\bs.length=m+1/\ValB (zN zs) ts bs/\w'.heap.size<=g/\Below w'.heap.size w' w''):=fun h0 ht w' hb=>q8M a len cap ts d m c zs w' (hT.up hb) (hL.up hb) h0 ht
 clear hT hL;unfold AllR;generalize refM ts 1 zs=R at *;rcases HK.out with⟨hr,hk⟩|⟨hr,hk1,hk2⟩
 ·have HKK:Hid _:=hk
  clear HK HG hk;go_enter Tryz.func7,Tryz.ntmps7
  go_wp2_with fail
  refine h1.mono ?_
  rintro e w1 ⟨rfl,hb1⟩
  have HB:Hid _:=hb1;clear h1 hb1;go_wp2;go_ret2
  exact⟨_,R,rfl,HB.out,Or.inl ⟨hr,(by rcases HKK.out with⟨q1,q2⟩|⟨q1,_,q3⟩;exact Or.inl ⟨q1,q2⟩;exact Or.inr ⟨q1,q3⟩),rfl⟩⟩
 ·have h2:=HG.out hk1 hk2
  have HK1:Hid _:=hk1;have HK2:Hid _:=hk2;have Hm:Hid (m<=1024):=by show _<=_;have:=qeY hk2;omega
  subst hr;clear HK HG hk1 hk2;go_enter Tryz.func7,Tryz.ntmps7
  go_wp2_with fail
  refine h1.mono ?_
  rintro e w1 ⟨rfl,hb1⟩
  have h3:=h2 w1 hb1;have HB1:Hid _:=hb1;clear h1 hb1 h2
  go_wp2_with fail
  refine h3.mono ?_
  rintro e w2 ⟨g,bs,q,rfl,hV,hl,hv,hg,hb2⟩
  have hfd:=q1Y (.slice (some ⟨g,0,none⟩) (m+1) (m+1)) (slV q);have HV:Hid _:=hV;have Hl:Hid _:=hl;have Hv:Hid (ValB (zN zs) ts bs):=hv;have Hg:Hid _:=hg;have HB2:Hid _:=hb2;clear hV hl hv hg hb2 h3;go_wp2;go_ret2
  have e1:=Hl.out;have e2:=Hm.out;have e3:=HB1.out.size;have e4:=Hg.out;refine⟨_,0,rfl,qd HB1.out HB2.out,Or.inr ⟨rfl,HK1.out,HK2.out,bs,?_,Hv.out⟩⟩
  have:=qgS (base:=w.heap.size) HV.out (by omega) (by omega)
  rw[<- e1];exact this
end Go.Proofs.YtekeaodpdcnfjaaGreatDoor
