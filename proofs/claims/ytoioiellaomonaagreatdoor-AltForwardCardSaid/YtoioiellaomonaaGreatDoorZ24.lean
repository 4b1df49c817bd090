import Derived.Deep.RegionHeld3
import Derived.Test.YtoioiellaomonaaGreatDoorZ00
import Derived.Test.YtoioiellaomonaaGreatDoorZ03
import Derived.Test.YtoioiellaomonaaGreatDoorZ06
import Derived.Test.YtoioiellaomonaaGreatDoorZ13
import Derived.Test.YtoioiellaomonaaGreatDoorZ15
import Derived.Test.YtoioiellaomonaaGreatDoorZ20
set_option maxRecDepth 100000
set_option maxHeartbeats 16000000
namespace Go.Proofs.YtoioiellaomonaaGreatDoor
open Go.RowKit Go.Maps Proofs.Tryz
theorem Vo(x y:Nat)(b:Bool)(w:World):Calls prog 113 #[.int .u8 x,.int .u8 y,.bool b] w fun e w'=>e=.returned (.int .u8 (tn x y b:Int))/\w=w':=(qN x y b w).mono fun _ _ h=>⟨h.1,h.2.symm⟩
def KC(T:Tr):Prop:=2*wt T<=100000->∀(b:Bool)(u:Value)(w:World),eG w T u->Calls prog 88 #[aK (ak T) u,.bool b] w (dV (kB T b) w)
theorem Am{x y:Nat}(b:Bool)(hx:x<256)(hy:y<256):tn x y b<256:=by cases b;exact hx;exact hy
theorem Ns(op p:Nat)(hop:op<=5)(hw:(Tr.leaf (op,p)).WF):KC (.leaf (op,p)):=by
 intro _ b u w hu;obtain⟨a,c,rfl⟩:=hu
 show Calls prog 88 #[.agg #[.int .u8 op,.int .u8 p,.slice a 0 c],.bool b] w _
 have hb:=qd w (tQ op p a 0 c);have hl:=fun w'=>q9x op p b w' hw
 generalize kB (.leaf (op,p)) b=Y at *;unfold dV at *;have hs:(((op:Int)==0)=true)\/(((op:Int)==0)=false/\((op:Int)==1)=true)\/(((op:Int)==0)=false/\((op:Int)==1)=false/\((op:Int)==4)=true)\/(((op:Int)==0)=false/\((op:Int)==1)=false/\((op:Int)==4)=false/\((op:Int)==5)=true)\/(((op:Int)==0)=false/\((op:Int)==1)=false/\((op:Int)==4)=false/\((op:Int)==5)=false/\((op:Int)==2)=true)\/(((op:Int)==0)=false/\((op:Int)==1)=false/\((op:Int)==4)=false/\((op:Int)==5)=false/\((op:Int)==2)=false/\((op:Int)==3)=true):=by simp only[beq_iff_eq,beq_eq_false_iff_ne];omega
 clear hop;rcases hs with g0|⟨g0,g1⟩|⟨g0,g1,g4⟩|⟨g0,g1,g4,g5⟩|⟨g0,g1,g4,g5,g2⟩|⟨g0,g1,g4,g5,g2,g3⟩
 all_goals
  (unfold tQ at *);go_enter func88,ntmps88
  go_wp2_with fail
  refine (hl _).mono ?_
  rintro e w1 ⟨a1,c1,rfl,t1,b1⟩
  go_wp2;go_ret
  exact⟨a1,c1,rfl,t1,qe hb b1⟩
theorem qbW(c:Tr)(hc:KC c)(hT:(Tr.un (6,0) c).WF):KC (.un (6,0) c):=by
 intro hwt b v w hv;obtain⟨g,cap,u,rfl,hn,hu⟩:=hv;obtain⟨_,hcw,_,_⟩:=qw hT;have hw1:=xB hT;have hlc:=Em hcw;have hcc:=hc (by omega)
 obtain⟨ua,un,uc,rfl⟩:=hu.sl;rw[VW]
 show Calls prog 88 #[.agg #[.int .u8 6,.int .u8 0,.slice (some ⟨g,0,none⟩) 1 cap],.bool b] w _
 have hb:=qd w (tO 6 0 g 1 cap);have hr:=(MapKept.heap_alloc w (tO 6 0 g 1 cap)).1;obtain⟨n0,n1,n2⟩:=hn.up hb;have HU:Hid (eG (w.alloc (tO 6 0 g 1 cap)) c _):=hu.up hb;unfold aK at hcc;have pF:Hid _:=hcc;clear hcc;generalize ak c=rk at *;obtain⟨ro,rp⟩:=rk;dsimp only at n0 n1 pF
 simp only[Nat.reduceAdd]at n1 n2
 have hi0:=fun w'=>qm g 1 cap w' (by omega)
 have HB:=aX hb;have k0:(w.alloc (tO 6 0 g 1 cap)).cell? ⟨w.heap.size,0,none⟩=some (.int .u8 6):=qc hr 0;have k2:(w.alloc (tO 6 0 g 1 cap)).cell? ⟨w.heap.size,2,none⟩=some (.slice (some ⟨g,0,none⟩) 1 cap):=qc hr 2;have hkeep:∀w1 w2:World,(w1.cell? ⟨w.heap.size,0,none⟩=some (.int .u8 6)/\w1.cell? ⟨w.heap.size,2,none⟩=some (.slice (some ⟨g,0,none⟩) 1 cap)/\w1.cell? ⟨g,0,none⟩=some (.int .u8 ro)/\w1.cell? ⟨g,1,none⟩=some (.int .u8 rp)/\w1.cell? ⟨g,2,none⟩=some (.slice ua un uc))->Below w1.heap.size w1 w2->(w2.cell? ⟨w.heap.size,0,none⟩=some (.int .u8 6)/\w2.cell? ⟨w.heap.size,2,none⟩=some (.slice (some ⟨g,0,none⟩) 1 cap)/\w2.cell? ⟨g,0,none⟩=some (.int .u8 ro)/\w2.cell? ⟨g,1,none⟩=some (.int .u8 rp)/\w2.cell? ⟨g,2,none⟩=some (.slice ua un uc)):=fun w1 w2 h hb=>⟨qf h.1 hb,qf h.2.1 hb,qf h.2.2.1 hb,qf h.2.2.2.1 hb,qf h.2.2.2.2 hb⟩
 have ug:Hid ((w.alloc (tO 6 0 g 1 cap)).cell? ⟨w.heap.size,0,none⟩=some (.int .u8 6)/\(w.alloc (tO 6 0 g 1 cap)).cell? ⟨w.heap.size,2,none⟩=some (.slice (some ⟨g,0,none⟩) 1 cap)/\(w.alloc (tO 6 0 g 1 cap)).cell? ⟨g,0,none⟩=some (.int .u8 ro)/\(w.alloc (tO 6 0 g 1 cap)).cell? ⟨g,1,none⟩=some (.int .u8 rp)/\(w.alloc (tO 6 0 g 1 cap)).cell? ⟨g,2,none⟩=some (.slice ua un uc)):=⟨k0,k2,n0,n1,n2⟩;clear hn hu hc hb hr hT;unfold dV;obtain⟨Y,hY⟩:∃Y,Y=kB c (!b):=⟨_,rfl⟩
 rw[<-hY];have HY:=aX hY;clear hY;(unfold tO at *);go_enter func88,ntmps88
 go_wp2_with fail
 generalize w.alloc (.cells #[.int .u8 6,.int .u8 0,.slice (some ⟨g,0,none⟩) 1 cap] 77)=w0 at *;have hq:=pF.out (!b) _ _ HU.out;rw[<-HY.out]at hq;refine hq.mono ?_
 rintro e w1 ⟨a1,c1,rfl,t1,b1⟩
 have HT1:Hid _:=t1;have HB1:Hid _:=qe HB.out b1;clear t1 b1 pF hq;go_wp2;go_ret
 exact⟨a1,c1,rfl,HT1.out,HB1.out⟩
theorem vq(op x y:Nat)(xi yi:Int)(hop:op=7/\x=7/\y=8/\xi=7/\yi=8\/op=8/\x=8/\y=7/\xi=8/\yi=7)(c:Tr)(hc:KC c)(hT:(Tr.un (op,0) c).WF):KC (.un (op,0) c):=by
 intro hwt b v w hv;obtain⟨g,cap,u,rfl,hn,hu⟩:=hv;obtain⟨_,hcw,_,_⟩:=qw hT;have hw1:=xB hT;have hlc:=Em hcw;have hcc:=hc (by omega)
 obtain⟨ua,un,uc,rfl⟩:=hu.sl
 have hkB:kB (.un (op,0) c) b=kB c b++[]++[(tn x y b,0)]:=by
  rcases hop with⟨rfl,rfl,rfl,_⟩|⟨rfl,rfl,rfl,_⟩
  ·exact VX c b
  ·exact VY c b
 rw[hkB];clear hkB
 have htt:∀w',Calls prog 113 #[.int .u8 xi,.int .u8 yi,.bool b] w' fun e w''=>e=.returned (.int .u8 (tn x y b:Int))/\w'=w'':=fun w'=>by
  rcases hop with⟨_,rfl,rfl,rfl,rfl⟩|⟨_,rfl,rfl,rfl,rfl⟩
  all_goals exact Vo _ _ b w'
 have htl:tn x y b<256:=Am b (by omega) (by omega)
 show Calls prog 88 #[.agg #[.int .u8 op,.int .u8 0,.slice (some ⟨g,0,none⟩) 1 cap],.bool b] w _
 have hb:=qd w (tO op 0 g 1 cap);have hr:=(MapKept.heap_alloc w (tO op 0 g 1 cap)).1;obtain⟨n0,n1,n2⟩:=hn.up hb;have HU:Hid (eG (w.alloc (tO op 0 g 1 cap)) c _):=hu.up hb;unfold aK at hcc;have pF:Hid _:=hcc;clear hcc;generalize ak c=rk at *;obtain⟨ro,rp⟩:=rk;dsimp only at n0 n1 pF
 simp only[Nat.reduceAdd]at n1 n2
 have hi0:=fun w'=>qm g 1 cap w' (by omega)
 have HB:=aX hb;have k0:(w.alloc (tO op 0 g 1 cap)).cell? ⟨w.heap.size,0,none⟩=some (.int .u8 op):=qc hr 0;have k2:(w.alloc (tO op 0 g 1 cap)).cell? ⟨w.heap.size,2,none⟩=some (.slice (some ⟨g,0,none⟩) 1 cap):=qc hr 2;have hkeep:∀w1 w2:World,(w1.cell? ⟨w.heap.size,0,none⟩=some (.int .u8 op)/\w1.cell? ⟨w.heap.size,2,none⟩=some (.slice (some ⟨g,0,none⟩) 1 cap)/\w1.cell? ⟨g,0,none⟩=some (.int .u8 ro)/\w1.cell? ⟨g,1,none⟩=some (.int .u8 rp)/\w1.cell? ⟨g,2,none⟩=some (.slice ua un uc))->Below w1.heap.size w1 w2->(w2.cell? ⟨w.heap.size,0,none⟩=some (.int .u8 op)/\w2.cell? ⟨w.heap.size,2,none⟩=some (.slice (some ⟨g,0,none⟩) 1 cap)/\w2.cell? ⟨g,0,none⟩=some (.int .u8 ro)/\w2.cell? ⟨g,1,none⟩=some (.int .u8 rp)/\w2.cell? ⟨g,2,none⟩=some (.slice ua un uc)):=fun w1 w2 h hb=>⟨qf h.1 hb,qf h.2.1 hb,qf h.2.2.1 hb,qf h.2.2.2.1 hb,qf h.2.2.2.2 hb⟩
 have ug:Hid ((w.alloc (tO op 0 g 1 cap)).cell? ⟨w.heap.size,0,none⟩=some (.int .u8 op)/\(w.alloc (tO op 0 g 1 cap)).cell? ⟨w.heap.size,2,none⟩=some (.slice (some ⟨g,0,none⟩) 1 cap)/\(w.alloc (tO op 0 g 1 cap)).cell? ⟨g,0,none⟩=some (.int .u8 ro)/\(w.alloc (tO op 0 g 1 cap)).cell? ⟨g,1,none⟩=some (.int .u8 rp)/\(w.alloc (tO op 0 g 1 cap)).cell? ⟨g,2,none⟩=some (.slice ua un uc)):=⟨k0,k2,n0,n1,n2⟩;clear hn hu hc hb hr hT;unfold dV;obtain⟨Y,hY⟩:∃Y,Y=kB c b++[]++[(tn x y b,0)]:=⟨_,rfl⟩
 rw[<-hY];have HY:=aX hY;clear hY;have n0:=aP op 0 (by omega)
 have n1:=aP op 1 (by omega)
 have n4:=aP op 4 (by omega)
 have n5:=aP op 5 (by omega)
 have n2:=aP op 2 (by omega)
 have n3:=aP op 3 (by omega)
 have n6:=aP op 6 (by omega)
 have hs:(((op:Int)==7)=true/\xi=7/\yi=8)\/(((op:Int)==7)=false/\((op:Int)==8)=true/\xi=8/\yi=7):=by simp only[beq_iff_eq,beq_eq_false_iff_ne];omega
 clear hop;rcases hs with⟨g7,rfl,rfl⟩|⟨g7,g8,rfl,rfl⟩
 all_goals
  (unfold tO at *);go_enter func88,ntmps88
  go_wp2_with fail
  generalize w.alloc (.cells #[.int .u8 op,.int .u8 0,.slice (some ⟨g,0,none⟩) 1 cap] 77)=w0 at *;refine (pF.out b _ _ HU.out).mono ?_
  rintro e w1 ⟨a1,c1,rfl,t1,b1⟩
  have HB1:Hid _:=qe HB.out b1;have hlb:=hlc b;have ho:=ot a1 _ c1 (kB c b) (tn x y b) w1 t1 htl (by omega)
  have htu:=htt w1;rw[<-HY.out]at ho;generalize kB c b=X at *;generalize tn x y b=z at *;clear t1 b1 pF ug hlb hlc;unfold dV at ho
  go_wp2_with fail
  refine htu.mono ?_
  rintro e w' ⟨rfl,rfl⟩
  go_wp2_with fail
  refine ho.mono ?_
  rintro e w2 ⟨a2,c2,rfl,t2,b2⟩
  have HT2:Hid _:=t2;have HB2:Hid _:=qe HB1.out b2;clear t2 b2 ho;go_wp2;go_ret
  exact⟨a2,c2,rfl,HT2.out,HB2.out⟩
theorem q3z(op:Nat)(hop:op=19\/op=20\/op=23)(c:Tr)(hc:KC c)(hT:(Tr.un (op,0) c).WF):KC (.un (op,0) c):=by
 intro hwt b v w hv;obtain⟨g,cap,u,rfl,hn,hu⟩:=hv;obtain⟨_,hcw,_,_⟩:=qw hT;have hw1:=xB hT;have hlc:=Em hcw;have hcc:=hc (by omega)
 obtain⟨ua,un,uc,rfl⟩:=hu.sl
 have hkB:kB (.un (op,0) c) b=kB c false++[]++[(op,0)]:=by
  rcases hop with rfl|rfl|rfl
  ·exact NU c b
  ·exact NV c b
  ·exact NW c b
 rw[hkB];clear hkB;have hol:op<256:=by omega
 show Calls prog 88 #[.agg #[.int .u8 op,.int .u8 0,.slice (some ⟨g,0,none⟩) 1 cap],.bool b] w _
 have hb:=qd w (tO op 0 g 1 cap);have hr:=(MapKept.heap_alloc w (tO op 0 g 1 cap)).1;obtain⟨n0,n1,n2⟩:=hn.up hb;have HU:Hid (eG (w.alloc (tO op 0 g 1 cap)) c _):=hu.up hb;unfold aK at hcc;have pF:Hid _:=hcc;clear hcc;generalize ak c=rk at *;obtain⟨ro,rp⟩:=rk;dsimp only at n0 n1 pF
 simp only[Nat.reduceAdd]at n1 n2
 have hi0:=fun w'=>qm g 1 cap w' (by omega)
 have HB:=aX hb;have k0:(w.alloc (tO op 0 g 1 cap)).cell? ⟨w.heap.size,0,none⟩=some (.int .u8 op):=qc hr 0;have k2:(w.alloc (tO op 0 g 1 cap)).cell? ⟨w.heap.size,2,none⟩=some (.slice (some ⟨g,0,none⟩) 1 cap):=qc hr 2;have hkeep:∀w1 w2:World,(w1.cell? ⟨w.heap.size,0,none⟩=some (.int .u8 op)/\w1.cell? ⟨w.heap.size,2,none⟩=some (.slice (some ⟨g,0,none⟩) 1 cap)/\w1.cell? ⟨g,0,none⟩=some (.int .u8 ro)/\w1.cell? ⟨g,1,none⟩=some (.int .u8 rp)/\w1.cell? ⟨g,2,none⟩=some (.slice ua un uc))->Below w1.heap.size w1 w2->(w2.cell? ⟨w.heap.size,0,none⟩=some (.int .u8 op)/\w2.cell? ⟨w.heap.size,2,none⟩=some (.slice (some ⟨g,0,none⟩) 1 cap)/\w2.cell? ⟨g,0,none⟩=some (.int .u8 ro)/\w2.cell? ⟨g,1,none⟩=some (.int .u8 rp)/\w2.cell? ⟨g,2,none⟩=some (.slice ua un uc)):=fun w1 w2 h hb=>⟨qf h.1 hb,qf h.2.1 hb,qf h.2.2.1 hb,qf h.2.2.2.1 hb,qf h.2.2.2.2 hb⟩
 have ug:Hid ((w.alloc (tO op 0 g 1 cap)).cell? ⟨w.heap.size,0,none⟩=some (.int .u8 op)/\(w.alloc (tO op 0 g 1 cap)).cell? ⟨w.heap.size,2,none⟩=some (.slice (some ⟨g,0,none⟩) 1 cap)/\(w.alloc (tO op 0 g 1 cap)).cell? ⟨g,0,none⟩=some (.int .u8 ro)/\(w.alloc (tO op 0 g 1 cap)).cell? ⟨g,1,none⟩=some (.int .u8 rp)/\(w.alloc (tO op 0 g 1 cap)).cell? ⟨g,2,none⟩=some (.slice ua un uc)):=⟨k0,k2,n0,n1,n2⟩;clear hn hu hc hb hr hT;unfold dV;obtain⟨Y,hY⟩:∃Y,Y=kB c false++[]++[(op,0)]:=⟨_,rfl⟩
 rw[<-hY];have HY:=aX hY;clear hY;have n0:=aP op 0 (by omega)
 have n1:=aP op 1 (by omega)
 have n4:=aP op 4 (by omega)
 have n5:=aP op 5 (by omega)
 have n2:=aP op 2 (by omega)
 have n3:=aP op 3 (by omega)
 have n6:=aP op 6 (by omega)
 have n7:=aP op 7 (by omega)
 have n8:=aP op 8 (by omega)
 have n9:=aP op 9 (by omega)
 have n10:=aP op 10 (by omega)
 have n11:=aP op 11 (by omega)
 have n12:=aP op 12 (by omega)
 have n13:=aP op 13 (by omega)
 have n14:=aP op 14 (by omega)
 have n15:=aP op 15 (by omega)
 have n16:=aP op 16 (by omega)
 have n17:=aP op 17 (by omega)
 have n18:=aP op 18 (by omega)
 have hs:(((op:Int)==19)=true)\/(((op:Int)==19)=false/\((op:Int)==20)=true)\/(((op:Int)==19)=false/\((op:Int)==20)=false/\((op:Int)==23)=true):=by simp only[beq_iff_eq,beq_eq_false_iff_ne];omega
 clear hop;rcases hs with g19|⟨g19,g20⟩|⟨g19,g20,g23⟩
 all_goals
  (unfold tO at *);go_enter func88,ntmps88
  go_wp2;generalize w.alloc (.cells #[.int .u8 op,.int .u8 0,.slice (some ⟨g,0,none⟩) 1 cap] 77)=w0 at *;have hD:Below w0.heap.size w0 w0.drew:=(Below.refl _ _).drew;have hk0:=hkeep _ _ ug.out hD;have hq1:=pF.out false _ _ (eG.up hD HU.out);have hlb:=hlc false;have HO:Hid (∀w1 a1 c1,bG w1 a1 (kB c false).length c1 (kB c false)->Calls prog 112 #[.slice a1 (kB c false).length c1,.int .u8 op] w1 (dV Y w1)):=fun w1 a1 c1 t1=>by rw[HY.out];exact ot a1 _ c1 (kB c false) op w1 t1 hol (by omega)
  unfold dV at HO hq1;generalize kB c false=X at *;clear pF HU ug hlc hlb
  go_region_held3 (fun w'=>w'.cell? ⟨w.heap.size,0,none⟩=some (.int .u8 op)/\w'.cell? ⟨w.heap.size,2,none⟩=some (.slice (some ⟨g,0,none⟩) 1 cap)/\w'.cell? ⟨g,0,none⟩=some (.int .u8 ro)/\w'.cell? ⟨g,1,none⟩=some (.int .u8 rp)/\w'.cell? ⟨g,2,none⟩=some (.slice ua un uc)) (first|exact hk0|exact s1|exact s2|fail) (first
   | (go_at_call 88;(with_reducible refine hq1.mono ?_);rintro e w1 ⟨a1,c1,rfl,t1,b1⟩;have s1:=hkeep _ _ hk0 b1;have ho:=HO.out w1 a1 c1 t1)
   | (go_at_call 112;(with_reducible refine ho.mono ?_);rintro e w2 ⟨a2,c2,rfl,t2,b2⟩;have s2:=hkeep _ _ s1 b2)
   |fail)
  all_goals
   have HT2:Hid _:=t2;have HB2:Hid _:=qe (qe (qe HB.out hD) b1) b2;clear s1 s2 t1 t2 b1 b2 ho hq1 hk0;go_wp2;go_ret
   exact⟨a2,c2,rfl,HT2.out,HB2.out⟩
theorem vr(op x y x2 y2:Nat)(xi yi xj yj:Int)(hop:op=9/\x=0/\y=1/\x2=15/\y2=16/\xi=0/\yi=1/\xj=15/\yj=16\/op=10/\x=1/\y=0/\x2=16/\y2=15/\xi=1/\yi=0/\xj=16/\yj=15)(c:Tr)(hc:KC c)(hT:(Tr.un (op,0) c).WF):KC (.un (op,0) c):=by
 intro hwt b v w hv;obtain⟨g,cap,u,rfl,hn,hu⟩:=hv;obtain⟨_,hcw,_,_⟩:=qw hT;have hw1:=xB hT;have hlc:=Em hcw;have hcc:=hc (by omega)
 obtain⟨ua,un,uc,rfl⟩:=hu.sl
 have hkB:kB (.un (op,0) c) b=[(tn x y b,0)]++kB c b++[(tn x2 y2 b,0)]:=by
  rcases hop with⟨rfl,rfl,rfl,rfl,rfl,_⟩|⟨rfl,rfl,rfl,rfl,rfl,_⟩
  ·exact VZ c b
  ·exact NT c b
 rw[hkB];clear hkB
 have htt:∀w',Calls prog 113 #[.int .u8 xi,.int .u8 yi,.bool b] w' fun e w''=>e=.returned (.int .u8 (tn x y b:Int))/\w'=w'':=fun w'=>by
  rcases hop with⟨_,rfl,rfl,rfl,rfl,rfl,rfl,rfl,rfl⟩|⟨_,rfl,rfl,rfl,rfl,rfl,rfl,rfl,rfl⟩
  all_goals exact Vo _ _ b w'
 have hts:∀w',Calls prog 113 #[.int .u8 xj,.int .u8 yj,.bool b] w' fun e w''=>e=.returned (.int .u8 (tn x2 y2 b:Int))/\w'=w'':=fun w'=>by
  rcases hop with⟨_,rfl,rfl,rfl,rfl,rfl,rfl,rfl,rfl⟩|⟨_,rfl,rfl,rfl,rfl,rfl,rfl,rfl,rfl⟩
  all_goals exact Vo _ _ b w'
 have hz1:tn x y b<256:=Am b (by omega) (by omega)
 have hz2:tn x2 y2 b<256:=Am b (by omega) (by omega)
 show Calls prog 88 #[.agg #[.int .u8 op,.int .u8 0,.slice (some ⟨g,0,none⟩) 1 cap],.bool b] w _
 have hb:=qd w (tO op 0 g 1 cap);have hr:=(MapKept.heap_alloc w (tO op 0 g 1 cap)).1;obtain⟨n0,n1,n2⟩:=hn.up hb;have HU:Hid (eG (w.alloc (tO op 0 g 1 cap)) c _):=hu.up hb;unfold aK at hcc;have pF:Hid _:=hcc;clear hcc;generalize ak c=rk at *;obtain⟨ro,rp⟩:=rk;dsimp only at n0 n1 pF
 simp only[Nat.reduceAdd]at n1 n2
 have hi0:=fun w'=>qm g 1 cap w' (by omega)
 have HB:=aX hb;have k0:(w.alloc (tO op 0 g 1 cap)).cell? ⟨w.heap.size,0,none⟩=some (.int .u8 op):=qc hr 0;have k2:(w.alloc (tO op 0 g 1 cap)).cell? ⟨w.heap.size,2,none⟩=some (.slice (some ⟨g,0,none⟩) 1 cap):=qc hr 2;have hkeep:∀w1 w2:World,(w1.cell? ⟨w.heap.size,0,none⟩=some (.int .u8 op)/\w1.cell? ⟨w.heap.size,2,none⟩=some (.slice (some ⟨g,0,none⟩) 1 cap)/\w1.cell? ⟨g,0,none⟩=some (.int .u8 ro)/\w1.cell? ⟨g,1,none⟩=some (.int .u8 rp)/\w1.cell? ⟨g,2,none⟩=some (.slice ua un uc))->Below w1.heap.size w1 w2->(w2.cell? ⟨w.heap.size,0,none⟩=some (.int .u8 op)/\w2.cell? ⟨w.heap.size,2,none⟩=some (.slice (some ⟨g,0,none⟩) 1 cap)/\w2.cell? ⟨g,0,none⟩=some (.int .u8 ro)/\w2.cell? ⟨g,1,none⟩=some (.int .u8 rp)/\w2.cell? ⟨g,2,none⟩=some (.slice ua un uc)):=fun w1 w2 h hb=>⟨qf h.1 hb,qf h.2.1 hb,qf h.2.2.1 hb,qf h.2.2.2.1 hb,qf h.2.2.2.2 hb⟩
 have ug:Hid ((w.alloc (tO op 0 g 1 cap)).cell? ⟨w.heap.size,0,none⟩=some (.int .u8 op)/\(w.alloc (tO op 0 g 1 cap)).cell? ⟨w.heap.size,2,none⟩=some (.slice (some ⟨g,0,none⟩) 1 cap)/\(w.alloc (tO op 0 g 1 cap)).cell? ⟨g,0,none⟩=some (.int .u8 ro)/\(w.alloc (tO op 0 g 1 cap)).cell? ⟨g,1,none⟩=some (.int .u8 rp)/\(w.alloc (tO op 0 g 1 cap)).cell? ⟨g,2,none⟩=some (.slice ua un uc)):=⟨k0,k2,n0,n1,n2⟩;clear hn hu hc hb hr hT;unfold dV;obtain⟨Y,hY⟩:∃Y,Y=[(tn x y b,0)]++kB c b++[(tn x2 y2 b,0)]:=⟨_,rfl⟩
 rw[<-hY];have HY:=aX hY;clear hY;have n0:=aP op 0 (by omega)
 have n1:=aP op 1 (by omega)
 have n4:=aP op 4 (by omega)
 have n5:=aP op 5 (by omega)
 have n2:=aP op 2 (by omega)
 have n3:=aP op 3 (by omega)
 have n6:=aP op 6 (by omega)
 have n7:=aP op 7 (by omega)
 have n8:=aP op 8 (by omega)
 have hs:(((op:Int)==9)=true/\xi=0/\yi=1/\xj=15/\yj=16)\/(((op:Int)==9)=false/\((op:Int)==10)=true/\xi=1/\yi=0/\xj=16/\yj=15):=by simp only[beq_iff_eq,beq_eq_false_iff_ne];omega
 clear hop;rcases hs with⟨g9,rfl,rfl,rfl,rfl⟩|⟨g9,g10,rfl,rfl,rfl,rfl⟩
 all_goals
  (unfold tO at *);go_enter func88,ntmps88
  go_wp2;generalize w.alloc (.cells #[.int .u8 op,.int .u8 0,.slice (some ⟨g,0,none⟩) 1 cap] 77)=w0 at *;have hD:Below w0.heap.size w0 w0.drew:=(Below.refl _ _).drew;have hk0:=hkeep _ _ ug.out hD;have htu:=htt w0.drew;have Bq:=fun w'=>hts w'
  have hto:=qH (tn x y b) w0.drew;have hlb:=hlc b;have HQ:Hid (∀w1,Below w0.drew.heap.size w0.drew w1->Calls prog 88 _ w1 (dV (kB c b) w1)):=fun w1 h1=>pF.out b _ _ (eG.up (qe hD h1) HU.out)
  have HO:Hid (∀w1 a1 c1 a2 c2,bG w1 a1 1 c1 [(tn x y b,0)]->bG w1 a2 (kB c b).length c2 (kB c b)->Calls prog 114 #[.slice a1 1 c1,.slice a2 (kB c b).length c2,.int .u8 (tn x2 y2 b:Int)] w1 (dV Y w1)):=fun w1 a1 c1 a2 c2 t1 t2=>by rw[HY.out];exact JV a1 1 c1 _ a2 _ c2 (kB c b) (tn x2 y2 b) w1 t1 t2 hz2 (by omega) (by omega)
  unfold dV at HO HQ;generalize kB c b=X at *;generalize tn x y b=z1 at *;generalize tn x2 y2 b=z2 at *;clear pF HU ug hlc hlb
  go_region_held3 (fun w'=>w'.cell? ⟨w.heap.size,0,none⟩=some (.int .u8 op)/\w'.cell? ⟨w.heap.size,2,none⟩=some (.slice (some ⟨g,0,none⟩) 1 cap)/\w'.cell? ⟨g,0,none⟩=some (.int .u8 ro)/\w'.cell? ⟨g,1,none⟩=some (.int .u8 rp)/\w'.cell? ⟨g,2,none⟩=some (.slice ua un uc)) (first|exact hk0|exact s1|exact s2|exact s3|exact hkeep _ _ s1 (qd _ _)|exact hkeep _ _ s2 (qd _ _)|fail) (first
   | (go_at_call 113;(with_reducible refine htu.mono ?_);rintro e w' ⟨rfl,rfl⟩)
   | (go_at_call 115;(with_reducible refine hto.mono ?_);rintro e w1 ⟨rfl,b1⟩;have s1:=hkeep _ _ hk0 b1;have vu:=HQ.out w1 b1;have vv:=HQ.out (w1.alloc (.cells #[.int .u8 z1,.int .u8 0] 42)) (qe b1 (qd _ _)))
   | (go_at_call 88;(with_reducible refine vu.mono ?_);rintro e w2 ⟨a2,c2,rfl,t2,b2⟩;have s2:=hkeep _ _ s1 b2;have ho:=HO.out (w2.alloc (.cells #[.int .u8 z1,.int .u8 0] 42)) _ _ _ _ (Ur (Az.new w2 42 z1 0) hz1 (by decide)) (t2.up (qd _ _));have hbz:=qe (qe b1 b2) (qd w2 (.cells #[.int .u8 z1,.int .u8 0] 42));have htw:=Bq w2;have htx:=Bq (w2.alloc (.cells #[.int .u8 z1,.int .u8 0] 42)))
   | (go_at_call 88;(with_reducible refine vv.mono ?_);rintro e w2 ⟨a2,c2,rfl,t2,b2⟩;have s2:=hkeep _ _ s1 (qe (qd w1 (.cells #[.int .u8 z1,.int .u8 0] 42)) b2);have ho:=HO.out w2 _ _ _ _ ((Ur (Az.new w1 42 z1 0) hz1 (by decide)).up b2) t2;have hbz:=qe (qe b1 (qd w1 (.cells #[.int .u8 z1,.int .u8 0] 42))) b2;have htw:=Bq w2;have htx:=Bq (w2.alloc (.cells #[.int .u8 z1,.int .u8 0] 42)))
   | (go_at_call 113;(with_reducible refine htw.mono ?_);rintro e w' ⟨rfl,rfl⟩)
   | (go_at_call 113;(with_reducible refine htx.mono ?_);rintro e w' ⟨rfl,rfl⟩)
   | (go_at_call 114;(with_reducible refine ho.mono ?_);rintro e w3 ⟨a3,c3,rfl,t3,b3⟩;have hbf:=qe hbz b3;have s3:=hkeep _ _ hk0 hbf)
   |fail)
  all_goals
   have HT3:Hid _:=t3;have HB3:Hid _:=qe (qe HB.out hD) hbf;clear s1 s2 s3 t2 t3 b1 b2 b3 ho hbz hbf htw htx vu vv hk0;go_wp2;go_ret
   exact⟨a3,c3,rfl,HT3.out,HB3.out⟩
theorem KZ(op x y pf:Nat)(xi yi:Int)(hop:op=11/\x=11/\y=12/\xi=11/\yi=12/\pf=0\/op=12/\x=12/\y=11/\xi=12/\yi=11/\pf=0\/op=13/\x=12/\y=11/\xi=12/\yi=11/\pf=1\/op=15/\x=15/\y=16/\xi=15/\yi=16/\pf=0\/op=16/\x=16/\y=15/\xi=16/\yi=15/\pf=0\/op=17/\x=17/\y=18/\xi=17/\yi=18/\pf=2\/op=18/\x=18/\y=17/\xi=18/\yi=17/\pf=2)(c d:Tr)(hc:KC c)(hd:KC d)(hT:(Tr.bin (op,0) c d).WF):KC (.bin (op,0) c d):=by
 intro hwt b v w hv;obtain⟨g,cap,u,u',rfl,hn,hn',hu,hu'⟩:=hv;obtain⟨_,hcw,hdw,_,_⟩:=qt hT;have hw1:=TQ hT;have hlc:=Em hcw;have hld:=Em hdw;have hcc:=hc (by omega)
 have hdd:=hd (by omega)
 obtain⟨ua,un,uc,rfl⟩:=hu.sl;obtain⟨va,vn,vc,rfl⟩:=hu'.sl
 obtain⟨pb,hpb⟩:∃pb:Bool,pf=0/\pb=b\/pf=1/\pb=!b\/pf=2/\pb=false:=by
  have hf:pf=0\/pf=1\/pf=2:=by omega
  rcases hf with h|h|h
  ·exact⟨b,.inl ⟨h,rfl⟩⟩
  ·exact⟨!b,.inr (.inl ⟨h,rfl⟩)⟩
  ·exact⟨false,.inr (.inr ⟨h,rfl⟩)⟩
 have hkB:kB (.bin (op,0) c d) b=kB c pb++kB d b++[(tn x y b,0)]:=by
  rcases hop with⟨rfl,rfl,rfl,_,_,rfl⟩|⟨rfl,rfl,rfl,_,_,rfl⟩|⟨rfl,rfl,rfl,_,_,rfl⟩|⟨rfl,rfl,rfl,_,_,rfl⟩|⟨rfl,rfl,rfl,_,_,rfl⟩|⟨rfl,rfl,rfl,_,_,rfl⟩|⟨rfl,rfl,rfl,_,_,rfl⟩
  all_goals
   rcases hpb with⟨h,rfl⟩|⟨h,rfl⟩|⟨h,rfl⟩
   all_goals first|exact absurd h (by decide)|exact NY c d _|exact NZ c d _|exact N7 c d _|exact N9 c d _|exact Oa c d _|exact Ob c d _|exact Oc c d _
 rw[hkB];clear hkB
 have Bq:∀w',Calls prog 113 #[.int .u8 xi,.int .u8 yi,.bool b] w' fun e w''=>e=.returned (.int .u8 (tn x y b:Int))/\w'=w'':=fun w'=>by
  rcases hop with⟨_,rfl,rfl,rfl,rfl,_⟩|⟨_,rfl,rfl,rfl,rfl,_⟩|⟨_,rfl,rfl,rfl,rfl,_⟩|⟨_,rfl,rfl,rfl,rfl,_⟩|⟨_,rfl,rfl,rfl,rfl,_⟩|⟨_,rfl,rfl,rfl,rfl,_⟩|⟨_,rfl,rfl,rfl,rfl,_⟩
  all_goals exact Vo _ _ b w'
 have hz2:tn x y b<256:=Am b (by omega) (by omega)
 show Calls prog 88 #[.agg #[.int .u8 op,.int .u8 0,.slice (some ⟨g,0,none⟩) 2 cap],.bool b] w _
 have hb:=qd w (tO op 0 g 2 cap);have hr:=(MapKept.heap_alloc w (tO op 0 g 2 cap)).1;obtain⟨n0,n1,n2⟩:=hn.up hb;obtain⟨m0,m1,m2⟩:=hn'.up hb;have HU:Hid (eG (w.alloc (tO op 0 g 2 cap)) c _):=hu.up hb;have Gz:Hid (eG (w.alloc (tO op 0 g 2 cap)) d _):=hu'.up hb;unfold aK at hcc hdd;have pF:Hid _:=hcc;have yP:Hid _:=hdd;clear hcc hdd;generalize ak c=rk at *;obtain⟨ro,rp⟩:=rk;generalize ak d=rd at *;obtain⟨so,sp⟩:=rd;dsimp only at n0 n1 m0 m1 pF yP
 simp only[Nat.reduceAdd]at n1 n2 m1 m2
 have hi0:=fun w'=>qm g 2 cap w' (by omega)
 have hi1:=fun w'=>qE g 2 cap w' (by omega)
 have HB:=aX hb;have k0:(w.alloc (tO op 0 g 2 cap)).cell? ⟨w.heap.size,0,none⟩=some (.int .u8 op):=qc hr 0;have k2:(w.alloc (tO op 0 g 2 cap)).cell? ⟨w.heap.size,2,none⟩=some (.slice (some ⟨g,0,none⟩) 2 cap):=qc hr 2;have hkeep:∀w1 w2:World,(w1.cell? ⟨w.heap.size,0,none⟩=some (.int .u8 op)/\w1.cell? ⟨w.heap.size,2,none⟩=some (.slice (some ⟨g,0,none⟩) 2 cap)/\w1.cell? ⟨g,0,none⟩=some (.int .u8 ro)/\w1.cell? ⟨g,1,none⟩=some (.int .u8 rp)/\w1.cell? ⟨g,2,none⟩=some (.slice ua un uc)/\w1.cell? ⟨g,3,none⟩=some (.int .u8 so)/\w1.cell? ⟨g,4,none⟩=some (.int .u8 sp)/\w1.cell? ⟨g,5,none⟩=some (.slice va vn vc))->Below w1.heap.size w1 w2->(w2.cell? ⟨w.heap.size,0,none⟩=some (.int .u8 op)/\w2.cell? ⟨w.heap.size,2,none⟩=some (.slice (some ⟨g,0,none⟩) 2 cap)/\w2.cell? ⟨g,0,none⟩=some (.int .u8 ro)/\w2.cell? ⟨g,1,none⟩=some (.int .u8 rp)/\w2.cell? ⟨g,2,none⟩=some (.slice ua un uc)/\w2.cell? ⟨g,3,none⟩=some (.int .u8 so)/\w2.cell? ⟨g,4,none⟩=some (.int .u8 sp)/\w2.cell? ⟨g,5,none⟩=some (.slice va vn vc)):=fun w1 w2 h hb=>⟨qf h.1 hb,qf h.2.1 hb,qf h.2.2.1 hb,qf h.2.2.2.1 hb,qf h.2.2.2.2.1 hb,qf h.2.2.2.2.2.1 hb,qf h.2.2.2.2.2.2.1 hb,qf h.2.2.2.2.2.2.2 hb⟩
 have ug:Hid ((w.alloc (tO op 0 g 2 cap)).cell? ⟨w.heap.size,0,none⟩=some (.int .u8 op)/\(w.alloc (tO op 0 g 2 cap)).cell? ⟨w.heap.size,2,none⟩=some (.slice (some ⟨g,0,none⟩) 2 cap)/\(w.alloc (tO op 0 g 2 cap)).cell? ⟨g,0,none⟩=some (.int .u8 ro)/\(w.alloc (tO op 0 g 2 cap)).cell? ⟨g,1,none⟩=some (.int .u8 rp)/\(w.alloc (tO op 0 g 2 cap)).cell? ⟨g,2,none⟩=some (.slice ua un uc)/\(w.alloc (tO op 0 g 2 cap)).cell? ⟨g,3,none⟩=some (.int .u8 so)/\(w.alloc (tO op 0 g 2 cap)).cell? ⟨g,4,none⟩=some (.int .u8 sp)/\(w.alloc (tO op 0 g 2 cap)).cell? ⟨g,5,none⟩=some (.slice va vn vc)):=⟨k0,k2,n0,n1,n2,m0,m1,m2⟩;clear hn hu hc hb hr hT hn' hu' hd;unfold dV;obtain⟨Y,hY⟩:∃Y,Y=kB c pb++kB d b++[(tn x y b,0)]:=⟨_,rfl⟩
 rw[<-hY];have HY:=aX hY;clear hY;have Z9:Hid _:=pF.out pb;have ae:Hid _:=yP.out b;have hlb:=hlc pb;have La:=hld b;have HO:Hid (∀w1 a1 c1 a2 c2,bG w1 a1 (kB c pb).length c1 (kB c pb)->bG w1 a2 (kB d b).length c2 (kB d b)->Calls prog 114 #[.slice a1 (kB c pb).length c1,.slice a2 (kB d b).length c2,.int .u8 (tn x y b:Int)] w1 (dV Y w1)):=fun w1 a1 c1 a2 c2 t1 t2=>by rw[HY.out];exact JV a1 _ c1 (kB c pb) a2 _ c2 (kB d b) (tn x y b) w1 t1 t2 hz2 (by omega) (by omega)
 unfold dV at HO Z9 ae;generalize kB c pb=X1 at *;generalize kB d b=X2 at *;generalize tn x y b=z2 at *;clear pF yP hlc hld hlb La HY;have n0:=aP op 0 (by omega)
 have n1:=aP op 1 (by omega)
 have n4:=aP op 4 (by omega)
 have n5:=aP op 5 (by omega)
 have n2:=aP op 2 (by omega)
 have n3:=aP op 3 (by omega)
 have n6:=aP op 6 (by omega)
 have n7:=aP op 7 (by omega)
 have n8:=aP op 8 (by omega)
 have n9:=aP op 9 (by omega)
 have n10:=aP op 10 (by omega)
 have n14:=aP op 14 (by omega)
 have hs:(((op:Int)==11)=true/\xi=11/\yi=12/\pb=b)\/(((op:Int)==11)=false/\((op:Int)==12)=true/\xi=12/\yi=11/\pb=b)\/(((op:Int)==11)=false/\((op:Int)==12)=false/\((op:Int)==13)=true/\xi=12/\yi=11/\pb=!b)\/(((op:Int)==11)=false/\((op:Int)==12)=false/\((op:Int)==13)=false/\((op:Int)==15)=true/\xi=15/\yi=16/\pb=b)\/(((op:Int)==11)=false/\((op:Int)==12)=false/\((op:Int)==13)=false/\((op:Int)==15)=false/\((op:Int)==16)=true/\xi=16/\yi=15/\pb=b)\/(((op:Int)==11)=false/\((op:Int)==12)=false/\((op:Int)==13)=false/\((op:Int)==15)=false/\((op:Int)==16)=false/\((op:Int)==17)=true/\xi=17/\yi=18/\pb=false)\/(((op:Int)==11)=false/\((op:Int)==12)=false/\((op:Int)==13)=false/\((op:Int)==15)=false/\((op:Int)==16)=false/\((op:Int)==17)=false/\((op:Int)==18)=true/\xi=18/\yi=17/\pb=false):=by
  rcases hop with⟨rfl,_,_,rfl,rfl,rfl⟩|⟨rfl,_,_,rfl,rfl,rfl⟩|⟨rfl,_,_,rfl,rfl,rfl⟩|⟨rfl,_,_,rfl,rfl,rfl⟩|⟨rfl,_,_,rfl,rfl,rfl⟩|⟨rfl,_,_,rfl,rfl,rfl⟩|⟨rfl,_,_,rfl,rfl,rfl⟩
  all_goals
   rcases hpb with⟨h,rfl⟩|⟨h,rfl⟩|⟨h,rfl⟩
   all_goals first|exact absurd h (by decide)|simp
 clear hpb;clear hop;rcases hs with⟨g11,rfl,rfl,rfl⟩|⟨g11,g12,rfl,rfl,rfl⟩|⟨g11,g12,g13,rfl,rfl,rfl⟩|⟨g11,g12,g13,g15,rfl,rfl,rfl⟩|⟨g11,g12,g13,g15,g16,rfl,rfl,rfl⟩|⟨g11,g12,g13,g15,g16,g17,rfl,rfl,rfl⟩|⟨g11,g12,g13,g15,g16,g17,g18,rfl,rfl,rfl⟩
 all_goals
  (unfold tO at *);go_enter func88,ntmps88
  go_wp2;generalize w.alloc (.cells #[.int .u8 op,.int .u8 0,.slice (some ⟨g,0,none⟩) 2 cap] 77)=w0 at *;have hD:Below w0.heap.size w0 w0.drew:=(Below.refl _ _).drew;have hk0:=hkeep _ _ ug.out hD;have hq1:=Z9.out _ _ (eG.up hD HU.out);have HQ:Hid (∀w1,Below w0.drew.heap.size w0.drew w1->Calls prog 88 _ w1 fun e w'=>∃a c,e=.returned (.slice a X2.length c)/\bG w' a X2.length c X2/\Below w1.heap.size w1 w'):=fun w1 h1=>ae.out _ _ (eG.up (qe hD h1) Gz.out)
  clear HU Gz ug Z9 ae
  go_region_held3 (fun w'=>w'.cell? ⟨w.heap.size,0,none⟩=some (.int .u8 op)/\w'.cell? ⟨w.heap.size,2,none⟩=some (.slice (some ⟨g,0,none⟩) 2 cap)/\w'.cell? ⟨g,0,none⟩=some (.int .u8 ro)/\w'.cell? ⟨g,1,none⟩=some (.int .u8 rp)/\w'.cell? ⟨g,2,none⟩=some (.slice ua un uc)/\w'.cell? ⟨g,3,none⟩=some (.int .u8 so)/\w'.cell? ⟨g,4,none⟩=some (.int .u8 sp)/\w'.cell? ⟨g,5,none⟩=some (.slice va vn vc)) (first|exact hk0|exact s1|exact s2|exact s3|fail) (first
   | (go_at_call 88;(with_reducible refine hq1.mono ?_);rintro e w1 ⟨a1,c1,rfl,t1,b1⟩;have s1:=hkeep _ _ hk0 b1;have hq2:=HQ.out w1 b1)
   | (go_at_call 88;(with_reducible refine hq2.mono ?_);rintro e w2 ⟨a2,c2,rfl,t2,b2⟩;have s2:=hkeep _ _ s1 b2;have ho:=HO.out w2 a1 c1 a2 c2 (t1.up b2) t2;have htw:=Bq w2)
   | (go_at_call 113;(with_reducible refine htw.mono ?_);rintro e w' ⟨rfl,rfl⟩)
   | (go_at_call 114;(with_reducible refine ho.mono ?_);rintro e w3 ⟨a3,c3,rfl,t3,b3⟩;have s3:=hkeep _ _ s2 b3)
   |fail)
  all_goals
   have HT3:Hid _:=t3;have HB3:Hid _:=qe (qe (qe (qe HB.out hD) b1) b2) b3;clear s1 s2 s3 t1 t2 t3 b1 b2 b3 ho htw hq1 hq2 hk0;go_wp2;go_ret
   exact⟨a3,c3,rfl,HT3.out,HB3.out⟩
theorem vz(op:Nat)(hop:op=21\/op=22)(c d:Tr)(hc:KC c)(hd:KC d)(hT:(Tr.bin (op,0) c d).WF):KC (.bin (op,0) c d):=by
 intro hwt b v w hv;obtain⟨g,cap,u,u',rfl,hn,hn',hu,hu'⟩:=hv;obtain⟨_,hcw,hdw,_,_⟩:=qt hT;have hw1:=TQ hT;have hlc:=Em hcw;have hld:=Em hdw;have hcc:=hc (by omega)
 have hdd:=hd (by omega)
 obtain⟨ua,un,uc,rfl⟩:=hu.sl;obtain⟨va,vn,vc,rfl⟩:=hu'.sl
 have hkB:kB (.bin (op,0) c d) b=kB c false++kB d false++[(op,0)]:=by
  rcases hop with rfl|rfl
  ·exact Oe c d b
  ·exact Og c d b
 rw[hkB];clear hkB;have hol:op<256:=by omega
 show Calls prog 88 #[.agg #[.int .u8 op,.int .u8 0,.slice (some ⟨g,0,none⟩) 2 cap],.bool b] w _
 have hb:=qd w (tO op 0 g 2 cap);have hr:=(MapKept.heap_alloc w (tO op 0 g 2 cap)).1;obtain⟨n0,n1,n2⟩:=hn.up hb;obtain⟨m0,m1,m2⟩:=hn'.up hb;have HU:Hid (eG (w.alloc (tO op 0 g 2 cap)) c _):=hu.up hb;have Gz:Hid (eG (w.alloc (tO op 0 g 2 cap)) d _):=hu'.up hb;unfold aK at hcc hdd;have pF:Hid _:=hcc;have yP:Hid _:=hdd;clear hcc hdd;generalize ak c=rk at *;obtain⟨ro,rp⟩:=rk;generalize ak d=rd at *;obtain⟨so,sp⟩:=rd;dsimp only at n0 n1 m0 m1 pF yP
 simp only[Nat.reduceAdd]at n1 n2 m1 m2
 have hi0:=fun w'=>qm g 2 cap w' (by omega)
 have hi1:=fun w'=>qE g 2 cap w' (by omega)
 have HB:=aX hb;have k0:(w.alloc (tO op 0 g 2 cap)).cell? ⟨w.heap.size,0,none⟩=some (.int .u8 op):=qc hr 0;have k2:(w.alloc (tO op 0 g 2 cap)).cell? ⟨w.heap.size,2,none⟩=some (.slice (some ⟨g,0,none⟩) 2 cap):=qc hr 2;have hkeep:∀w1 w2:World,(w1.cell? ⟨w.heap.size,0,none⟩=some (.int .u8 op)/\w1.cell? ⟨w.heap.size,2,none⟩=some (.slice (some ⟨g,0,none⟩) 2 cap)/\w1.cell? ⟨g,0,none⟩=some (.int .u8 ro)/\w1.cell? ⟨g,1,none⟩=some (.int .u8 rp)/\w1.cell? ⟨g,2,none⟩=some (.slice ua un uc)/\w1.cell? ⟨g,3,none⟩=some (.int .u8 so)/\w1.cell? ⟨g,4,none⟩=some (.int .u8 sp)/\w1.cell? ⟨g,5,none⟩=some (.slice va vn vc))->Below w1.heap.size w1 w2->(w2.cell? ⟨w.heap.size,0,none⟩=some (.int .u8 op)/\w2.cell? ⟨w.heap.size,2,none⟩=some (.slice (some ⟨g,0,none⟩) 2 cap)/\w2.cell? ⟨g,0,none⟩=some (.int .u8 ro)/\w2.cell? ⟨g,1,none⟩=some (.int .u8 rp)/\w2.cell? ⟨g,2,none⟩=some (.slice ua un uc)/\w2.cell? ⟨g,3,none⟩=some (.int .u8 so)/\w2.cell? ⟨g,4,none⟩=some (.int .u8 sp)/\w2.cell? ⟨g,5,none⟩=some (.slice va vn vc)):=fun w1 w2 h hb=>⟨qf h.1 hb,qf h.2.1 hb,qf h.2.2.1 hb,qf h.2.2.2.1 hb,qf h.2.2.2.2.1 hb,qf h.2.2.2.2.2.1 hb,qf h.2.2.2.2.2.2.1 hb,qf h.2.2.2.2.2.2.2 hb⟩
 have ug:Hid ((w.alloc (tO op 0 g 2 cap)).cell? ⟨w.heap.size,0,none⟩=some (.int .u8 op)/\(w.alloc (tO op 0 g 2 cap)).cell? ⟨w.heap.size,2,none⟩=some (.slice (some ⟨g,0,none⟩) 2 cap)/\(w.alloc (tO op 0 g 2 cap)).cell? ⟨g,0,none⟩=some (.int .u8 ro)/\(w.alloc (tO op 0 g 2 cap)).cell? ⟨g,1,none⟩=some (.int .u8 rp)/\(w.alloc (tO op 0 g 2 cap)).cell? ⟨g,2,none⟩=some (.slice ua un uc)/\(w.alloc (tO op 0 g 2 cap)).cell? ⟨g,3,none⟩=some (.int .u8 so)/\(w.alloc (tO op 0 g 2 cap)).cell? ⟨g,4,none⟩=some (.int .u8 sp)/\(w.alloc (tO op 0 g 2 cap)).cell? ⟨g,5,none⟩=some (.slice va vn vc)):=⟨k0,k2,n0,n1,n2,m0,m1,m2⟩;clear hn hu hc hb hr hT hn' hu' hd;unfold dV;obtain⟨Y,hY⟩:∃Y,Y=kB c false++kB d false++[(op,0)]:=⟨_,rfl⟩
 rw[<-hY];have HY:=aX hY;clear hY;have n0:=aP op 0 (by omega)
 have n1:=aP op 1 (by omega)
 have n4:=aP op 4 (by omega)
 have n5:=aP op 5 (by omega)
 have n2:=aP op 2 (by omega)
 have n3:=aP op 3 (by omega)
 have n6:=aP op 6 (by omega)
 have n7:=aP op 7 (by omega)
 have n8:=aP op 8 (by omega)
 have n9:=aP op 9 (by omega)
 have n10:=aP op 10 (by omega)
 have n11:=aP op 11 (by omega)
 have n12:=aP op 12 (by omega)
 have n13:=aP op 13 (by omega)
 have n14:=aP op 14 (by omega)
 have n15:=aP op 15 (by omega)
 have n16:=aP op 16 (by omega)
 have n17:=aP op 17 (by omega)
 have n18:=aP op 18 (by omega)
 have n19:=aP op 19 (by omega)
 have n20:=aP op 20 (by omega)
 have n23:=aP op 23 (by omega)
 clear hop;(unfold tO at *);go_enter func88,ntmps88
 go_wp2;generalize w.alloc (.cells #[.int .u8 op,.int .u8 0,.slice (some ⟨g,0,none⟩) 2 cap] 77)=w0 at *;have hD:Below w0.heap.size w0 w0.drew:=(Below.refl _ _).drew;have hk0:=hkeep _ _ ug.out hD;have hq1:=pF.out false _ _ (eG.up hD HU.out);have hlb:=hlc false;have La:=hld false;have HQ:Hid (∀w1,Below w0.drew.heap.size w0.drew w1->Calls prog 88 _ w1 (dV (kB d false) w1)):=fun w1 h1=>yP.out false _ _ (eG.up (qe hD h1) Gz.out)
 have HO:Hid (∀w1 a1 c1 a2 c2,bG w1 a1 (kB c false).length c1 (kB c false)->bG w1 a2 (kB d false).length c2 (kB d false)->Calls prog 114 #[.slice a1 (kB c false).length c1,.slice a2 (kB d false).length c2,.int .u8 op] w1 (dV Y w1)):=fun w1 a1 c1 a2 c2 t1 t2=>by rw[HY.out];exact JV a1 _ c1 (kB c false) a2 _ c2 (kB d false) op w1 t1 t2 hol (by omega) (by omega)
 unfold dV at HO HQ hq1;generalize kB c false=X1 at *;generalize kB d false=X2 at *;clear pF yP HU Gz ug hlc hld hlb La
 go_region_held3 (fun w'=>w'.cell? ⟨w.heap.size,0,none⟩=some (.int .u8 op)/\w'.cell? ⟨w.heap.size,2,none⟩=some (.slice (some ⟨g,0,none⟩) 2 cap)/\w'.cell? ⟨g,0,none⟩=some (.int .u8 ro)/\w'.cell? ⟨g,1,none⟩=some (.int .u8 rp)/\w'.cell? ⟨g,2,none⟩=some (.slice ua un uc)/\w'.cell? ⟨g,3,none⟩=some (.int .u8 so)/\w'.cell? ⟨g,4,none⟩=some (.int .u8 sp)/\w'.cell? ⟨g,5,none⟩=some (.slice va vn vc)) (first|exact hk0|exact s1|exact s2|exact s3|fail) (first
  | (go_at_call 88;(with_reducible refine hq1.mono ?_);rintro e w1 ⟨a1,c1,rfl,t1,b1⟩;have s1:=hkeep _ _ hk0 b1;have hq2:=HQ.out w1 b1)
  | (go_at_call 88;(with_reducible refine hq2.mono ?_);rintro e w2 ⟨a2,c2,rfl,t2,b2⟩;have s2:=hkeep _ _ s1 b2;have ho:=HO.out w2 a1 c1 a2 c2 (t1.up b2) t2)
  | (go_at_call 114;(with_reducible refine ho.mono ?_);rintro e w3 ⟨a3,c3,rfl,t3,b3⟩;have s3:=hkeep _ _ s2 b3)
  |fail)
 all_goals
  have HT3:Hid _:=t3;have HB3:Hid _:=qe (qe (qe (qe HB.out hD) b1) b2) b3;clear s1 s2 s3 t1 t2 t3 b1 b2 b3 ho hq1 hq2 hk0;go_wp2;go_ret
  exact⟨a3,c3,rfl,HT3.out,HB3.out⟩
theorem q9k(c d:Tr)(hc:KC c)(hd:KC d)(hT:(Tr.bin (14,0) c d).WF):KC (.bin (14,0) c d):=by
 intro hwt b v w hv;obtain⟨g,cap,u,u',rfl,hn,hn',hu,hu'⟩:=hv;obtain⟨_,hcw,hdw,_,_⟩:=qt hT;have hw1:=TQ hT;have hlc:=Em hcw;have hld:=Em hdw;have hcc:=hc (by omega)
 have hdd:=hd (by omega)
 obtain⟨ua,un,uc,rfl⟩:=hu.sl;obtain⟨va,vn,vc,rfl⟩:=hu'.sl;rw[N8]
 show Calls prog 88 #[.agg #[.int .u8 14,.int .u8 0,.slice (some ⟨g,0,none⟩) 2 cap],.bool b] w _
 have hb:=qd w (tO 14 0 g 2 cap);have hr:=(MapKept.heap_alloc w (tO 14 0 g 2 cap)).1;obtain⟨n0,n1,n2⟩:=hn.up hb;obtain⟨m0,m1,m2⟩:=hn'.up hb;have HU:Hid (eG (w.alloc (tO 14 0 g 2 cap)) c _):=hu.up hb;have Gz:Hid (eG (w.alloc (tO 14 0 g 2 cap)) d _):=hu'.up hb;unfold aK at hcc hdd;have pF:Hid _:=hcc;have yP:Hid _:=hdd;clear hcc hdd;generalize ak c=rk at *;obtain⟨ro,rp⟩:=rk;generalize ak d=rd at *;obtain⟨so,sp⟩:=rd;dsimp only at n0 n1 m0 m1 pF yP
 simp only[Nat.reduceAdd]at n1 n2 m1 m2
 have hi0:=fun w'=>qm g 2 cap w' (by omega)
 have hi1:=fun w'=>qE g 2 cap w' (by omega)
 have HB:=aX hb;have k0:(w.alloc (tO 14 0 g 2 cap)).cell? ⟨w.heap.size,0,none⟩=some (.int .u8 14):=qc hr 0;have k2:(w.alloc (tO 14 0 g 2 cap)).cell? ⟨w.heap.size,2,none⟩=some (.slice (some ⟨g,0,none⟩) 2 cap):=qc hr 2;have hkeep:∀w1 w2:World,(w1.cell? ⟨w.heap.size,0,none⟩=some (.int .u8 14)/\w1.cell? ⟨w.heap.size,2,none⟩=some (.slice (some ⟨g,0,none⟩) 2 cap)/\w1.cell? ⟨g,0,none⟩=some (.int .u8 ro)/\w1.cell? ⟨g,1,none⟩=some (.int .u8 rp)/\w1.cell? ⟨g,2,none⟩=some (.slice ua un uc)/\w1.cell? ⟨g,3,none⟩=some (.int .u8 so)/\w1.cell? ⟨g,4,none⟩=some (.int .u8 sp)/\w1.cell? ⟨g,5,none⟩=some (.slice va vn vc))->Below w1.heap.size w1 w2->(w2.cell? ⟨w.heap.size,0,none⟩=some (.int .u8 14)/\w2.cell? ⟨w.heap.size,2,none⟩=some (.slice (some ⟨g,0,none⟩) 2 cap)/\w2.cell? ⟨g,0,none⟩=some (.int .u8 ro)/\w2.cell? ⟨g,1,none⟩=some (.int .u8 rp)/\w2.cell? ⟨g,2,none⟩=some (.slice ua un uc)/\w2.cell? ⟨g,3,none⟩=some (.int .u8 so)/\w2.cell? ⟨g,4,none⟩=some (.int .u8 sp)/\w2.cell? ⟨g,5,none⟩=some (.slice va vn vc)):=fun w1 w2 h hb=>⟨qf h.1 hb,qf h.2.1 hb,qf h.2.2.1 hb,qf h.2.2.2.1 hb,qf h.2.2.2.2.1 hb,qf h.2.2.2.2.2.1 hb,qf h.2.2.2.2.2.2.1 hb,qf h.2.2.2.2.2.2.2 hb⟩
 have ug:Hid ((w.alloc (tO 14 0 g 2 cap)).cell? ⟨w.heap.size,0,none⟩=some (.int .u8 14)/\(w.alloc (tO 14 0 g 2 cap)).cell? ⟨w.heap.size,2,none⟩=some (.slice (some ⟨g,0,none⟩) 2 cap)/\(w.alloc (tO 14 0 g 2 cap)).cell? ⟨g,0,none⟩=some (.int .u8 ro)/\(w.alloc (tO 14 0 g 2 cap)).cell? ⟨g,1,none⟩=some (.int .u8 rp)/\(w.alloc (tO 14 0 g 2 cap)).cell? ⟨g,2,none⟩=some (.slice ua un uc)/\(w.alloc (tO 14 0 g 2 cap)).cell? ⟨g,3,none⟩=some (.int .u8 so)/\(w.alloc (tO 14 0 g 2 cap)).cell? ⟨g,4,none⟩=some (.int .u8 sp)/\(w.alloc (tO 14 0 g 2 cap)).cell? ⟨g,5,none⟩=some (.slice va vn vc)):=⟨k0,k2,n0,n1,n2,m0,m1,m2⟩;clear hn hu hc hb hr hT hn' hu' hd;unfold dV;obtain⟨Y,hY⟩:∃Y,Y=(kB c false++kB d b++[(11,0)])++(kB c true++kB d (!b)++[(11,0)])++[(12,0)]:=⟨_,rfl⟩
 rw[<-hY];have HY:=aX hY;clear hY;(unfold tO at *);go_enter func88,ntmps88
 go_wp2;generalize w.alloc (.cells #[.int .u8 14,.int .u8 0,.slice (some ⟨g,0,none⟩) 2 cap] 77)=w0 at *;have hD:Below w0.heap.size w0 w0.drew:=(Below.refl _ _).drew;have hk0:=hkeep _ _ ug.out hD;have HB':Hid _:=qe HB.out hD;have l1:=hlc false;have l2:=hld b;have l3:=hlc true;have l4:=hld (!b);have h1:=pF.out false _ _ (eG.up hD HU.out);have H2:Hid (∀w1,Below w0.drew.heap.size w0.drew w1->Calls prog 88 _ w1 (dV (kB d b) w1)):=fun w1 h1=>yP.out b _ _ (eG.up (qe hD h1) Gz.out)
 have H4:Hid (∀w1,Below w0.drew.heap.size w0.drew w1->Calls prog 88 _ w1 (dV (kB c true) w1)):=fun w1 h1=>pF.out true _ _ (eG.up (qe hD h1) HU.out)
 have H5:Hid (∀w1,Below w0.drew.heap.size w0.drew w1->Calls prog 88 _ w1 (dV (kB d (!b)) w1)):=fun w1 h1=>yP.out (!b) _ _ (eG.up (qe hD h1) Gz.out)
 have H3:Hid (∀w1 a1 c1 a2 c2,bG w1 a1 (kB c false).length c1 (kB c false)->bG w1 a2 (kB d b).length c2 (kB d b)->Calls prog 114 #[.slice a1 (kB c false).length c1,.slice a2 (kB d b).length c2,.int .u8 11] w1 (dV (kB c false++kB d b++[(11,0)]) w1)):=fun w1 a1 c1 a2 c2 t1 t2=>JV a1 _ c1 _ a2 _ c2 _ 11 w1 t1 t2 (by decide) (by omega) (by omega)
 have H6:Hid (∀w1 a1 c1 a2 c2,bG w1 a1 (kB c true).length c1 (kB c true)->bG w1 a2 (kB d (!b)).length c2 (kB d (!b))->Calls prog 114 #[.slice a1 (kB c true).length c1,.slice a2 (kB d (!b)).length c2,.int .u8 11] w1 (dV (kB c true++kB d (!b)++[(11,0)]) w1)):=fun w1 a1 c1 a2 c2 t1 t2=>JV a1 _ c1 _ a2 _ c2 _ 11 w1 t1 t2 (by decide) (by omega) (by omega)
 have q1:(kB c false++kB d b++[(11,0)]).length<=1000000:=by simp only[List.length_append,List.length_singleton];omega
 have q2:(kB c true++kB d (!b)++[(11,0)]).length<=1000000:=by simp only[List.length_append,List.length_singleton];omega
 generalize kB c false++kB d b++[(11,0)]=Z1 at *;generalize kB c true++kB d (!b)++[(11,0)]=Z2 at *;have H7:Hid (∀w1 a1 c1 a2 c2,bG w1 a1 Z1.length c1 Z1->bG w1 a2 Z2.length c2 Z2->Calls prog 114 #[.slice a1 Z1.length c1,.slice a2 Z2.length c2,.int .u8 12] w1 (dV Y w1)):=fun w1 a1 c1 a2 c2 t1 t2=>by rw[HY.out];exact JV a1 _ c1 _ a2 _ c2 _ 12 w1 t1 t2 (by decide) (by omega) (by omega)
 unfold dV at h1 H2 H3 H4 H5 H6 H7;generalize kB c false=X1 at *;generalize kB d b=X2 at *;generalize kB c true=X4 at *;generalize kB d (!b)=X5 at *;clear pF yP HU Gz ug hlc hld l1 l2 l3 l4 q1 q2
 go_region_held3 (fun w'=>w'.cell? ⟨w.heap.size,0,none⟩=some (.int .u8 14)/\w'.cell? ⟨w.heap.size,2,none⟩=some (.slice (some ⟨g,0,none⟩) 2 cap)/\w'.cell? ⟨g,0,none⟩=some (.int .u8 ro)/\w'.cell? ⟨g,1,none⟩=some (.int .u8 rp)/\w'.cell? ⟨g,2,none⟩=some (.slice ua un uc)/\w'.cell? ⟨g,3,none⟩=some (.int .u8 so)/\w'.cell? ⟨g,4,none⟩=some (.int .u8 sp)/\w'.cell? ⟨g,5,none⟩=some (.slice va vn vc)) (first|exact hk0|exact s1|exact s2|exact s3|exact s4|exact s5|exact s6|exact s7|fail) (first
  | (go_at_call 88;(with_reducible refine h1.mono ?_);rintro e w1 ⟨a1,c1,rfl,t1,b1⟩;have s1:=hkeep _ _ hk0 b1;have h2:=H2.out w1 b1)
  | (go_at_call 88;(with_reducible refine h2.mono ?_);rintro e w2 ⟨a2,c2,rfl,t2,b2⟩;have s2:=hkeep _ _ s1 b2;have h3:=H3.out w2 a1 c1 a2 c2 (t1.up b2) t2)
  | (go_at_call 114;(with_reducible refine h3.mono ?_);rintro e w3 ⟨a3,c3,rfl,t3,b3⟩;have s3:=hkeep _ _ s2 b3;have bb3:=qe (qe b1 b2) b3;have h4:=H4.out w3 bb3)
  | (go_at_call 88;(with_reducible refine h4.mono ?_);rintro e w4 ⟨a4,c4,rfl,t4,b4⟩;have s4:=hkeep _ _ s3 b4;have af:=qe bb3 b4;have h5:=H5.out w4 af)
  | (go_at_call 88;(with_reducible refine h5.mono ?_);rintro e w5 ⟨a5,c5,rfl,t5,b5⟩;have s5:=hkeep _ _ s4 b5;have h6:=H6.out w5 a4 c4 a5 c5 (t4.up b5) t5)
  | (go_at_call 114;(with_reducible refine h6.mono ?_);rintro e w6 ⟨a6,c6,rfl,t6,b6⟩;have s6:=hkeep _ _ s5 b6;have h7:=H7.out w6 a3 c3 a6 c6 (t3.up (qe (qe b4 b5) b6)) t6)
  | (go_at_call 114;(with_reducible refine h7.mono ?_);rintro e w7 ⟨a7,c7,rfl,t7,b7⟩;have s7:=hkeep _ _ s6 b7)
  |fail)
 all_goals
  have HT7:Hid _:=t7;have HB7:Hid _:=qe (qe (qe (qe HB'.out af) b5) b6) b7;clear s1 s2 s3 s4 s5 s6 s7 t1 t2 t3 t4 t5 t6 t7 b1 b2 b3 b4 b5 b6 b7 h1 h2 h3 h4 h5 h6 h7 hk0 bb3 af;go_wp2;go_ret
  exact⟨a7,c7,rfl,HT7.out,HB7.out⟩
theorem Vp:∀T:Tr,T.WF->KC T
 | .leaf (op,p),h=>by
  rcases qG h with⟨rfl,hp⟩|⟨rfl,rfl|rfl|rfl|rfl|rfl⟩
  ·exact Ns 2 p (by decide) h
  ·exact Ns 0 0 (by decide) h
  ·exact Ns 1 0 (by decide) h
  ·exact Ns 3 0 (by decide) h
  ·exact Ns 4 0 (by decide) h
  ·exact Ns 5 0 (by decide) h
 | .un (op,p) c,h=>by
  have h':=h;obtain⟨rfl,hc,_,ho⟩:=qw h';have ih:=Vp c hc;rcases ho with rfl|rfl|rfl|rfl|rfl|rfl|rfl|rfl
  ·exact qbW c ih h
  ·exact vq 7 7 8 7 8 (by decide) c ih h
  ·exact vq 8 8 7 8 7 (by decide) c ih h
  ·exact vr 9 0 1 15 16 0 1 15 16 (by decide) c ih h
  ·exact vr 10 1 0 16 15 1 0 16 15 (by decide) c ih h
  ·exact q3z 19 (by decide) c ih h
  ·exact q3z 20 (by decide) c ih h
  ·exact q3z 23 (by decide) c ih h
 | .bin (op,p) c d,h=>by
  have h':=h;obtain⟨rfl,hc,hd,_,ho⟩:=qt h';have ih:=Vp c hc;have jh:=Vp d hd;rcases ho with rfl|rfl|rfl|rfl|rfl|rfl|rfl|rfl|rfl|rfl
  ·exact KZ 11 11 12 0 11 12 (by decide) c d ih jh h
  ·exact KZ 12 12 11 0 12 11 (by decide) c d ih jh h
  ·exact KZ 13 12 11 1 12 11 (by decide) c d ih jh h
  ·exact q9k c d ih jh h
  ·exact KZ 15 15 16 0 15 16 (by decide) c d ih jh h
  ·exact KZ 16 16 15 0 16 15 (by decide) c d ih jh h
  ·exact KZ 17 17 18 2 17 18 (by decide) c d ih jh h
  ·exact KZ 18 18 17 2 18 17 (by decide) c d ih jh h
  ·exact vz 21 (by decide) c d ih jh h
  ·exact vz 22 (by decide) c d ih jh h
def wordAt(b:Bool)(op:Nat):Bool:=if op=3\/op=9\/op=10\/op=13\/op=14 then false else if op=6 then b else true
theorem qgh{q:Tk}{m:Nat}(h:bI q=some m)(b:Bool):gV b q.1 q.2=wordAt b q.1:=by
 obtain⟨op,p⟩:=q
 have h1:¬(23<op\/(op≠2/\p≠0)\/(op=2/\7<p)):=by
  unfold bI at h;dsimp only at h
  split at h
  ·cases h
  ·assumption
 show gV b op p=wordAt b op
 unfold gV wordAt;by_cases e2:op=2
 ·subst e2
  rw[if_pos rfl,if_neg (by omega),if_neg (by omega)]
  simp;omega
 ·rw[if_neg e2]
  by_cases e3:op=3\/op=9\/op=10\/op=13\/op=14
  ·rw[if_pos e3,if_pos e3]
  ·rw[if_neg e3,if_neg e3]
   by_cases e6:op=6
   ·cases b with
    |false=>rw[if_pos ⟨e6,rfl⟩,if_pos e6]
    |true=>rw[if_neg (fun h=>by cases h.2),if_pos e6];simp;omega
   ·rw[if_neg (fun h=>e6 h.1),if_neg e6];simp;omega
theorem q9D(a:Option Addr)(len cap:Nat)(ts:List Tk)(i:Nat)(w:World)(hT:bG w a len cap ts)(hi:i<len)(hln:len<=1000000)(hx:i<ts.length):
  Calls prog 83 #[.slice a len cap,.int .i64 i] w fun e w'=>e=.returned (.bool (wordAt (gW false (ts.take i)) ts[i].1))/\w'=w:=by
 obtain⟨g1,o1,s1,hi1,hx0,hx1,hg1,hx2⟩:=hT.at underlying22 qD i hi;have hidx:=fun w'=>hi1 len w' hi
 clear hi1 hx1 hx2;have hlen:=hT.hlen
 have hpv:i=0\/∃j,j+1=i/\∃(g2 o2:Nat) (s2:_) (q:Nat),(∀w',(Instr.indexAt 22 (.slice a len cap) (.int .i64 j)).run prog w'=.ok (.pointer (some ⟨g2,o2,s2⟩)) w')/\w.cell? ⟨g2,o2,s2⟩=some (.int .u8 q)/\gW false (ts.take i)=decide (q=2):=by
  cases i with
  |zero=>exact Or.inl rfl
  |succ j=>
   obtain⟨g2,o2,s2,hi2,hy0,_,_⟩:=hT.at underlying22 qD j (by omega)
   exact Or.inr ⟨j,rfl,g2,o2,s2,_,fun w'=>hi2 len w' (by omega),hy0,iu (by omega)⟩
 have HL:Hid (i=0->gW false (ts.take i)=false):=fun h=>by subst h;rfl
 generalize gW false (ts.take i)=bp at *;generalize ts[i].1=op at *;by_cases e3:op=3\/op=9\/op=10\/op=13\/op=14
 ·have HZ:Hid (wordAt bp op=false):=if_pos e3
  clear hpv hT hlen;rcases e3 with rfl|rfl|rfl|rfl|rfl <;>
  ·go_enter func83,ntmps83
   go_wp2;go_ret
   exact⟨by rw[HZ.out];rfl,rfl⟩
 by_cases e6:op=6
 ·subst e6
  have HZ:Hid (wordAt bp 6=bp):=rfl;rcases hpv with h0|⟨j,hj,g2,o2,s2,q,hi2,hq,hl⟩
  ·have hbp:bp=false:=HL.out h0
   have hg:decide ((0:Int)<(i:Int))=false:=decide_eq_false (by omega)
   have hg':decide (0<i)=false:=decide_eq_false (by omega)
   have az:Hid _:=hbp;clear hT hlen h0 hbp;go_enter func83,ntmps83
   go_wp2;go_ret
   exact⟨by rw[HZ.out,az.out];rfl,rfl⟩
  ·have hg:(0:Int)<(i:Int):=by omega
   have hsub:IntKind.i64.wrap ((i:Int)-1)=(j:Int):=by rw[IntKind.wrap_i64];omega
   have hqe:((q:Int)==2)=decide (q=2):=CM q 2;have az:Hid _:=hl;clear hT hlen hl hj;generalize decide (q=2)=qb at *;go_enter func83,ntmps83
   go_wp2;go_ret
   exact⟨by rw[HZ.out,az.out];rfl,rfl⟩
 ·have HZ:Hid (wordAt bp op=true):=by show _=_;unfold wordAt;rw[if_neg e3,if_neg e6]
  have q3:((op:Int)==3)=false:=by rw[lu];omega
  have q9:((op:Int)==9)=false:=by rw[lu];omega
  have q10:((op:Int)==10)=false:=by rw[lu];omega
  have q13:((op:Int)==13)=false:=by rw[lu];omega
  have ix:((op:Int)==14)=false:=by rw[lu];omega
  have q6:((op:Int)==6)=false:=by rw[lu];omega
  clear hpv hT hlen;go_enter func83,ntmps83
  go_wp2;go_ret
  exact⟨by rw[HZ.out];rfl,rfl⟩
theorem vA{w:World}{base n:Nat}{a:Option Addr}{cap:Nat}{q:Pt}{r:List Pt}(h:w.ownsRow base 133 4 (.slice a n cap) n (gq (q::r)))(hn:0<n):
  ∃g,(∀w',(Instr.indexAt 129 (.slice a n cap) (.int .i64 0)).run prog w'=.ok (.pointer (some ⟨g,0,none⟩)) w')/\w.cell? ⟨g,0,none⟩=some (.bool q.path):=by
 rcases h.2 with⟨e,e0⟩|⟨g,cap',cur,e,_,hcell,hnc,hcm,hsz,htk⟩
 ·omega
 ·injection e with e1 _ e3
  subst e1 e3;refine⟨g,fun w'=>?_,?_⟩
  ·simp[Instr.indexAt,run_underlying underlying129,asIntOf,qZ ti,hn,Result.andThen,go_sem]
  ·have:(cur.toList.take (n*4))[0]? =some (.bool q.path):=by rw[htk];rfl
   rw[List.getElem?_take,if_pos (by omega)]at this
   rw[qc hcell];simpa using this
theorem aE{ts:List Tk}(h:∀all p,dG ts 0 []=some (all,[p])->p.path=true):¬oD ts:=by
 rintro⟨T,hW,hp,_,rfl⟩
 have:=h _ _ (TG.2 ⟨T,hW,rfl,rfl,rfl⟩)
 unfold aB at hp;rw[hp]at this
 cases this
theorem vB:Xz 55:=by
 intro a len cap ts w hT;have hlen:=hT.hlen;by_cases hl:2048<len
 ·have HC:Hid (bM ts=3):=by show _=_;unfold bM;rw[if_pos (by omega)]
  have hl':(2048:Int)<(len:Int):=by omega
  clear hT hlen;go_enter func55,ntmps55
  go_wp2;go_ret
  exact⟨by rw[HC.out];rfl,Below.refl _ _⟩
 ·have hl':¬(2048:Int)<(len:Int):=by omega
  have hr:=qaq a len cap ts w hT (by omega)
  have HT:Hid _:=hT;have HLEN:=aX hlen;have H7:Hid (¬oD ts->bM ts=7):=fun h=>Xy (by omega) h
  have H0:Hid (oD ts->bM ts=0):=fun h=>LJ.2 ⟨by omega,h⟩
  cases hR:dG ts 0 [] with
  |none=>
   have HC:Hid (bM ts=7):=H7.out (aE fun all p h=>by rw[hR]at h;cases h)
   rw[hR]at hr;clear hT hlen;go_enter func55,ntmps55
   go_wp2_with fail
   refine hr.mono ?_
   rintro e w1 ⟨h1,hb1⟩
   have h1:e=_:=h1;subst h1;go_wp2;go_ret
   exact⟨by rw[HC.out];rfl,hb1⟩
  |some x=>
   obtain⟨all,st⟩:=x;rw[hR]at hr;have HR:=aX hR;by_cases hone:st.length=1
   ·obtain⟨q,rfl⟩:=List.length_eq_one_iff.1 hone
    cases hq:q.path with
    |true=>
     have HC:Hid (bM ts=7):=H7.out (aE fun all p h=>by rw[hR]at h;injection h with h;injection h with _ h;injection h with h _;rw[<-h];exact hq)
     clear hT hlen hR hone;go_enter func55,ntmps55
     go_wp2_with fail
     refine hr.mono ?_
     rintro e w1 ⟨⟨v1,v2,rfl,_,ho2⟩,hb1⟩
     obtain⟨x2,d2,rfl,_⟩:=qO ho2 bZ;have hget:∃g,(∀w',(Instr.indexAt 129 (.slice x2 1 d2) (.int .i64 0)).run prog w'=.ok (.pointer (some ⟨g,0,none⟩)) w')/\w1.cell? ⟨g,0,none⟩=some (.bool q.path):=vA ho2 (by decide)
     obtain⟨g2,hi2,c2⟩:=hget;rw[hq]at c2;clear ho2;go_wp2;go_ret
     exact⟨by rw[HC.out];rfl,hb1⟩
    |false=>
     obtain⟨T,hW,hTs,_,hqe⟩:=TG.1 hR;have vD:aB T=false:=by unfold aB;rw[<-hqe];exact hq
     have HGG:Hid (sD ts T):=by rw[hTs];exact Cj hW (by rw[<-hTs];omega)
     have aL:Hid (dD false ts=true->oD ts):=fun h=>⟨T,hW,vD,by rw[<-(LM T hW false).1,<-hTs];exact h,hTs⟩
     have aM:Hid (dD false ts=false->bM ts=7):=fun h=>H7.out fun hk=>by rw[((NS ts).1 hk).1]at h;cases h
     clear hT hlen hR hone hTs hqe hW vD;go_enter func55,ntmps55
     go_wp2_with fail
     refine hr.mono ?_
     rintro e w1 ⟨⟨v1,v2,rfl,_,ho2⟩,hb1⟩
     obtain⟨x2,d2,rfl,_⟩:=qO ho2 bZ;have hget:∃g,(∀w',(Instr.indexAt 129 (.slice x2 1 d2) (.int .i64 0)).run prog w'=.ok (.pointer (some ⟨g,0,none⟩)) w')/\w1.cell? ⟨g,0,none⟩=some (.bool q.path):=vA ho2 (by decide)
     obtain⟨g2,hi2,c2⟩:=hget;rw[hq]at c2;have HT1:Hid (bG w1 a len cap ts):=HT.out.up hb1;have HB1:=aX hb1;clear ho2 hb1 hr;go_wp2;clear c2 hi2
     go_loopw [6] (fun i wr=>∃k:Nat,k<=len/\i=.int .i64 k/\Hid (dD false (ts.take k)=true)/\wr=w1) (fun i _=>len-(intOf i).toNat)
     case atStart=>exact⟨0,Nat.zero_le _,rfl,rfl,rfl⟩
     case round=>
      obtain⟨k,hk,rfl,HF,rfl⟩:=hrel;by_cases hlt:k<len
      ·have hxl:k<ts.length:=by have:=HLEN.out;omega
       have hwd:=q9D a len cap ts k _ HT1.out hlt (by omega) hxl
       obtain⟨m,hm⟩:=(HGG.out.ok k hxl).1;have fQ:Hid (dD false (ts.take (k+1))=wordAt (gW false (ts.take k)) ts[k].1):=(W9 hxl HF.out).trans (qgh hm _);clear hm;generalize wordAt (gW false (ts.take k)) ts[k].1=bb at *;have hwd:=hwd.mono (fun e w' h=>(And.intro h.1 h.2.symm:e=_/\wr=w'))
       cases bb with
       |false=>
        have HC:Hid (bM ts=7):=aM.out (Um fQ.out)
        go_wp2_with fail
        refine hwd.mono ?_
        rintro e w' ⟨rfl,rfl⟩
        go_wp2;go_ret
        exact⟨by rw[HC.out];rfl,HB1.out⟩
       |true=>
        go_wp2_with fail
        refine hwd.mono ?_
        rintro e w' ⟨rfl,rfl⟩
        go_wp2
        go_roundw
        case rel=>exact⟨k+1,by omega,by go_num,fQ,by first|rfl|trivial⟩
        case measure=>simp[intOf]<;>omega
      ·obtain rfl:k=len:=by omega
       have HC:Hid (bM ts=0):=by
        have:=HF.out
        rw[List.take_of_length_le (by have:=HLEN.out;omega)]at this
        exact H0.out (aL.out this)
       go_wp2;go_ret
       exact⟨by rw[HC.out];rfl,HB1.out⟩
   ·have HC:Hid (bM ts=7):=H7.out (aE fun all' p h=>by rw[hR]at h;injection h with h;injection h with _ h;rw[h]at hone;exact absurd rfl hone)
    have hne:((st.length:Int)==1)=false:=by rw[lu];omega
    have hne2:((st.length:Int) != 1)=true:=by rw[bne_iff_ne];omega
    clear hT hlen hR hone;go_enter func55,ntmps55
    go_wp2_with fail
    refine hr.mono ?_
    rintro e w1 ⟨⟨v1,v2,rfl,_,ho2⟩,hb1⟩
    obtain⟨x2,d2,rfl,_⟩:=qO ho2 (Nat.le_refl _);dsimp only at ho2
    clear ho2;go_wp2;go_ret
    exact⟨by rw[HC.out];rfl,hb1⟩
end Go.Proofs.YtoioiellaomonaaGreatDoor
