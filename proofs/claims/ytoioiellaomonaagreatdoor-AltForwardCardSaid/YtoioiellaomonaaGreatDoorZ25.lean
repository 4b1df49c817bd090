import Derived.Deep.RegionHeld3
import Derived.Test.YtoioiellaomonaaGreatDoorZ01
import Derived.Test.YtoioiellaomonaaGreatDoorZ08
import Derived.Test.YtoioiellaomonaaGreatDoorZ11
import Derived.Test.YtoioiellaomonaaGreatDoorZ15
import Derived.Test.YtoioiellaomonaaGreatDoorZ22
import Derived.Test.YtoioiellaomonaaGreatDoorZ23
import Derived.Test.YtoioiellaomonaaGreatDoorZ24
set_option maxRecDepth 100000
set_option maxHeartbeats 16000000
namespace Go.Proofs.YtoioiellaomonaaGreatDoor
open Go.RowKit Go.Maps Proofs.Tryz
variable {f:Nat->Bool}{T0 T:Tr}{w:World}{F:Nat->Prop}{p c k:Nat}{M:Mt}{vb:Value}{a:Option Addr}{l:List Nat}
theorem qdO:(prog.info? 4).map (·.size)=some 1:=by kernel_rfl
theorem vE(g n cap:Nat)(w:World)(hn:0<n):(Instr.indexAt 66 (.slice (some ⟨g,0,none⟩) n cap) (.int .i64 0)).run prog w=.ok (.pointer (some ⟨g,0,none⟩)) w:=by
 simp[Instr.indexAt,run_underlying underlying66,asIntOf,qZ qdO,hn,Result.andThen,go_sem]
def S9(c:Tr)(x:Nat):Prop:=∀(a:Option Addr)(cap b:Nat)(w:World),bG w a c.flat.length cap c.flat->w.cell? ⟨b,0,none⟩=some (.int .u8 x)->Calls prog 64 #[.slice a c.flat.length cap,.slice (some ⟨b,0,none⟩) 1 1] w fun e w'=>∃g n k,e=.returned (.slice (some ⟨g,0,none⟩) n k)/\0<n/\w'.cell? ⟨g,0,none⟩=some (.bool (jR x c))/\Below w.heap.size w w'
theorem q8n(x:Nat)(c:Tr)(hK:KP (.un (20,0) c))(hk8:∀(u:Value)(w:World),eG w c u->Calls prog 88 #[aK (ak c) u,.bool true] w (dV (kB c true) w))(hG:sD (kB c true) (aZ c).2)(hc:pq (aZ c).2 x):zI true (.un (20,0) c) x:=by
 intro f p vb F M er v v' s a0 c0 w kf hl hP he hT hf hS;obtain⟨g,cap,u,rfl,hg,hn,hu⟩:=hT;obtain⟨ua,un,uc,rfl⟩:=hu.sl;obtain⟨fa,fn,fc,rfl⟩:=hf.sl;have hb1:=qd w (tO 20 0 g 1 cap);have hb2:=qd (w.alloc (tO 20 0 g 1 cap)) (tQ (ak f).1 (ak f).2 fa fn fc);have hb0:=qe hb1 hb2;have hr1:((w.alloc (tO 20 0 g 1 cap)).alloc (tQ (ak f).1 (ak f).2 fa fn fc)).heap[w.heap.size]? =_:=(hb2.block w.heap.size (by simp)).trans (MapKept.heap_alloc w (tO 20 0 g 1 cap)).1
 have hr2:((w.alloc (tO 20 0 g 1 cap)).alloc (tQ (ak f).1 (ak f).2 fa fn fc)).heap[w.heap.size+1]? =some (tQ (ak f).1 (ak f).2 fa fn fc):=by
  rw[show w.heap.size+1=(w.alloc (tO 20 0 g 1 cap)).heap.size by simp]
  exact(dO (w.alloc (tO 20 0 g 1 cap)) (tQ (ak f).1 (ak f).2 fa fn fc)).1
 have hF:=hP.flt;have hP0:=hP.up hb0;have hsz:((w.alloc (tO 20 0 g 1 cap)).alloc (tQ (ak f).1 (ak f).2 fa fn fc)).heap.size=w.heap.size+2:=by simp
 have hgl:g<w.heap.size:=hn.lt;have pz:¬F w.heap.size/\¬F (w.heap.size+1)/\¬F g:=⟨fun h=>by have:=hF _ h;omega,fun h=>by have:=hF _ h;omega,hg⟩
 have hkeep:∀{w1 w2:World}{F1 F2:Nat->Prop},(w1.cell? ⟨w.heap.size,0,none⟩=some (.int .u8 20)/\w1.cell? ⟨w.heap.size,1,none⟩=some (.int .u8 0)/\w1.cell? ⟨w.heap.size,2,none⟩=some (.slice (some ⟨g,0,none⟩) 1 cap)/\w1.cell? ⟨w.heap.size+1,0,none⟩=some (.int .u8 (ak f).1)/\w1.cell? ⟨w.heap.size+1,1,none⟩=some (.int .u8 (ak f).2)/\w1.cell? ⟨w.heap.size+1,2,none⟩=some (.slice fa fn fc)/\w1.cell? ⟨g,0,none⟩=some (.int .u8 (ak c).1)/\w1.cell? ⟨g,1,none⟩=some (.int .u8 (ak c).2)/\w1.cell? ⟨g,2,none⟩=some (.slice ua un uc))->Fr w1 w2 F1 F2->(¬F1 w.heap.size/\¬F1 (w.heap.size+1)/\¬F1 g)->(w2.cell? ⟨w.heap.size,0,none⟩=some (.int .u8 20)/\w2.cell? ⟨w.heap.size,1,none⟩=some (.int .u8 0)/\w2.cell? ⟨w.heap.size,2,none⟩=some (.slice (some ⟨g,0,none⟩) 1 cap)/\w2.cell? ⟨w.heap.size+1,0,none⟩=some (.int .u8 (ak f).1)/\w2.cell? ⟨w.heap.size+1,1,none⟩=some (.int .u8 (ak f).2)/\w2.cell? ⟨w.heap.size+1,2,none⟩=some (.slice fa fn fc)/\w2.cell? ⟨g,0,none⟩=some (.int .u8 (ak c).1)/\w2.cell? ⟨g,1,none⟩=some (.int .u8 (ak c).2)/\w2.cell? ⟨g,2,none⟩=some (.slice ua un uc)):=fun⟨h0,h1,h2,h3,h4,h5,h6,h7,h8⟩ f ⟨o1,o2,o3⟩=>⟨f.cell h0 o1,f.cell h1 o1,f.cell h2 o1,f.cell h3 o2,f.cell h4 o2,f.cell h5 o2,f.cell h6 o3,f.cell h7 o3,f.cell h8 o3⟩
 have hout:∀{w1 w2:World}{F1 F2:Nat->Prop},Fr w1 w2 F1 F2->((w.alloc (tO 20 0 g 1 cap)).alloc (tQ (ak f).1 (ak f).2 fa fn fc)).heap.size<=w1.heap.size->(¬F1 w.heap.size/\¬F1 (w.heap.size+1)/\¬F1 g)->(¬F2 w.heap.size/\¬F2 (w.heap.size+1)/\¬F2 g):=fun f hs ⟨o1,o2,o3⟩=>⟨f.out o1 (by omega),f.out o2 (by omega),f.out o3 (by omega)⟩
 have i0:(((w.alloc (tO 20 0 g 1 cap)).alloc (tQ (ak f).1 (ak f).2 fa fn fc)).cell? ⟨w.heap.size,0,none⟩=some (.int .u8 20)/\((w.alloc (tO 20 0 g 1 cap)).alloc (tQ (ak f).1 (ak f).2 fa fn fc)).cell? ⟨w.heap.size,1,none⟩=some (.int .u8 0)/\((w.alloc (tO 20 0 g 1 cap)).alloc (tQ (ak f).1 (ak f).2 fa fn fc)).cell? ⟨w.heap.size,2,none⟩=some (.slice (some ⟨g,0,none⟩) 1 cap)/\((w.alloc (tO 20 0 g 1 cap)).alloc (tQ (ak f).1 (ak f).2 fa fn fc)).cell? ⟨w.heap.size+1,0,none⟩=some (.int .u8 (ak f).1)/\((w.alloc (tO 20 0 g 1 cap)).alloc (tQ (ak f).1 (ak f).2 fa fn fc)).cell? ⟨w.heap.size+1,1,none⟩=some (.int .u8 (ak f).2)/\((w.alloc (tO 20 0 g 1 cap)).alloc (tQ (ak f).1 (ak f).2 fa fn fc)).cell? ⟨w.heap.size+1,2,none⟩=some (.slice fa fn fc)/\((w.alloc (tO 20 0 g 1 cap)).alloc (tQ (ak f).1 (ak f).2 fa fn fc)).cell? ⟨g,0,none⟩=some (.int .u8 (ak c).1)/\((w.alloc (tO 20 0 g 1 cap)).alloc (tQ (ak f).1 (ak f).2 fa fn fc)).cell? ⟨g,1,none⟩=some (.int .u8 (ak c).2)/\((w.alloc (tO 20 0 g 1 cap)).alloc (tQ (ak f).1 (ak f).2 fa fn fc)).cell? ⟨g,2,none⟩=some (.slice ua un uc)):=by
  obtain⟨n0,n1,n2⟩:=hn.up hb0;exact⟨qc hr1 0,qc hr1 1,qc hr1 2,qc hr2 0,qc hr2 1,qc hr2 2,n0,n1,n2⟩
 have j1:=hk8 _ _ (hu.at.up hb0)
 have kR:Hid (∀e w1,dV (kB c true) ((w.alloc (tO 20 0 g 1 cap)).alloc (tQ (ak f).1 (ak f).2 fa fn fc)) e w1->∃a1 n1 c1,e=.returned (.slice a1 n1 c1)/\∃Q2:Ending->World->Prop,Calls prog 36 #[.slice a1 n1 c1] w1 Q2/\∀e w2,Q2 e w2->∃sa sn sc,e=.returned (aK (ak (aZ c).2) (.slice sa sn sc))/\∃Q3:Ending->World->Prop,Calls prog 35 #[dY p,aK (ak (aZ c).2) (.slice sa sn sc),.int .u8 x] (w2.alloc (tQ ((ak (aZ c).2).1:Int) ((ak (aZ c).2).2:Int) sa sn sc)) Q3/\∀e w3,Q3 e w3->∃a3 n3 c3,e=.returned (.slice a3 n3 c3)/\∃Q4:Ending->World->Prop,Calls prog 37 #[dY p,.slice a3 n3 c3,.slice a0 s.length c0] w3 Q4/\∀e w4,Q4 e w4->(∃a4 n4 c4,e=.returned (.slice a4 n4 c4))/\fG (dX er (dH true (.un (20,0) c) s f x M)) p vb F M w e w4):=by
  rintro e w1 ⟨a1,c1,rfl,t1,b1⟩
  refine⟨a1,_,c1,rfl,_,UY a1 _ c1 _ _ w1 t1 hG.wide,?_⟩
  rintro e w2 ⟨u2,rfl,t2,b2⟩
  obtain⟨sa,sn,sc,rfl⟩:=t2.sl;have hb3:=qd w2 (tQ ((ak (aZ c).2).1:Int) ((ak (aZ c).2).2:Int) sa sn sc);have hbb:=qe (qe (qe hb0 b1) b2) hb3;have Ed:=(hP.up (qe hb0 b1)).flt;have Tc:rY w2 F (aZ c).2 (.slice sa sn sc):=t2.off (fun k hk=>by have:=Ed k hk;omega)
  refine⟨sa,sn,sc,rfl,_,hc p vb F M er _ _ (hP.up hbb) he (Tc.up hb3),?_⟩
  rintro e w3 ⟨F3,M3,Eb,L3,a3,c3,rfl,f3,p3,u3,m3,r3⟩
  have he3:Eb=0\/Eb=9:=r3.imp And.left And.left;refine⟨a3,_,c3,rfl,_,q11 p vb F3 M3 Eb a3 c3 L3 a0 c0 s w3 p3 he3 u3 ((hS.fr (Fr.au hbb)).fr f3),fun e w4 h=>⟨by obtain⟨_,_,_,L,a,c,h1,_⟩:=h;exact⟨a,_,c,h1⟩,?_⟩⟩
  rw[UD hK,if_pos rfl,qy r3];exact h.trans ((Fr.au hbb).trans f3) m3
 have hi0:=fun w'=>qm g 1 cap w' (by omega)
 show Calls prog 61 #[.pointer (some ⟨p,0,none⟩),.agg #[.int .u8 20,.int .u8 0,.slice (some ⟨g,0,none⟩) 1 cap],.slice a0 s.length c0,aK (ak f) (.slice fa fn fc),.int .u8 x,.bool true] w _
 generalize fG (dX er (dH true (.un (20,0) c) s f x M)) p vb F M w=Q at *;clear hb0 hb1 hb2 hr1 hr2 hF hP hP0 he hn hu hg pz hkeep hout hsz hgl hf hS hl kf hc hK hk8 hG;unfold aK dY at *;generalize ak c=rk at *;obtain⟨co,cp⟩:=rk;generalize ak (aZ c).2=rk at *;obtain⟨so,sp⟩:=rk;generalize ak f=rk at *;obtain⟨fo,fp⟩:=rk;dsimp only at *
 obtain⟨y0,y1,y2,y3,y4,y5,y6,y7,y8⟩:=i0;(unfold tO tQ at *);go_enter func61,ntmps61
 go_wp2_with fail
 refine j1.mono ?_
 intro e w1 h;obtain⟨a1,n1,c1,rfl,Q2,j2,h2⟩:=kR.out e w1 h;have kG:Hid _:=h2;clear h h2 j1 kR
 go_wp2_with fail
 refine j2.mono ?_
 intro e w2 h;obtain⟨sa,sn,sc,rfl,Q3,j3,h3⟩:=kG.out e w2 h;have jW:Hid _:=h3;have hr:=(dO w2 (.cells #[.int .u8 so,.int .u8 sp,.slice sa sn sc] 77)).1;have z0:(w2.alloc (.cells #[.int .u8 so,.int .u8 sp,.slice sa sn sc] 77)).cell? ⟨w2.heap.size,0,none⟩=some (.int .u8 so):=qc hr 0;have z1:(w2.alloc (.cells #[.int .u8 so,.int .u8 sp,.slice sa sn sc] 77)).cell? ⟨w2.heap.size,1,none⟩=some (.int .u8 sp):=qc hr 1;have z2:(w2.alloc (.cells #[.int .u8 so,.int .u8 sp,.slice sa sn sc] 77)).cell? ⟨w2.heap.size,2,none⟩=some (.slice sa sn sc):=qc hr 2;clear h h3 j2 kG hr
 go_wp2_with fail
 refine j3.mono ?_
 intro e w3 h;obtain⟨a3,n3,c3,rfl,Q4,j4,h4⟩:=jW.out e w3 h;have yS:Hid _:=h4;clear h h4 j3 jW z0 z1 z2
 go_wp2_with fail
 refine j4.mono ?_
 intro e w4 h;obtain⟨⟨a4,n4,c4,rfl⟩,h5⟩:=yS.out e w4 h;have HE:Hid _:=h5;clear h h5 j4 yS;go_wp2
 first|exact HE.out|(go_ret;exact HE.out)
theorem vL(x:Nat)(box:Bool)(c:Tr)(hv:jR x c=true)(hC:Ir c)(hV:S9 c x)(hN:∀f,KT f->f.flat.length<=100000->uK f):zI box (.un (19,0) c) x:=by
 intro f p vb F M er v v' s a0 c0 w kf hl hP he hT hf hS;obtain⟨g,cap,u,rfl,hg,hn,hu⟩:=hT;obtain⟨ua,un,uc,rfl⟩:=hu.sl;obtain⟨fa,fn,fc,rfl⟩:=hf.sl;have hb1:=qd w (tO 19 0 g 1 cap);have hb2:=qd (w.alloc (tO 19 0 g 1 cap)) (tQ (ak f).1 (ak f).2 fa fn fc);have hb0:=qe hb1 hb2;have hr1:((w.alloc (tO 19 0 g 1 cap)).alloc (tQ (ak f).1 (ak f).2 fa fn fc)).heap[w.heap.size]? =_:=(hb2.block w.heap.size (by simp)).trans (MapKept.heap_alloc w (tO 19 0 g 1 cap)).1
 have hr2:((w.alloc (tO 19 0 g 1 cap)).alloc (tQ (ak f).1 (ak f).2 fa fn fc)).heap[w.heap.size+1]? =some (tQ (ak f).1 (ak f).2 fa fn fc):=by
  rw[show w.heap.size+1=(w.alloc (tO 19 0 g 1 cap)).heap.size by simp]
  exact(dO (w.alloc (tO 19 0 g 1 cap)) (tQ (ak f).1 (ak f).2 fa fn fc)).1
 have hF:=hP.flt;have hP0:=hP.up hb0;have hsz:((w.alloc (tO 19 0 g 1 cap)).alloc (tQ (ak f).1 (ak f).2 fa fn fc)).heap.size=w.heap.size+2:=by simp
 have hgl:g<w.heap.size:=hn.lt;have pz:¬F w.heap.size/\¬F (w.heap.size+1)/\¬F g:=⟨fun h=>by have:=hF _ h;omega,fun h=>by have:=hF _ h;omega,hg⟩
 have hkeep:∀{w1 w2:World}{F1 F2:Nat->Prop},(w1.cell? ⟨w.heap.size,0,none⟩=some (.int .u8 19)/\w1.cell? ⟨w.heap.size,1,none⟩=some (.int .u8 0)/\w1.cell? ⟨w.heap.size,2,none⟩=some (.slice (some ⟨g,0,none⟩) 1 cap)/\w1.cell? ⟨w.heap.size+1,0,none⟩=some (.int .u8 (ak f).1)/\w1.cell? ⟨w.heap.size+1,1,none⟩=some (.int .u8 (ak f).2)/\w1.cell? ⟨w.heap.size+1,2,none⟩=some (.slice fa fn fc)/\w1.cell? ⟨g,0,none⟩=some (.int .u8 (ak c).1)/\w1.cell? ⟨g,1,none⟩=some (.int .u8 (ak c).2)/\w1.cell? ⟨g,2,none⟩=some (.slice ua un uc))->Fr w1 w2 F1 F2->(¬F1 w.heap.size/\¬F1 (w.heap.size+1)/\¬F1 g)->(w2.cell? ⟨w.heap.size,0,none⟩=some (.int .u8 19)/\w2.cell? ⟨w.heap.size,1,none⟩=some (.int .u8 0)/\w2.cell? ⟨w.heap.size,2,none⟩=some (.slice (some ⟨g,0,none⟩) 1 cap)/\w2.cell? ⟨w.heap.size+1,0,none⟩=some (.int .u8 (ak f).1)/\w2.cell? ⟨w.heap.size+1,1,none⟩=some (.int .u8 (ak f).2)/\w2.cell? ⟨w.heap.size+1,2,none⟩=some (.slice fa fn fc)/\w2.cell? ⟨g,0,none⟩=some (.int .u8 (ak c).1)/\w2.cell? ⟨g,1,none⟩=some (.int .u8 (ak c).2)/\w2.cell? ⟨g,2,none⟩=some (.slice ua un uc)):=fun⟨h0,h1,h2,h3,h4,h5,h6,h7,h8⟩ f ⟨o1,o2,o3⟩=>⟨f.cell h0 o1,f.cell h1 o1,f.cell h2 o1,f.cell h3 o2,f.cell h4 o2,f.cell h5 o2,f.cell h6 o3,f.cell h7 o3,f.cell h8 o3⟩
 have hout:∀{w1 w2:World}{F1 F2:Nat->Prop},Fr w1 w2 F1 F2->((w.alloc (tO 19 0 g 1 cap)).alloc (tQ (ak f).1 (ak f).2 fa fn fc)).heap.size<=w1.heap.size->(¬F1 w.heap.size/\¬F1 (w.heap.size+1)/\¬F1 g)->(¬F2 w.heap.size/\¬F2 (w.heap.size+1)/\¬F2 g):=fun f hs ⟨o1,o2,o3⟩=>⟨f.out o1 (by omega),f.out o2 (by omega),f.out o3 (by omega)⟩
 have i0:(((w.alloc (tO 19 0 g 1 cap)).alloc (tQ (ak f).1 (ak f).2 fa fn fc)).cell? ⟨w.heap.size,0,none⟩=some (.int .u8 19)/\((w.alloc (tO 19 0 g 1 cap)).alloc (tQ (ak f).1 (ak f).2 fa fn fc)).cell? ⟨w.heap.size,1,none⟩=some (.int .u8 0)/\((w.alloc (tO 19 0 g 1 cap)).alloc (tQ (ak f).1 (ak f).2 fa fn fc)).cell? ⟨w.heap.size,2,none⟩=some (.slice (some ⟨g,0,none⟩) 1 cap)/\((w.alloc (tO 19 0 g 1 cap)).alloc (tQ (ak f).1 (ak f).2 fa fn fc)).cell? ⟨w.heap.size+1,0,none⟩=some (.int .u8 (ak f).1)/\((w.alloc (tO 19 0 g 1 cap)).alloc (tQ (ak f).1 (ak f).2 fa fn fc)).cell? ⟨w.heap.size+1,1,none⟩=some (.int .u8 (ak f).2)/\((w.alloc (tO 19 0 g 1 cap)).alloc (tQ (ak f).1 (ak f).2 fa fn fc)).cell? ⟨w.heap.size+1,2,none⟩=some (.slice fa fn fc)/\((w.alloc (tO 19 0 g 1 cap)).alloc (tQ (ak f).1 (ak f).2 fa fn fc)).cell? ⟨g,0,none⟩=some (.int .u8 (ak c).1)/\((w.alloc (tO 19 0 g 1 cap)).alloc (tQ (ak f).1 (ak f).2 fa fn fc)).cell? ⟨g,1,none⟩=some (.int .u8 (ak c).2)/\((w.alloc (tO 19 0 g 1 cap)).alloc (tQ (ak f).1 (ak f).2 fa fn fc)).cell? ⟨g,2,none⟩=some (.slice ua un uc)):=by
  obtain⟨n0,n1,n2⟩:=hn.up hb0;exact⟨qc hr1 0,qc hr1 1,qc hr1 2,qc hr2 0,qc hr2 1,qc hr2 2,n0,n1,n2⟩
 have j1:=hC _ _ (hu.at.up hb0);have hl1:f.flat.length<=100000:=by omega
 have kR:Hid (∀e w1,Ba c.flat ((w.alloc (tO 19 0 g 1 cap)).alloc (tQ (ak f).1 (ak f).2 fa fn fc)) e w1->∃a1 n1 c1,e=.returned (.slice a1 n1 c1)/\∃Q2:Ending->World->Prop,Calls prog 64 #[.slice a1 n1 c1,.slice (some ⟨w1.heap.size,0,none⟩) 1 1] (w1.alloc (.cells #[.int .u8 x] 43)) Q2/\∀e w2,Q2 e w2->∃g2 n2 c2,e=.returned (.slice (some ⟨g2,0,none⟩) n2 c2)/\(∀w',(Instr.indexAt 66 (.slice (some ⟨g2,0,none⟩) n2 c2) (.int .i64 0)).run prog w'=.ok (.pointer (some ⟨g2,0,none⟩)) w')/\w2.cell? ⟨g2,0,none⟩=some (.bool true)/\(w2.cell? ⟨w.heap.size,0,none⟩=some (.int .u8 19)/\w2.cell? ⟨w.heap.size,1,none⟩=some (.int .u8 0)/\w2.cell? ⟨w.heap.size,2,none⟩=some (.slice (some ⟨g,0,none⟩) 1 cap)/\w2.cell? ⟨w.heap.size+1,0,none⟩=some (.int .u8 (ak f).1)/\w2.cell? ⟨w.heap.size+1,1,none⟩=some (.int .u8 (ak f).2)/\w2.cell? ⟨w.heap.size+1,2,none⟩=some (.slice fa fn fc)/\w2.cell? ⟨g,0,none⟩=some (.int .u8 (ak c).1)/\w2.cell? ⟨g,1,none⟩=some (.int .u8 (ak c).2)/\w2.cell? ⟨g,2,none⟩=some (.slice ua un uc))/\(∃Q3:Ending->World->Prop,Calls prog 57 #[dY p,aK (ak f) (.slice fa fn fc)] w2 Q3/\∀e w3,Q3 e w3->(∃a3 n3 c3,e=.returned (.slice a3 n3 c3))/\(true=true->fG (dX er (dH box (.un (19,0) c) s f x M)) p vb F M w e w3))/\(∃Q3:Ending->World->Prop,Calls prog 59 #[.bool box] w2 Q3/\∀e w3,Q3 e w3->(∃a3 n3 c3,e=.returned (.slice a3 n3 c3))/\(true=false->fG (dX er (dH box (.un (19,0) c) s f x M)) p vb F M w e w3))):=by
  rintro e w1 ⟨a1,c1,rfl,t1,b1,_⟩
  have hbx:=qd w1 (.cells #[.int .u8 x] 43);refine⟨a1,_,c1,rfl,_,hV a1 c1 _ _ (t1.up hbx) (qc (dO w1 (.cells #[.int .u8 x] 43)).1 0),?_⟩
  rintro e w2 ⟨g2,n2,c2,rfl,hn2,v2,b2⟩
  have hbb:=qe (qe (qe hb0 b1) hbx) b2;have hbw:=qe (qe b1 hbx) b2;rw[hv]at v2;have hfw:Fr w w2 F F:=Fr.au hbb;refine⟨g2,n2,c2,rfl,fun w'=>vE g2 n2 c2 w' hn2,v2,hkeep i0 (Fr.au (F:=F) hbw) pz,⟨_,hN f kf hl1 p vb F M er _ w2 (hP.up hbb) he (hf.fr hfw),fun e w3 h=>⟨by obtain⟨_,_,_,L,a,c,h1,_⟩:=h;exact⟨a,_,c,h1⟩,fun e1=>?_⟩⟩,⟨_,SX box w2,fun e w3 h=>⟨by obtain⟨a,c,h1,_⟩:=h;exact⟨a,_,c,h1⟩,fun e1=>?_⟩⟩⟩
  ·rw[UC,hv,if_pos rfl]
   exact h.trans hfw (List.prefix_refl _)
  ·cases e1
 have hi0:=fun w'=>qm g 1 cap w' (by omega)
 show Calls prog 61 #[.pointer (some ⟨p,0,none⟩),.agg #[.int .u8 19,.int .u8 0,.slice (some ⟨g,0,none⟩) 1 cap],.slice a0 s.length c0,aK (ak f) (.slice fa fn fc),.int .u8 x,.bool box] w _
 generalize fG (dX er (dH box (.un (19,0) c) s f x M)) p vb F M w=Q at *;clear hb0 hb1 hb2 hr1 hr2 hF hP hP0 he hn hu hg pz hkeep hout hsz hgl hf hS hl kf hC hV hN hl1 hv;unfold aK dY at *;generalize ak c=rk at *;obtain⟨co,cp⟩:=rk;generalize ak f=rk at *;obtain⟨fo,fp⟩:=rk;dsimp only at *
 obtain⟨y0,y1,y2,y3,y4,y5,y6,y7,y8⟩:=i0;(unfold tO tQ at *);go_enter func61,ntmps61
 go_wp2_with fail
 refine j1.mono ?_
 intro e w1 h;obtain⟨a1,n1,c1,rfl,Q2,j2,h2⟩:=kR.out e w1 h;have kG:Hid _:=h2;clear h h2 j1 kR y0 y1 y2 y3 y4 y5 y6 y7 y8
 go_wp2_with fail
 refine j2.mono ?_
 intro e w2 h;obtain⟨g2,n2,c2,rfl,hi2,v2,⟨y0,y1,y2,y3,y4,y5,y6,y7,y8⟩,⟨Q3,j3,h3⟩,⟨Q4,j4,h4⟩⟩:=kG.out e w2 h;have jW:Hid _:=h3;have yS:Hid _:=h4;clear h h3 h4 j2 kG
 go_wp2_with fail
 refine j3.mono ?_
 intro e w3 h;obtain⟨⟨a3,n3,c3,rfl⟩,h5⟩:=jW.out e w3 h;have HE:Hid _:=h5 (by trivial)
 clear h h5 j3 j4 jW yS;go_wp2
 first|exact HE.out|(go_ret;exact HE.out)
theorem vQ(x:Nat)(box:Bool)(c:Tr)(hv:jR x c=false)(hC:Ir c)(hV:S9 c x)(hN:∀f,KT f->f.flat.length<=100000->uK f):zI box (.un (19,0) c) x:=by
 intro f p vb F M er v v' s a0 c0 w kf hl hP he hT hf hS;obtain⟨g,cap,u,rfl,hg,hn,hu⟩:=hT;obtain⟨ua,un,uc,rfl⟩:=hu.sl;obtain⟨fa,fn,fc,rfl⟩:=hf.sl;have hb1:=qd w (tO 19 0 g 1 cap);have hb2:=qd (w.alloc (tO 19 0 g 1 cap)) (tQ (ak f).1 (ak f).2 fa fn fc);have hb0:=qe hb1 hb2;have hr1:((w.alloc (tO 19 0 g 1 cap)).alloc (tQ (ak f).1 (ak f).2 fa fn fc)).heap[w.heap.size]? =_:=(hb2.block w.heap.size (by simp)).trans (MapKept.heap_alloc w (tO 19 0 g 1 cap)).1
 have hr2:((w.alloc (tO 19 0 g 1 cap)).alloc (tQ (ak f).1 (ak f).2 fa fn fc)).heap[w.heap.size+1]? =some (tQ (ak f).1 (ak f).2 fa fn fc):=by
  rw[show w.heap.size+1=(w.alloc (tO 19 0 g 1 cap)).heap.size by simp]
  exact(dO (w.alloc (tO 19 0 g 1 cap)) (tQ (ak f).1 (ak f).2 fa fn fc)).1
 have hF:=hP.flt;have hP0:=hP.up hb0;have hsz:((w.alloc (tO 19 0 g 1 cap)).alloc (tQ (ak f).1 (ak f).2 fa fn fc)).heap.size=w.heap.size+2:=by simp
 have hgl:g<w.heap.size:=hn.lt;have pz:¬F w.heap.size/\¬F (w.heap.size+1)/\¬F g:=⟨fun h=>by have:=hF _ h;omega,fun h=>by have:=hF _ h;omega,hg⟩
 have hkeep:∀{w1 w2:World}{F1 F2:Nat->Prop},(w1.cell? ⟨w.heap.size,0,none⟩=some (.int .u8 19)/\w1.cell? ⟨w.heap.size,1,none⟩=some (.int .u8 0)/\w1.cell? ⟨w.heap.size,2,none⟩=some (.slice (some ⟨g,0,none⟩) 1 cap)/\w1.cell? ⟨w.heap.size+1,0,none⟩=some (.int .u8 (ak f).1)/\w1.cell? ⟨w.heap.size+1,1,none⟩=some (.int .u8 (ak f).2)/\w1.cell? ⟨w.heap.size+1,2,none⟩=some (.slice fa fn fc)/\w1.cell? ⟨g,0,none⟩=some (.int .u8 (ak c).1)/\w1.cell? ⟨g,1,none⟩=some (.int .u8 (ak c).2)/\w1.cell? ⟨g,2,none⟩=some (.slice ua un uc))->Fr w1 w2 F1 F2->(¬F1 w.heap.size/\¬F1 (w.heap.size+1)/\¬F1 g)->(w2.cell? ⟨w.heap.size,0,none⟩=some (.int .u8 19)/\w2.cell? ⟨w.heap.size,1,none⟩=some (.int .u8 0)/\w2.cell? ⟨w.heap.size,2,none⟩=some (.slice (some ⟨g,0,none⟩) 1 cap)/\w2.cell? ⟨w.heap.size+1,0,none⟩=some (.int .u8 (ak f).1)/\w2.cell? ⟨w.heap.size+1,1,none⟩=some (.int .u8 (ak f).2)/\w2.cell? ⟨w.heap.size+1,2,none⟩=some (.slice fa fn fc)/\w2.cell? ⟨g,0,none⟩=some (.int .u8 (ak c).1)/\w2.cell? ⟨g,1,none⟩=some (.int .u8 (ak c).2)/\w2.cell? ⟨g,2,none⟩=some (.slice ua un uc)):=fun⟨h0,h1,h2,h3,h4,h5,h6,h7,h8⟩ f ⟨o1,o2,o3⟩=>⟨f.cell h0 o1,f.cell h1 o1,f.cell h2 o1,f.cell h3 o2,f.cell h4 o2,f.cell h5 o2,f.cell h6 o3,f.cell h7 o3,f.cell h8 o3⟩
 have hout:∀{w1 w2:World}{F1 F2:Nat->Prop},Fr w1 w2 F1 F2->((w.alloc (tO 19 0 g 1 cap)).alloc (tQ (ak f).1 (ak f).2 fa fn fc)).heap.size<=w1.heap.size->(¬F1 w.heap.size/\¬F1 (w.heap.size+1)/\¬F1 g)->(¬F2 w.heap.size/\¬F2 (w.heap.size+1)/\¬F2 g):=fun f hs ⟨o1,o2,o3⟩=>⟨f.out o1 (by omega),f.out o2 (by omega),f.out o3 (by omega)⟩
 have i0:(((w.alloc (tO 19 0 g 1 cap)).alloc (tQ (ak f).1 (ak f).2 fa fn fc)).cell? ⟨w.heap.size,0,none⟩=some (.int .u8 19)/\((w.alloc (tO 19 0 g 1 cap)).alloc (tQ (ak f).1 (ak f).2 fa fn fc)).cell? ⟨w.heap.size,1,none⟩=some (.int .u8 0)/\((w.alloc (tO 19 0 g 1 cap)).alloc (tQ (ak f).1 (ak f).2 fa fn fc)).cell? ⟨w.heap.size,2,none⟩=some (.slice (some ⟨g,0,none⟩) 1 cap)/\((w.alloc (tO 19 0 g 1 cap)).alloc (tQ (ak f).1 (ak f).2 fa fn fc)).cell? ⟨w.heap.size+1,0,none⟩=some (.int .u8 (ak f).1)/\((w.alloc (tO 19 0 g 1 cap)).alloc (tQ (ak f).1 (ak f).2 fa fn fc)).cell? ⟨w.heap.size+1,1,none⟩=some (.int .u8 (ak f).2)/\((w.alloc (tO 19 0 g 1 cap)).alloc (tQ (ak f).1 (ak f).2 fa fn fc)).cell? ⟨w.heap.size+1,2,none⟩=some (.slice fa fn fc)/\((w.alloc (tO 19 0 g 1 cap)).alloc (tQ (ak f).1 (ak f).2 fa fn fc)).cell? ⟨g,0,none⟩=some (.int .u8 (ak c).1)/\((w.alloc (tO 19 0 g 1 cap)).alloc (tQ (ak f).1 (ak f).2 fa fn fc)).cell? ⟨g,1,none⟩=some (.int .u8 (ak c).2)/\((w.alloc (tO 19 0 g 1 cap)).alloc (tQ (ak f).1 (ak f).2 fa fn fc)).cell? ⟨g,2,none⟩=some (.slice ua un uc)):=by
  obtain⟨n0,n1,n2⟩:=hn.up hb0;exact⟨qc hr1 0,qc hr1 1,qc hr1 2,qc hr2 0,qc hr2 1,qc hr2 2,n0,n1,n2⟩
 have j1:=hC _ _ (hu.at.up hb0);have hl1:f.flat.length<=100000:=by omega
 have kR:Hid (∀e w1,Ba c.flat ((w.alloc (tO 19 0 g 1 cap)).alloc (tQ (ak f).1 (ak f).2 fa fn fc)) e w1->∃a1 n1 c1,e=.returned (.slice a1 n1 c1)/\∃Q2:Ending->World->Prop,Calls prog 64 #[.slice a1 n1 c1,.slice (some ⟨w1.heap.size,0,none⟩) 1 1] (w1.alloc (.cells #[.int .u8 x] 43)) Q2/\∀e w2,Q2 e w2->∃g2 n2 c2,e=.returned (.slice (some ⟨g2,0,none⟩) n2 c2)/\(∀w',(Instr.indexAt 66 (.slice (some ⟨g2,0,none⟩) n2 c2) (.int .i64 0)).run prog w'=.ok (.pointer (some ⟨g2,0,none⟩)) w')/\w2.cell? ⟨g2,0,none⟩=some (.bool false)/\(w2.cell? ⟨w.heap.size,0,none⟩=some (.int .u8 19)/\w2.cell? ⟨w.heap.size,1,none⟩=some (.int .u8 0)/\w2.cell? ⟨w.heap.size,2,none⟩=some (.slice (some ⟨g,0,none⟩) 1 cap)/\w2.cell? ⟨w.heap.size+1,0,none⟩=some (.int .u8 (ak f).1)/\w2.cell? ⟨w.heap.size+1,1,none⟩=some (.int .u8 (ak f).2)/\w2.cell? ⟨w.heap.size+1,2,none⟩=some (.slice fa fn fc)/\w2.cell? ⟨g,0,none⟩=some (.int .u8 (ak c).1)/\w2.cell? ⟨g,1,none⟩=some (.int .u8 (ak c).2)/\w2.cell? ⟨g,2,none⟩=some (.slice ua un uc))/\(∃Q3:Ending->World->Prop,Calls prog 57 #[dY p,aK (ak f) (.slice fa fn fc)] w2 Q3/\∀e w3,Q3 e w3->(∃a3 n3 c3,e=.returned (.slice a3 n3 c3))/\(false=true->fG (dX er (dH box (.un (19,0) c) s f x M)) p vb F M w e w3))/\(∃Q3:Ending->World->Prop,Calls prog 59 #[.bool box] w2 Q3/\∀e w3,Q3 e w3->(∃a3 n3 c3,e=.returned (.slice a3 n3 c3))/\(false=false->fG (dX er (dH box (.un (19,0) c) s f x M)) p vb F M w e w3))):=by
  rintro e w1 ⟨a1,c1,rfl,t1,b1,_⟩
  have hbx:=qd w1 (.cells #[.int .u8 x] 43);refine⟨a1,_,c1,rfl,_,hV a1 c1 _ _ (t1.up hbx) (qc (dO w1 (.cells #[.int .u8 x] 43)).1 0),?_⟩
  rintro e w2 ⟨g2,n2,c2,rfl,hn2,v2,b2⟩
  have hbb:=qe (qe (qe hb0 b1) hbx) b2;have hbw:=qe (qe b1 hbx) b2;rw[hv]at v2;have hfw:Fr w w2 F F:=Fr.au hbb;refine⟨g2,n2,c2,rfl,fun w'=>vE g2 n2 c2 w' hn2,v2,hkeep i0 (Fr.au (F:=F) hbw) pz,⟨_,hN f kf hl1 p vb F M er _ w2 (hP.up hbb) he (hf.fr hfw),fun e w3 h=>⟨by obtain⟨_,_,_,L,a,c,h1,_⟩:=h;exact⟨a,_,c,h1⟩,fun e1=>?_⟩⟩,⟨_,SX box w2,fun e w3 h=>⟨by obtain⟨a,c,h1,_⟩:=h;exact⟨a,_,c,h1⟩,fun e1=>?_⟩⟩⟩
  ·cases e1
  ·rw[UC,hv,if_neg (by decide)]
   exact(KY hP he (Gy box) hbb h).2
 have hi0:=fun w'=>qm g 1 cap w' (by omega)
 show Calls prog 61 #[.pointer (some ⟨p,0,none⟩),.agg #[.int .u8 19,.int .u8 0,.slice (some ⟨g,0,none⟩) 1 cap],.slice a0 s.length c0,aK (ak f) (.slice fa fn fc),.int .u8 x,.bool box] w _
 generalize fG (dX er (dH box (.un (19,0) c) s f x M)) p vb F M w=Q at *;clear hb0 hb1 hb2 hr1 hr2 hF hP hP0 he hn hu hg pz hkeep hout hsz hgl hf hS hl kf hC hV hN hl1 hv;unfold aK dY at *;generalize ak c=rk at *;obtain⟨co,cp⟩:=rk;generalize ak f=rk at *;obtain⟨fo,fp⟩:=rk;dsimp only at *
 obtain⟨y0,y1,y2,y3,y4,y5,y6,y7,y8⟩:=i0;(unfold tO tQ at *);go_enter func61,ntmps61
 go_wp2_with fail
 refine j1.mono ?_
 intro e w1 h;obtain⟨a1,n1,c1,rfl,Q2,j2,h2⟩:=kR.out e w1 h;have kG:Hid _:=h2;clear h h2 j1 kR y0 y1 y2 y3 y4 y5 y6 y7 y8
 go_wp2_with fail
 refine j2.mono ?_
 intro e w2 h;obtain⟨g2,n2,c2,rfl,hi2,v2,⟨y0,y1,y2,y3,y4,y5,y6,y7,y8⟩,⟨Q3,j3,h3⟩,⟨Q4,j4,h4⟩⟩:=kG.out e w2 h;have jW:Hid _:=h3;have yS:Hid _:=h4;clear h h3 h4 j2 kG
 go_wp2_with fail
 refine j4.mono ?_
 intro e w3 h;obtain⟨⟨a3,n3,c3,rfl⟩,h5⟩:=yS.out e w3 h;have HE:Hid _:=h5 (by trivial)
 clear h h5 j3 j4 jW yS;go_wp2
 first|exact HE.out|(go_ret;exact HE.out)
theorem Vq{R:Nat}:∀{r:Tr},r.size<=R->oW r<=r.size*(R+2)
 | .leaf _,_=>by simp[oW]
 | .un k c,h=>by
  have hs:(Tr.un k c).size=c.size+1:=rfl;have ih:=Vq (R:=R) (r:=c) (by omega)
  unfold oW;rw[<-qQ,hs,Nat.add_mul,Nat.one_mul]
  split<;>omega
 | .bin k c d,h=>by
  have hs:(Tr.bin k c d).size=c.size+d.size+1:=rfl;have ic:=Vq (R:=R) (r:=c) (by omega)
  have id:=Vq (R:=R) (r:=d) (by omega)
  unfold oW;rw[<-qQ,hs,Nat.add_mul,Nat.add_mul,Nat.one_mul]
  split<;>omega
theorem vR{f:Tr}(h:KT f)(hl:f.flat.length<=100000):uK f:=Vm f h.wf (Nr h.wf) hl
theorem v8(h2:T0.size<=200)(h:BI T0 T):T.size<=400:=by
 rcases h with h|⟨S,hS,kS,rfl⟩|rfl|rfl
 ·have:=BH h
  omega
 ·have:=BH hS
  have:=JG S kS
  omega
 ·simp[Tr.size]
 ·simp[Tr.size]
theorem Vr(h2:T0.size<=200)(h:jD T0 T):T.size<=41000:=by
 rcases h with h|⟨box,r,f,h1,h3⟩
 ·have:=v8 h2 h
  omega
 ·have hr:=BH ((MI h1).2.2 (Qb box))
  have hf:=v8 h2 (MI h1).2.1;have a:=JF box (R:=200) (by omega) h3
  have:r.size*(200+2)<=200*(200+2):=Nat.mul_le_mul_right _ (by omega)
  omega
theorem wh{T0:Tr}(h0:KT T0)(h2:T0.size<=200){x:Nat}(hx:x<256)(hV:∀c,c.WF->bD c=true->c∈bY T0->S9 c x):∀n:Nat,(∀T,jD T0 T->KT T->hgt T<=n->pq T x)/\(∀r,r∈bY T0->KP r->hgt r<=n->∀box,zI box r x)
 | 0=>⟨fun T _ _ h=>absurd (LY T) (by omega),fun r _ _ h=>absurd (LY r) (by omega)⟩
 |n+1=>by
  obtain⟨Nu,Td⟩:=wh h0 h2 hx hV n;refine⟨fun T hT kT hg=>?_,fun r hr kr hg box=>?_⟩
  ·have hsz:=Vr h2 hT
   have hN:∀S,KT S->S.size<=41000->uK S:=fun S kS hs=>vR kS (by rw[<-qQ];omega)
   match T,hT,kT,hg,hsz with
   | .leaf (op,q),hT,kT,hg,hsz=>
    rcases Aw kT with⟨rfl,hq⟩|⟨rfl,rfl|rfl|rfl|rfl⟩
    ·exact qc0 q x hq hx
    ·exact qbY 0 x
    ·exact qbZ 0 x
    ·exact qc1 0 x
    ·exact qc2 0 x
   | .un (op,q) c,hT,kT,hg,hsz=>
    rcases ku kT with⟨rfl,⟨rfl,q,rfl⟩|⟨ho,hc⟩⟩
    ·have hq:q<=7:=by
      have hw:=(qw kT.wf).2.1;have:=qG hw
      omega
     exact qc3 q x hq hx
    ·have hcs:c.size<=41000:=by have:(Tr.un (op,0) c).size=c.size+1:=rfl;omega
     rcases ho with rfl|rfl
     ·exact qc4 x c (hN (.leaf (4,0)) ⟨⟨rfl,rfl⟩,rfl,rfl⟩ (by simp[Tr.size])) (hN c hc hcs)
     ·exact qc5 x c (hN (.leaf (5,0)) ⟨⟨rfl,rfl⟩,rfl,rfl⟩ (by simp[Tr.size])) (hN c hc hcs)
   | .bin (op,q) c d,hT,kT,hg,hsz=>
    obtain⟨rfl,ho⟩:=xG kT;obtain⟨iC,iD,iW⟩:=ML hT;have hh:max (hgt c) (hgt d)+1<=n+1:=hg;by_cases hw:op=17\/op=18
    ·obtain⟨kc,kd⟩:=uP kT hw
     have hcs:=iW hw;have hc2:=BH hcs;have hgw:=Vq (R:=200) (r:=c) (by omega)
     have:c.size*(200+2)<=200*(200+2):=Nat.mul_le_mul_right _ (by omega)
     have hds:=Vr h2 iD;have hl:d.flat.length+oW c<=100000:=by rw[<-qQ];omega
     rcases hw with rfl|rfl
     ·exact qb0 x c d kT (Td c hcs kc (by omega) false) (Nu d iD kd (by omega)) hl
     ·exact qb1 x c d kT (Td c hcs kc (by omega) true) (Nu d iD kd (by omega)) hl
    ·have wV:op=11\/op=12\/op=15\/op=16:=by omega
     obtain⟨kc,kd⟩:=qB kT wV;have aC:=Nu c iC kc (by omega)
     have aD:=Nu d iD kd (by omega)
     rcases wV with rfl|rfl|rfl|rfl
     ·exact qaW x c d kT aC aD
     ·exact qaX x c d kT aC aD
     ·exact qaY x c d kT aC aD (hN _ kT hsz)
     ·exact qaZ x c d kT aC aD (hN _ kT hsz)
  ·match r,hr,kr,hg with
   | .leaf k,hr,kr,hg=>exact(EZ kr).elim
   | .un (op,q) c,hr,kr,hg=>
    have hcs:=EC hr;have hc2:=BH hcs;obtain⟨rfl,⟨rfl,hw,hp⟩|⟨rfl,kc⟩|⟨rfl,kc⟩⟩:=kC kr
    ·have hC:Ir c:=q12 c (Nr hw) (by rw[<-qQ];omega)
     have hv:=hV c hw hp hcs;have hN:∀f,KT f->f.flat.length<=100000->uK f:=fun f kf hf=>vR kf hf
     cases hb:jR x c<;>cases box
     ·exact vQ x false c hb hC hv hN
     ·exact vQ x true c hb hC hv hN
     ·exact vL x false c hb hC hv hN
     ·exact vL x true c hb hC hv hN
    ·have hgc:hgt c+1<=n+1:=hg
     cases box
     ·exact q8m x c kr (Nu c (MK hcs) kc (by omega))
     ·have kn:=GY kc
      have hns:=JG c kc;refine q8n x c kr (fun u w h=>Vp c kc.wf ?_ true u w h) (Cj kn.wf (by rw[<-qQ];omega)) (Nu _ (MJ hcs kc) kn (by rw[yJ c kc];omega))
      have h1:wt c<=c.size:=by
       have:s1 c=c.size:=by
        unfold s1;rw[(Ar c kc.wf kc.kr).1];exact(qQ c).symm
       unfold wt
       split<;>omega
      omega
    ·have hgc:hgt c+1<=n+1:=hg
     have pc:=Td c hcs kc (by omega)
     cases box
     ·exact vp x false c kr (pc false) (fun f kf=>zT kr kf false)
     ·exact vp x true c kr (pc true) (fun f kf=>zT kr kf true)
   | .bin (op,q) c d,hr,kr,hg=>
    obtain⟨hcs,hds⟩:=yg hr;have hh:max (hgt c) (hgt d)+1<=n+1:=hg;obtain⟨rfl,ho,kc,kd⟩:=xH kr;have pc:=Td c hcs kc (by omega)
    have pd:=Td d hds kd (by omega)
    rcases ho with rfl|rfl<;>cases box
    ·exact vf x false c d kr (pc false) (pd false)
    ·exact vf x true c d kr (pc true) (pd true)
    ·exact vo x false c d kr (pc false) (pd false) (fun f kf=>zT kd kf false)
    ·exact vo x true c d kr (pc true) (pd true) (fun f kf=>zT kd kf true)
def Lc(n x k:Nat):Nat:=if k<n then x else 0
theorem Nv:∀T:Tr,T.WF->bD T=true->∀(n tc x:Nat)(ta:Option Addr),x<256->n<=1->AY n ta tc x T (fun k=>jR (Lc n x k) T)
 | .leaf (op,p),hw,hp,n,tc,x,ta,hx,hn=>by
  rw[VI]at hp;rcases qG hw with⟨rfl,h7⟩|⟨rfl,rfl|rfl|rfl|rfl|rfl⟩
  ·refine Ip 2 (by decide) p n tc x ta _ fun k hk w' hl=>?_
   by_cases hkn:k<n
   ·obtain rfl:n=1:=by omega
    obtain rfl:k=0:=by omega
    rcases hl with⟨h,_⟩|⟨_,rfl,tb,rfl,hc⟩
    ·exact absurd h (by decide)
    ·have:=qcd p x tb (by omega) hx (.slice none 0 0) (.slice none 0 0) (.slice none 0 0) w' hc
     have e:jR (Lc 1 x 0) (.leaf (2,p))=x.testBit p:=by simp[jR,Lc]
     rw[e];exact this
   ·have:=pv p n k (by omega) ta tc (.slice none 0 0) (.slice none 0 0) (.slice none 0 0) w'
    have e:jR (Lc n x k) (.leaf (2,p))=false:=by simp[jR,Lc,hkn]
    rw[e];exact this
  ·exact Ip 0 (by decide) 0 n tc x ta _ fun k hk w' hl=>o5 0 n k ta tc _ _ _ w'
  ·exact Ip 1 (by decide) 0 n tc x ta _ fun k hk w' hl=>o6 0 n k ta tc _ _ _ w'
  ·cases hp
  ·cases hp
  ·cases hp
 | .un (op,p) c,hw,hp,n,tc,x,ta,hx,hn=>by
  rw[q16,Bool.and_eq_true]at hp;obtain⟨rfl,hc,_,ho⟩:=qw hw;rcases ho with rfl|rfl|rfl|rfl|rfl|rfl|rfl|rfl
  ·have ih:=Nv c hc hp.2 n tc x ta hx hn
   refine U1 6 (by decide) 0 n tc x ta c _ _ ih fun k hk w' hl ga hga=>?_
   have:=pe 0 (n+1) n k hk ta tc ga _ (qR _ _) (.slice none 0 0) (.slice none 0 0) w' hga
   rw[qW _ hk]at this;exact this
  all_goals exact absurd hp.1 (by decide)
 | .bin (op,p) c d,hw,hp,n,tc,x,ta,hx,hn=>by
  rw[qn,Bool.and_eq_true,Bool.and_eq_true]at hp;obtain⟨rfl,hc,hd,_,ho⟩:=qt hw;have ic:=Nv c hc hp.2.1 n tc x ta hx hn;have id:=Nv d hd hp.2.2 n tc x ta hx hn;rcases ho with rfl|rfl|rfl|rfl|rfl|rfl|rfl|rfl|rfl|rfl
  ·refine Iq 11 (by decide) 0 n tc x ta c d _ _ _ ic id fun k hk w' hl ga hga gb hgb=>?_
   have:=pj 0 (n+1) n k hk ta tc ga gb _ _ (qR _ _) (qR _ _) (.slice none 0 0) w' hga hgb
   rw[qW _ hk,qW _ hk]at this;exact this
  ·refine Iq 12 (by decide) 0 n tc x ta c d _ _ _ ic id fun k hk w' hl ga hga gb hgb=>?_
   have:=pn 0 (n+1) n k hk ta tc ga gb _ _ (qR _ _) (qR _ _) (.slice none 0 0) w' hga hgb
   rw[qW _ hk,qW _ hk]at this;exact this
  ·refine Iq 13 (by decide) 0 n tc x ta c d _ _ _ ic id fun k hk w' hl ga hga gb hgb=>?_
   have:=qc7 0 (n+1) n k hk ta tc ga gb _ _ (qR _ _) (qR _ _) (.slice none 0 0) w' hga hgb
   rw[qW _ hk,qW _ hk]at this;exact this
  ·refine Iq 14 (by decide) 0 n tc x ta c d _ _ _ ic id fun k hk w' hl ga hga gb hgb=>?_
   have:=qc8 0 (n+1) n k hk ta tc ga gb _ _ (qR _ _) (qR _ _) (.slice none 0 0) w' hga hgb
   rw[qW _ hk,qW _ hk]at this;exact this
  all_goals exact absurd hp.1 (by decide)
theorem qx:∀T:Tr,(KT T->AY 0 none 0 0 T (fun _=>bW T))/\(KP T->BM 0 none 0 0 T (bW T))
 | .leaf (op,p)=>by
  refine⟨fun hT=>?_,fun hT=>(EZ hT).elim⟩
  rcases Aw hT with⟨rfl,_⟩|⟨rfl,rfl|rfl|rfl|rfl⟩
  ·exact Ip 2 (by decide) p 0 0 0 none _ fun k hk w' hl=>pv p 0 k (Nat.zero_le _) none 0 _ _ _ w'
  ·exact Ip 0 (by decide) 0 0 0 0 none _ fun k hk w' hl=>o5 0 0 k none 0 _ _ _ w'
  ·exact Ip 1 (by decide) 0 0 0 0 none _ fun k hk w' hl=>o6 0 0 k none 0 _ _ _ w'
  ·exact Ip 4 (by decide) 0 0 0 0 none _ fun k hk w' hl=>by
     obtain rfl:k=0:=by omega
     exact qdF _ _ _ w'
  ·exact Ip 5 (by decide) 0 0 0 0 none _ fun k hk w' hl=>by
     obtain rfl:k=0:=by omega
     exact qdG _ _ _ w'
 | .un (op,p) c=>by
  refine⟨fun hT=>?_,fun hT=>?_⟩
  ·rcases ku hT with⟨rfl,⟨rfl,q,rfl⟩|⟨ho,hc⟩⟩
   ·have hq:(Tr.leaf (2,q)).WF:=(qw hT.wf).2.1
    have ih:=Nv (.leaf (2,q)) hq (by rw[VI];rfl) 0 0 0 none (by omega) (by omega)
    refine U1 6 (by decide) 0 0 0 0 none _ _ _ ih fun k hk w' hl ga hga=>?_
    have:=pe 0 1 0 k hk none 0 ga _ (qR _ _) (.slice none 0 0) (.slice none 0 0) w' hga
    rw[qW _ hk]at this;have e:jR (Lc 0 0 k) (.leaf (2,q))=false:=by simp[jR,Lc]
    rw[e]at this;exact this
   ·have ih:=(qx c).1 hc
    rcases ho with rfl|rfl
    ·exact U1 7 (by decide) 0 0 0 0 none c _ _ ih fun k hk w' hl ga hga=>by
      obtain rfl:k=0:=by omega
      exact qdH _ _ _ w'
    ·exact U1 8 (by decide) 0 0 0 0 none c _ _ ih fun k hk w' hl ga hga=>by
      obtain rfl:k=0:=by omega
      exact qdI _ _ _ w'
  ·rcases kC hT with⟨rfl,⟨rfl,hc,hpl⟩|⟨rfl,hc⟩|⟨rfl,hc⟩⟩
   ·exact qdJ 0 c _ (Nv c hc hpl 0 0 0 none (by omega) (by omega))
   ·exact qdK 0 c _ ((qx c).1 hc)
   ·exact qdN 0 c _ ((qx c).2 hc)
 | .bin (op,p) c d=>by
  refine⟨fun hT=>?_,fun hT=>?_⟩
  ·obtain⟨rfl,ho⟩:=xG hT
   rcases ho with rfl|rfl|rfl|rfl|rfl|rfl
   ·obtain⟨kc,kd⟩:=qB hT (by simp)
    refine Iq 11 (by decide) 0 0 0 0 none c d _ _ _ ((qx c).1 kc) ((qx d).1 kd) fun k hk w' hl ga hga gb hgb=>?_
    have:=pj 0 1 0 k hk none 0 ga gb _ _ (qR _ _) (qR _ _) (.slice none 0 0) w' hga hgb
    rw[qW _ hk,qW _ hk]at this;exact this
   ·obtain⟨kc,kd⟩:=qB hT (by simp)
    refine Iq 12 (by decide) 0 0 0 0 none c d _ _ _ ((qx c).1 kc) ((qx d).1 kd) fun k hk w' hl ga hga gb hgb=>?_
    have:=pn 0 1 0 k hk none 0 ga gb _ _ (qR _ _) (qR _ _) (.slice none 0 0) w' hga hgb
    rw[qW _ hk,qW _ hk]at this;exact this
   ·obtain⟨kc,kd⟩:=qB hT (by simp)
    exact Iq 15 (by decide) 0 0 0 0 none c d _ _ _ ((qx c).1 kc) ((qx d).1 kd) fun k hk w' hl ga hga gb hgb=>by
     obtain rfl:k=0:=by omega
     exact qc9 ga gb _ w'
   ·obtain⟨kc,kd⟩:=qB hT (by simp)
    exact Iq 16 (by decide) 0 0 0 0 none c d _ _ _ ((qx c).1 kc) ((qx d).1 kd) fun k hk w' hl ga hga gb hgb=>by
     obtain rfl:k=0:=by omega
     exact qca ga gb _ _ _ w' hga hgb
   ·obtain⟨kc,kd⟩:=uP hT (by simp)
    exact pw 17 (by decide) 0 0 0 0 none c d _ _ _ ((qx c).2 kc) ((qx d).1 kd) fun k hk w' hl v hv gb hgb=>by
     obtain rfl:k=0:=by omega
     exact qcb gb _ _ _ v w' hgb hv
   ·obtain⟨kc,kd⟩:=uP hT (by simp)
    exact pw 18 (by decide) 0 0 0 0 none c d _ _ _ ((qx c).2 kc) ((qx d).1 kd) fun k hk w' hl v hv gb hgb=>by
     obtain rfl:k=0:=by omega
     exact qcc gb _ _ _ v w' hgb hv
  ·obtain⟨rfl,ho,kc,kd⟩:=xH hT
   rcases ho with rfl|rfl
   ·exact qdL 0 c d _ _ ((qx c).2 kc) ((qx d).2 kd)
   ·exact qdM 0 c d _ _ ((qx c).2 kc) ((qx d).2 kd)
theorem wq(T:Tr)(hW:T.WF)(hl:T.flat.length<=100000)(n tc x:Nat)(ta:Option Addr)(V:Nat->Bool)(hV:AY n ta tc x T V)(a:Option Addr)(cap:Nat)(w:World)(hT:bG w a T.flat.length cap T.flat)(hL:eY w n ta tc x):
  Calls prog 64 #[.slice a T.flat.length cap,.slice ta n tc] w (rG (n+1) V w):=by
 have j:=UY a T.flat.length cap _ T w hT (YH hW hl);have HJ:Hid (∀(u:Value)(w':World),jO w' (w.heap.size+1) T u->Below w.heap.size w w'->Calls prog 91 #[aK (ak T) u,.slice ta n tc] w' fun e w''=>∃g,e=.returned (.slice (some ⟨g,0,none⟩) (n+1) (n+1))/\rG (n+1) V w e w''):=fun u w' h1 h2=>(hV u w' h1.at (hL.up h2)).mono fun e w'' ⟨g,e1,e2,e3,e4⟩=>⟨g,e1,g,e1,e2,qe h2 e3,Nat.le_trans h2.size e4⟩
 clear hT hL hV;generalize rG (n+1) V w=Q at *;generalize T.flat.length=len at *;unfold Dx at j;unfold aK at j HJ;generalize hrk:ak T=rk at *;obtain⟨ro,rp⟩:=rk;dsimp only at j HJ
 go_enter func64,ntmps64
 go_wp2_with fail
 (with_reducible refine j.mono ?_)
 rintro e w1 ⟨u,rfl,h1,h2⟩
 have j2:=HJ.out u w1 h1 h2;clear j h1 h2
 go_wp2_with fail
 (with_reducible refine j2.mono ?_)
 rintro e w2 ⟨g,rfl,hq⟩
 have HQ:=aX hq;clear hq j2;go_wp2;exact HQ.out
theorem qdU(c:Tr)(hW:c.WF)(hp:bD c=true)(hl:c.flat.length<=100000)(x:Nat)(hx:x<256):S9 c x:=by
 intro a cap b w hT hc;refine (wq c hW hl 1 1 x (some ⟨b,0,none⟩) _ (Nv c hW hp 1 1 x _ hx (by omega)) a cap w hT (.inr ⟨rfl,rfl,b,rfl,hc⟩)).mono ?_
 rintro e w' ⟨g,rfl,h1,h2,_⟩
 refine⟨g,2,2,rfl,by omega,?_,h2⟩
 have:=h1.cell (i:=0) (by rw[qR];omega)
 rw[qW _ (by omega)]at this
 exact this
theorem q9j(T:Tr)(kT:KT T)(hl:T.flat.length<=100000)(a:Option Addr)(cap:Nat)(w:World)(hT:bG w a T.flat.length cap T.flat):
  Calls prog 38 #[.slice a T.flat.length cap] w fun e w'=>e=.returned (.bool (bW T))/\Below w.heap.size w w':=by
 have j:=wq T kT.wf hl 0 0 0 none _ ((qx T).1 kT) a cap w hT (.inl ⟨rfl,rfl,rfl⟩);unfold rG zx at j;generalize T.flat.length=len at *;generalize bW T=r at *;rw[show (0+1:Nat)=1 from rfl]at j;clear hT;go_enter func38,ntmps38
 go_wp2_with fail
 (with_reducible refine j.mono ?_)
 rintro e w1 ⟨g,rfl,h1,h2,_⟩
 have c1:=aN.cell1 (b:=r) h1;have i1:=fun w'=>qr g w'
 have HB:Hid _:=h2;clear h1 h2 j;go_wp2;go_ret
 exact⟨rfl,HB.out⟩
theorem xk.setB{er:Nat}{vm:Value}{rows:List Value}(h:xk w F p M er vb vm rows)(v:Value):xk (w.setCell ⟨p,1,none⟩ v) F p M er v vm rows:=by
 have hp:F p:=(h.foot p).2 (.inl rfl);refine⟨?_,WI h.row (by dsimp only;omega) _,h.foot,fun i f hf=>?_,h.few⟩
 ·rw[heap_setCell_same w p 1 _ _ _ h.blk];rfl
 ·obtain⟨a,n,c,h1,h2,h3⟩:=h.met i f hf
  exact⟨a,n,c,h1,((Fr.au (Below.refl _ _)).oh (F:=F) _ (.inl hp)).tks h2 h3,h3⟩
def Ap(ts : List Tk)(w : World)(e : Ending)(w' : World) : Prop := Below w.heap.size w w' ∧
  ((bM ts ≠ 0 ∧ e = .returned (.tuple #[.pointer none, .int .i64 (bM ts : Int)])) ∨
   (bM ts = 0 ∧ ∃ T, KT T ∧ ts = T.flat ∧ ((aH T [] = none ∧ e = .returned (.tuple #[.pointer none, .int .i64 9])) ∨
     ∃ L M F p a c, aH T [] = some (L, M) ∧ e = .returned (.tuple #[dY p, .int .i64 0]) ∧ RP w' F p M 0 (.slice a L.length c) ∧ lN w w' F a c L ∧ ∀ k, F k → w.heap.size ≤ k)))
theorem q9A(a:Option Addr)(len cap:Nat)(ts:List Tk)(w:World)(hT:bG w a len cap ts):Calls prog 30 #[.slice a len cap] w (Ap ts w):=by
 have j1:=vB a len cap ts w hT;obtain⟨Q,hQ⟩:∃Q:Ending->World->Prop,Q=Ap ts w:=⟨_,rfl⟩
 rw[<-hQ];by_cases hc:bM ts=0
 ·obtain⟨hl,T,kT,rfl⟩:=CH hc
  have kR:Hid (∀w1,Below w.heap.size w w1->∃Q2:Ending->World->Prop,Calls prog 36 #[.slice a len cap] (w1.alloc (.cells #[.slice none 0 0,.slice none 0 0,.int .i64 0] 69)) Q2/\∀e w2,Q2 e w2->∃ua un uc,e=.returned (aK (ak T) (.slice ua un uc))/\∃Q3:Ending->World->Prop,Calls prog 57 #[dY w1.heap.size,aK (ak T) (.slice ua un uc)] w2 Q3/\∀e w3,Q3 e w3->∃a3 n3 c3 er v0,e=.returned (.slice a3 n3 c3)/\w3.cell? ⟨w1.heap.size,1,none⟩=some v0/\w3.frozen? ⟨w1.heap.size,1,none⟩=false/\(w3.setCell ⟨w1.heap.size,1,none⟩ (.slice a3 n3 c3)).cell? ⟨w1.heap.size,2,none⟩=some (.int .i64 er)/\((er=0/\Q (.returned (.tuple #[dY w1.heap.size,.int .i64 0])) (w3.setCell ⟨w1.heap.size,1,none⟩ (.slice a3 n3 c3)))\/(er=9/\∀nq,Q (.returned (.tuple #[.pointer none,.int .i64 9])) ((w3.setCell ⟨w1.heap.size,1,none⟩ (.slice a3 n3 c3)).drewN nq)))):=by
   intro w1 b1;have hb2:=qd w1 (.cells #[.slice none 0 0,.slice none 0 0,.int .i64 0] 69);have hr:=(MapKept.heap_alloc w1 (.cells #[.slice none 0 0,.slice none 0 0,.int .i64 0] 69)).1;have hP:RP (w1.alloc (.cells #[.slice none 0 0,.slice none 0 0,.int .i64 0] 69)) (fun k=>k=w1.heap.size) w1.heap.size [] 0 (.slice none 0 0):=⟨.slice none 0 0,[],hr,⟨rfl,Or.inl ⟨rfl,rfl⟩⟩,fun k=>by simp[Value.ownBlock],fun i f hf=>by simp at hf,by simp⟩
   refine⟨_,UY a len cap _ T _ ((hT.up b1).up hb2) (YH kT.wf (by omega)),?_⟩
   rintro e w2 ⟨u,rfl,t2,b2⟩
   obtain⟨ua,un,uc,rfl⟩:=t2.sl;have hP2:=hP.up b2;have Tc:rY w2 (fun k=>k=w1.heap.size) T (.slice ua un uc):=t2.off (fun k hk=>by subst hk;simp;omega)
   refine⟨ua,un,uc,rfl,_,Vm T kT.wf (Nr kT.wf) (by omega) _ _ _ _ _ _ _ hP2 (.inl rfl) Tc,?_⟩
   rintro e w3 ⟨F3,M3,er,L,a3,c3,rfl,f3,⟨vm,rows,p3⟩,u3,m3,r3⟩
   have p4:=p3.setB (.slice a3 L.length c3);have Tf:F3 w1.heap.size:=(p3.foot _).2 (.inl rfl);have hf4:Fr w3 (w3.setCell ⟨w1.heap.size,1,none⟩ (.slice a3 L.length c3)) F3 F3:=(Fr.au (Below.refl _ _)).oh _ (.inl Tf);have fA:Fr (w1.alloc (.cells #[.slice none 0 0,.slice none 0 0,.int .i64 0] 69)) (w3.setCell ⟨w1.heap.size,1,none⟩ (.slice a3 L.length c3)) (fun k=>k=w1.heap.size) F3:=((Fr.au b2).trans f3).trans hf4
   have hs1:=b1.size;have hB:Below w.heap.size w (w3.setCell ⟨w1.heap.size,1,none⟩ (.slice a3 L.length c3)):=(qe b1 hb2).trans (fA.below (fun k hk=>by subst hk;exact hs1) (by simp;omega))
   refine⟨a3,_,c3,(er:Int),_,rfl,qc p3.blk 1,frozen_of_row _ _ 1 _ _ p3.blk,qc p4.blk 2,?_⟩
   rcases r3 with⟨rfl,hr3⟩|⟨rfl,hr3⟩
   ·left
    refine⟨rfl,?_⟩
    rw[hQ];exact⟨hB,.inr ⟨hc,T,kT,rfl,.inr ⟨L,M3,F3,w1.heap.size,a3,c3,hr3,rfl,⟨vm,rows,p4⟩,⟨u3.toeP.fr hf4,fun k hk=>Nat.le_trans (qe (qe b1 hb2) b2).size (u3.nw k hk)⟩,fA.ge (fun k hk=>by subst hk;exact hs1) (by simp;omega)⟩⟩⟩
   ·right
    refine⟨rfl,fun nq=>?_⟩
    rw[hQ];exact⟨below_drewN hB nq,.inr ⟨hc,T,kT,rfl,.inl ⟨hr3,rfl⟩⟩⟩
  rw[hc]at j1;clear hQ hT hc kT hl;unfold aK dY at *;generalize ak T=rk at *;obtain⟨ro,rp⟩:=rk;dsimp only at *
  go_enter func30,ntmps30
  go_wp2_with fail
  refine j1.mono ?_
  rintro e w1 ⟨rfl,b1⟩
  obtain⟨Q2,j2,h2⟩:=kR.out w1 b1;have kG:Hid _:=h2;clear h2 b1 j1 kR
  go_wp2_with fail
  refine j2.mono ?_
  intro e w2 h;obtain⟨ua,un,uc,rfl,Q3,j3,h3⟩:=kG.out e w2 h;have jW:Hid _:=h3;clear h h3 j2 kG
  go_wp2_with fail
  refine j3.mono ?_
  intro e w3 h;obtain⟨a3,n3,c3,er,v0,rfl,k0,k1,k2,⟨rfl,h4⟩|⟨rfl,h4⟩⟩:=jW.out e w3 h
  ·have HE:Hid _:=h4
   clear h h4 j3 jW;go_wp2
   first|exact HE.out|(go_ret2;exact HE.out)
  ·have HE:Hid _:=h4
   clear h h4 j3 jW;go_wp2
   go_quiet (fail)
   go_wp2
   first|exact HE.out _|(go_ret2;exact HE.out _)
 ·have HE:Hid (∀w1,Below w.heap.size w w1->Q (.returned (.tuple #[.pointer none,.int .i64 (bM ts:Int)])) w1):=fun w1 b1=>by
   rw[hQ];exact⟨b1,.inl ⟨hc,rfl⟩⟩
  have hI:¬((bM ts:Int)=0):=by omega
  clear hQ hT;generalize bM ts=E at *;go_enter func30,ntmps30
  go_wp2_with fail
  refine j1.mono ?_
  rintro e w1 ⟨rfl,b1⟩
  have HE2:Hid _:=HE.out w1 b1;clear b1 j1 HE;go_wp2
  first|exact HE2.out|(go_ret2;exact HE2.out)
def fU(s k:Nat):List Nat:=(List.range k).filter fun i=>s.testBit i
theorem qe0(s k:Nat):fU s (k+1)=if s.testBit k then fU s k++[k] else fU s k:=by
 unfold fU;rw[List.range_succ,List.filter_append]
 cases h:s.testBit k<;>simp[h]
theorem qeM(s k:Nat):(fU s k).length<=k:=by
 unfold fU;exact Nat.le_trans (List.length_filter_le _ _) (by simp)
def wv(r:List Nat)(w:World)(e:Ending)(w':World):Prop:=∃(a:Option Addr) (c:Nat),e=.returned (.slice a r.length c)/\MF w' a r.length c r/\Below w.heap.size w w'/\∀k,k<r.length->w.heap.size<=(aG a k).block
theorem qhH{base e size n:Nat}{xs:List Value}(h:w.ownsRow base e size (.slice a n c) n xs):∀k,k<n->base<=(aG a k).block:=by
 intro k hk;obtain⟨hl,h⟩:=h;rcases h with⟨_,h0⟩|⟨g,cap,cur,e1,hg,_⟩
 ·omega
 ·injection e1 with e1 _ _
  rw[e1];simpa [aG,qi] using hg
theorem wA(s:Nat)(w:World)(hs:s<2 ^ 64):Calls prog 33 #[.int .u64 s] w (wv (aY s) w):=by
 have aR:Hid (∀k,(bits BinOp.and IntKind.u64 ((s:Int) / 2 ^ k) 1==1)=s.testBit k):=fun k=>AW s k (by omega)
 have HL:Hid (∀k,(fU s k).length<=k):=qeM s;unfold wv;go_enter func33,ntmps33
 go_wp2
 go_loopw [3,4] (fun v i wr=>∃k:Nat,k<=64/\i=.int .i64 k/\Hid (wr.ownsRow w.heap.size 3 1 v (fU s k).length ((iU (fU s k)).map (Value.int .i64)))/\Hid (Below w.heap.size w wr)) (fun _ i _=>64-(intOf i).toNat)
 case atStart=>exact⟨0,by omega,rfl,⟨rfl,Or.inl ⟨rfl,rfl⟩⟩,Below.refl _ _⟩
 case round=>
  obtain⟨k,hk,rfl,HO,HW⟩:=hrel;have hlk:=HL.out k;obtain⟨va,vc,rfl,_⟩:=qO HO.out bZ;by_cases hlt:k<64
  ·have hbit:=aR.out k
   have fQ:Hid _:=qe0 s k;have hsz:=HW.out.size
   cases hb:s.testBit k with
   |true=>
    rw[hb]at hbit;have hbn:=qd wr (.cells #[.int .i64 k] 3);have vY:Hid _:=qC HO.out hbn;have rE:Hid ((wr.alloc (.cells #[.int .i64 k] 3)).cell? ⟨wr.heap.size,0,none⟩=some (.int .i64 k)):=qc (MapKept.heap_alloc wr (.cells #[.int .i64 k] 3)).1 0;have hszA:w.heap.size<=(wr.alloc (.cells #[.int .i64 k] 3)).heap.size:=by simp;omega
    have rF:Hid (Below w.heap.size w (wr.alloc (.cells #[.int .i64 k] 3))):=qe HW.out hbn;have o8:Hid _:=vO HO.out;have BG:Hid (fU s (k+1)=fU s k++[k]):=by show _=_;rw[fQ.out,hb];rfl
    clear hbn fQ
    go_wp2_with (at_builtin;refine l8 rfl _ _ rfl w.heap.size _ (fU s k).length (iU (fU s k)) rfl vY.out wr.heap.size (k:Int) rfl rE.out (by omega) hszA ?_)
    intro v7 w7 wT uS
    have FK:Hid (w7.ownsRow w.heap.size 3 1 v7 (fU s (k+1)).length ((iU (fU s (k+1))).map (Value.int .i64))):=by
     show World.ownsRow _ _ _ _ _ _ _
     rw[BG.out,List.length_append];simpa [iU] using wT
    have FM:Hid (Below w.heap.size w w7):=rF.out.grown uS hszA (fun q e=>o8.out q e)
    clear wT uS;go_wp2
    go_roundw
    case rel=>exact⟨k+1,by omega,by go_num,FK,FM⟩
    case measure=>simp[intOf];omega
   |false=>
    rw[hb]at hbit
    have FK:Hid (wr.ownsRow w.heap.size 3 1 (.slice va (fU s k).length vc) (fU s (k+1)).length ((iU (fU s (k+1))).map (Value.int .i64))):=by
     show World.ownsRow _ _ _ _ _ _ _
     rw[fQ.out,hb,if_neg (by decide)]
     exact HO.out
    clear fQ;go_wp2
    go_roundw
    case rel=>exact⟨k+1,by omega,by go_num,FK,HW⟩
    case measure=>simp[intOf];omega
  ·obtain rfl:k=64:=by omega
   obtain⟨a,c,e,hi⟩:=me HO.out;injection e with e1 _ e3;subst e1 e3;have HI:Hid _:=hi;have Va:Hid _:=qhH HO.out;clear hi;go_wp2;go_ret
   exact⟨va,vc,rfl,HI.out,HW.out,Va.out⟩
theorem q8k(s:Nat)(w:World)(hs:s<2 ^ 64):Calls prog 33 #[.int .u64 s] w (IR (aY s) w) :=
 (wA s w hs).mono fun _ _ ⟨a,c,h1,h2,h3,_⟩=>⟨a,c,h1,h2,h3⟩
theorem xc(p:Nat)(vb:Value)(F:Nat->Prop)(M:Mt)(er s:Nat)(w:World)(hP:RP w F p M er vb)(hs:s<2 ^ 64):Calls prog 31 #[dY p,.int .u64 s] w fun e w'=>e=.returned (.bool (decide (s<2 ^ M.length)))/\w'=w:=by
 obtain⟨vm,rows,hR⟩:=hP;obtain⟨_,_,k2,k3⟩:=hR.kP;have hm:=hR.few;obtain⟨va,vc,rfl,_⟩:=qO hR.row bZ;clear hR;unfold dY;by_cases h64:M.length=64
 ·have HT:Hid (decide (s<2 ^ M.length)=true):=by show _=_;rw[h64];exact decide_eq_true hs
  have hI:((M.length:Nat):Int)=64:=by omega
  generalize decide (s<2 ^ M.length)=b at *;go_enter func31,ntmps31
  go_wp2;go_ret
  exact⟨by rw[HT.out];rfl,rfl⟩
 ·have hI:¬(((M.length:Nat):Int)=64):=by omega
  have HT:Hid ((((s:Int) / 2 ^ M.length)==0)=decide (s<2 ^ M.length)):=by
   show _=_
   rw[show ((s:Int) / 2 ^ M.length)=((s / 2 ^ M.length:Nat):Int) by simp]
   have hp:0<2 ^ M.length:=Nat.pow_pos (by decide)
   by_cases h:s<2 ^ M.length
   ·rw[Nat.div_eq_of_lt h,decide_eq_true h];rfl
   ·have h1:0<s / 2 ^ M.length:=Nat.div_pos (by omega) hp
    rw[decide_eq_false h];generalize s / 2 ^ M.length=z at *
    cases z with
    |zero=>omega
    |succ z=>rfl
  have HZ:Hid ((((M.length:Nat):Int)==64)=false):=lu.2 hI;go_enter func31,ntmps31
  go_wp2;go_ret
  exact⟨by show Ending.returned (Value.bool ((((M.length:Nat):Int)==64) || (((s:Int) / 2 ^ M.length)==0)))=_;rw[HT.out,HZ.out,Bool.false_or],rfl⟩
def gG(M:Mt)(k:Nat):Bool:=bW (lY (M.getD k []))
def mZ(M:Mt)(l:List Nat):Bool:=l.any fun s=>(aY s).all (gG M)
theorem qbg(hk:k<l.length):(l.take (k+1)).any f=((l.take k).any f || f (l.getD k 0)):=by
 rw[List.take_add_one,List.getElem?_eq_getElem hk,List.any_append,List.getD_eq_getElem?_getD,List.getElem?_eq_getElem hk];simp
theorem qbf(hk:k<l.length):(l.take (k+1)).all f=((l.take k).all f&&f (l.getD k 0)):=by
 rw[List.take_add_one,List.getElem?_eq_getElem hk,List.all_append,List.getD_eq_getElem?_getD,List.getElem?_eq_getElem hk];simp
theorem Nw(hk:k<l.length):l.getD k 0∈l:=by
 rw[List.getD_eq_getElem?_getD,kU hk];exact List.getElem_mem hk
theorem qfu(hM:dM M)(hk:k<M.length):∃T,KT T/\M[k]=T.flat/\lY (M.getD k [])=T:=by
 obtain⟨T,kT,h⟩:=hM.Wx _ (List.getElem_mem hk);refine⟨T,kT,h,?_⟩
 rw[List.getD_eq_getElem?_getD,kU hk,Option.getD_some,h,GZ kT.wf]
theorem qfe(hk:k<l.length)(h:f (l.getD k 0)=true):l.any f=true:=by
 rw[List.any_eq_true];refine⟨_,List.getElem_mem hk,?_⟩
 rw[List.getD_eq_getElem?_getD,kU hk]at h;exact h
theorem qeD(hk:k<l.length)(h:f (l.getD k 0)=false):l.all f=false:=by
 rw[List.all_eq_false];refine⟨_,List.getElem_mem hk,?_⟩
 rw[List.getD_eq_getElem?_getD,List.getElem?_eq_getElem hk]at h;simpa using h
theorem q8j(p:Nat)(vb:Value)(F:Nat->Prop)(M:Mt)(er:Nat)(a:Option Addr)(c:Nat)(l:List Nat)(w:World)(hP:RP w F p M er vb)(hG:dM M)(hz:∀f∈M,f.length<=100000)(hU:fH w a l.length c l)(hk:∀s∈l,s<2 ^ M.length):
  Calls prog 18 #[dY p,.slice a l.length c] w fun e w'=>e=.returned (.bool (mZ M l))/\Below w.heap.size w w':=by
 have HP:=aX hP;have HU:=aX hU;have hb0:=hU.bd;have hb1:=hU.hcap;unfold maxLen at hb0;have hfew:=hG.few
 have HS:Hid (∀k,k<l.length->l.getD k 0<2 ^ M.length/\l.getD k 0<2 ^ 64):=fun k h=>by
  have h1:l.getD k 0<2 ^ M.length:=hk _ (Nw h);exact⟨h1,Nat.lt_of_lt_of_le h1 (Nat.pow_le_pow_right (by decide) hfew)⟩
 have HE:Hid (∀(k:Nat)(wx:World),k<M.length->RP wx F p M er vb->∃g cap am nm cm,wx.cell? ⟨p,0,none⟩=some (.slice (some ⟨g,0,none⟩) M.length cap)/\wx.cell? ⟨g,k,none⟩=some (.slice am nm cm)/\∀w',Below wx.heap.size wx w'->Calls prog 38 #[.slice am nm cm] w' fun e w''=>e=.returned (.bool (gG M k))/\Below w'.heap.size w' w''):=fun k wx hk hp=>by
  obtain⟨vm,rows,hR⟩:=hp;obtain⟨_,_,e2,_⟩:=hR.kP;obtain⟨g,cap,am,nm,cm,rfl,hcm,tm,_⟩:=hR.at hk;obtain⟨T,kT,hT,hg⟩:=qfu hG hk;rw[hT]at tm;have hn:=tm.hlen;subst hn;refine⟨g,cap,am,_,cm,e2,hcm,fun w' hb=>?_⟩
  have:=q9j T kT (by rw[<-hT];exact hz _ (List.getElem_mem hk)) am cm w' (tm.up hb)
  unfold gG;rw[hg];exact this
 have HIT:Hid (∀k,k<l.length->∀j,j<(aY (l.getD k 0)).length->(aY (l.getD k 0)).getD j 0<M.length):=fun k h j hj=>by
  have hm:(aY (l.getD k 0)).getD j 0∈aY (l.getD k 0):=Nw hj;have ht:=(qS.1 hm).2;rcases Nat.lt_or_ge ((aY (l.getD k 0)).getD j 0) M.length with h9|h9
  ·exact h9
  ·rw[Nat.testBit_lt_two_pow (Nat.lt_of_lt_of_le (HS.out k h).1 (Nat.pow_le_pow_right (by decide) h9))]at ht
   cases ht
 have HN:Hid (∀k,k<l.length->mZ M (l.take (k+1))=(mZ M (l.take k) || (aY (l.getD k 0)).all (gG M))):=fun k h=>qbg h
 have HT:Hid (∀k,k<l.length->(aY (l.getD k 0)).all (gG M)=true->mZ M l=true):=fun k h ht=>qfe (f:=fun s=>(aY s).all (gG M)) h ht
 have Gu:Hid (mZ M (l.take l.length)=mZ M l):=by show _=_;rw[List.take_length]
 clear hP hU hk hz hG;generalize mZ M l=R at *;obtain⟨N,hN⟩:∃N,N=l.length:=⟨_,rfl⟩
 rw[<-hN]at HU HS HIT HN HT Gu hb1 ⊢;clear hN;unfold dY;go_enter func18,ntmps18
 go_wp2
 go_loopw [5] (fun i wr=>∃k:Nat,k<=N/\i=.int .i64 k/\Hid (mZ M (l.take k)=false)/\Hid (Below w.heap.size w wr)) (fun i _=>N-(intOf i).toNat)
 case atStart=>exact⟨0,Nat.zero_le _,rfl,by show _=_;simp[mZ],Below.refl _ _⟩
 case round=>
  obtain⟨k,hkN,rfl,HF,HW⟩:=hrel;by_cases hlt:k<N
  ·have hidx:=fun w'=>HU.out.idx N k w' hlt bZ
   have hcl:=Iy (HU.out.up HW.out) k hlt;have yu:Hid (∀w',Below wr.heap.size wr w'->w'.cell? (aG a k)=some (.int .u64 (l.getD k 0:Nat))):=fun w' hb=>qf hcl hb
   obtain⟨h1,h2⟩:=HS.out k hlt;have ji:=q8k (l.getD k 0) wr h2
   have Ti:Hid (∀w',Below wr.heap.size wr w'->Calls prog 31 #[.pointer (some ⟨p,0,none⟩),.int .u64 (l.getD k 0:Nat)] w' fun e w''=>e=.returned (.bool true)/\w''=w'):=fun w' hb=>by
    have:=xc p vb F M er (l.getD k 0) w' (HP.out.up (qe HW.out hb)) h2
    rw[decide_eq_true h1]at this;exact this
   have HI1:=HIT.out k hlt;have HIk:Hid (∀j,j<(aY (l.getD k 0)).length->(aY (l.getD k 0)).getD j 0<M.length):=HI1;have HNk:Hid ((aY (l.getD k 0)).all (gG M)=false->mZ M (l.take (k+1))=false):=fun h=>by rw[HN.out k hlt,HF.out,h];rfl
   have HTk:Hid ((aY (l.getD k 0)).all (gG M)=true->R=true):=HT.out k hlt
   have Sz:Hid ((aY (l.getD k 0)).length<=64):=by
    show _<=_
    unfold aY;exact Nat.le_trans (List.length_filter_le _ _) (by simp)
   clear h1 h2 HI1 HIT HN HT;generalize aY (l.getD k 0)=I at *;generalize l.getD k 0=s at *;generalize aG a k=ad at *;obtain⟨g0,o0,s0⟩:=ad;unfold IR at ji
   go_wp2_with fail
   (with_reducible refine ji.mono ?_)
   rintro e w1 ⟨ia,ic,rfl,hI,hb1'⟩
   have a8:=yu.out w1 hb1';have jk:=Ti.out w1 hb1';have HI:=aX hI;have HW1:Hid (Below w.heap.size w w1):=qe HW.out hb1';have bh:=hI.bd;have hicp:=hI.hcap;unfold maxLen at bh;clear ji hI hb1' hcl yu Ti
   go_wp2_with fail
   (with_reducible refine jk.mono ?_)
   rintro e w2 ⟨rfl,rfl⟩
   clear jk a8;go_wp2
   go_loopw [7,8] (fun f j wr=>∃(m:Nat) (b:Bool),m<=I.length/\j=.int .i64 m/\f=.bool b/\Hid (b=true->(I.take m).all (gG M)=true)/\Hid (b=false->I.all (gG M)=false)/\Hid (Below w2.heap.size w2 wr)) (fun _ j _=>I.length-(intOf j).toNat)
   case atStart=>exact⟨0,true,Nat.zero_le _,rfl,rfl,fun _=>by simp,fun h=>(by cases h),Below.refl _ _⟩
   case round=>
    obtain⟨m,b,hm,rfl,rfl,HA,HB,HW2⟩:=hrel;have Dy:Hid (Below w.heap.size w wr):=qe HW1.out HW2.out
    cases b with
    |false=>
     have HX:Hid (mZ M (l.take (k+1))=false):=HNk.out (HB.out rfl);clear HA HB;by_cases hml:m<I.length
     ·go_wp2
      go_roundw
      case rel=>exact⟨k+1,by omega,by go_num,HX,Dy⟩
      case measure=>simp[intOf];omega
     ·go_wp2
      go_roundw
      case rel=>exact⟨k+1,by omega,by go_num,HX,Dy⟩
      case measure=>simp[intOf];omega
    |true=>
     by_cases hml:m<I.length
     ·have hit:=HIk.out m hml
      obtain⟨g,cap,am,nm,cm,c1,c2,je⟩:=HE.out (I.getD m 0) wr hit (HP.out.up Dy.out);have xd:Hid _:=je;have c3:=(HI.out.up HW2.out).cell m hml;rw[show (iU I).getD m 0=((I.getD m 0:Nat):Int) by simp only[List.getD_eq_getElem?_getD,iU,List.getElem?_map];cases I[m]?<;>rfl]at c3
      have i1:=fun w'=>HI.out.idx I.length m w' hml bZ
      have i2:=fun w'=>ZX g M.length cap (I.getD m 0) w' hit
      have AZ:Hid (gG M (I.getD m 0)=true->(I.take (m+1)).all (gG M)=true):=fun h=>by rw[qbf hml,HA.out rfl,h];rfl
      have QA:Hid (gG M (I.getD m 0)=false->I.all (gG M)=false):=fun h=>qeD hml h
      clear je HA HB hidx;generalize gG M (I.getD m 0)=z at *;generalize I.getD m 0=it at *;generalize aG ia m=ai at *;obtain⟨gi,oi,si⟩:=ai;have hk0:wr.drew.cell? ⟨p,0,none⟩=some (.slice (some ⟨g,0,none⟩) M.length cap)/\wr.drew.cell? ⟨g,it,none⟩=some (.slice am nm cm)/\wr.drew.cell? ⟨gi,oi,si⟩=some (.int .i64 it)/\Hid (Below wr.heap.size wr wr.drew):=⟨c1,c2,c3,(Below.refl _ _).drew⟩;have hk9:∀w0 w1:World,(w0.cell? ⟨p,0,none⟩=some (.slice (some ⟨g,0,none⟩) M.length cap)/\w0.cell? ⟨g,it,none⟩=some (.slice am nm cm)/\w0.cell? ⟨gi,oi,si⟩=some (.int .i64 it)/\Hid (Below wr.heap.size wr w0))->Below w0.heap.size w0 w1->(w1.cell? ⟨p,0,none⟩=some (.slice (some ⟨g,0,none⟩) M.length cap)/\w1.cell? ⟨g,it,none⟩=some (.slice am nm cm)/\w1.cell? ⟨gi,oi,si⟩=some (.int .i64 it)/\Hid (Below wr.heap.size wr w1)):=fun w0 w1 ⟨h1,h2,h3,h4⟩ hb=>⟨qf h1 hb,qf h2 hb,qf h3 hb,qe h4.out hb⟩
      clear c1 c2 c3
      go_wp2_with fail
      go_region_held3 (fun wx=>wx.cell? ⟨p,0,none⟩=some (.slice (some ⟨g,0,none⟩) M.length cap)/\wx.cell? ⟨g,it,none⟩=some (.slice am nm cm)/\wx.cell? ⟨gi,oi,si⟩=some (.int .i64 it)/\Hid (Below wr.heap.size wr wx)) (first|exact hk0|exact hk9 _ _ ‹_› ‹_› | assumption|fail) ((go_at_call 38;refine (xd.out _ (‹_/\_/\_/\Hid (Below wr.heap.size wr _)›).2.2.2.out).mono ?_;rintro e w5 ⟨rfl,hb5⟩))
      have HW5:Hid (Below w2.heap.size w2 w5):=qe HW2.out (‹_/\_/\_/\Hid (Below wr.heap.size wr w5)›).2.2.2.out;clear ‹_/\_/\_/\Hid (Below wr.heap.size wr w5)›;clear hk0 hk9 hb5 xd;go_wp2
      go_roundw
      case rel=>exact⟨m+1,z,by omega,by go_num,rfl,AZ,QA,HW5⟩
      case measure=>simp[intOf];omega
     ·obtain rfl:m=I.length:=by omega
      have HX:Hid (R=true):=HTk.out (by have:=HA.out rfl;rw[List.take_length]at this;exact this)
      go_wp2;go_ret
      exact⟨by rw[HX.out];rfl,Dy.out⟩
  ·obtain rfl:k=N:=by omega
   have HX:Hid (R=false):=by have:=HF.out;rw[Gu.out]at this;exact this
   go_wp2;go_ret
   exact⟨by rw[HX.out];rfl,HW.out⟩
theorem xe{X:Rt}{f g:List Nat->Mt->Rt}:bindM (bindM X f) g=bindM X fun a M=>bindM (f a M) g:=by cases X<;>rfl
def bj(M0:Mt)(x:Nat):Prop:=∀k,k<M0.length->∃S,KT S/\M0[k]? =some S.flat/\pq S x/\S.flat.length<=100000/\∀M:Mt,M[k]? =some S.flat->eu aV (lY (M.getD k [])) x M=bK S x M
structure Vs(w:World)(F:Nat->Prop)(a:Option Addr)(c:Nat)(ks:List Nat):Prop where
 sl:MF w a ks.length c ks
 nf:∀k,k<ks.length->¬F (aG a k).block
theorem Vs.fr{w':World}{F':Nat->Prop}{ks:List Nat}(h:Vs w F a c ks)(fr:Fr w w' F F'):Vs w' F' a c ks:=⟨fr.lq h.sl h.nf,fun k hk=>fr.out (h.nf k hk) (h.sl.blk k hk)⟩
structure xh(w:World)(F:Nat->Prop)(p:Nat)(vb:Value)(M0:Mt)(la:Option Addr)(lc:Nat)(l:List Nat)(wr:World)(F':Nat->Prop)(M':Mt)(er:Nat):Prop where
 rp:RP wr F' p M' er vb
 er:er=0\/er=9
 us:eP wr F' la lc l
 pre:M0 <+: M'
 fr:Fr w wr F F'
def zJ(x:Nat)(l out:List Nat)(k:Nat):List Nat->Mt->Rt:=fun m1 M1=>bindM (bF false out m1 M1) fun o M2=>stepM aV x (l.drop (k+1)) o M2
def EP(w:World)(F:Nat->Prop)(p:Nat)(vb:Value)(M0:Mt)(la:Option Addr)(lc:Nat)(l:List Nat)(x:Nat)(R:Rt)(k:Nat)(ov:Value)(wr:World):Prop :=
 ∃F' M' er out oa oc,ov=.slice oa out.length oc/\xh w F p vb M0 la lc l wr F' M' er/\eP wr F' oa oc out/\dX er (stepM aV x (l.drop k) out M')=R/\∀q,q<out.length->w.heap.size<=(aG oa q).block
def Le(w:World)(F:Nat->Prop)(p:Nat)(vb:Value)(M0:Mt)(la:Option Addr)(lc:Nat)(l:List Nat)(x:Nat)(R:Rt)(k:Nat)(oa:Option Addr)(oc:Nat)(out:List Nat)(ia:Option Addr)(ic:Nat)(I:List Nat)(j:Nat)(mv:Value)(wr:World):Prop :=
 ∃F' M' er m ma mc,mv=.slice ma m.length mc/\xh w F p vb M0 la lc l wr F' M' er/\eP wr F' oa oc out/\eP wr F' ma mc m/\Vs wr F' ia ic I/\dX er (bindM (jI aV x (I.drop j) m M') (zJ x l out k))=R
theorem Le.item{w:World}{F:Nat->Prop}{p:Nat}{vb:Value}{M0:Mt}{la:Option Addr}{lc:Nat}{l:List Nat}{x:Nat}{R:Rt}{k:Nat}{oa:Option Addr}{oc:Nat}{out:List Nat}{ia:Option Addr}{ic:Nat}{I:List Nat}{j:Nat}{mv:Value}{wr:World}
  (h:Le w F p vb M0 la lc l x R k oa oc out ia ic I j mv wr) (hS:bj M0 x) (hj:j<I.length) (hi:I.getD j 0<M0.length):
  ∃g cap n am nm cm ma ml mc,mv=.slice ma ml mc/\I.getD j 0<n/\wr.cell? ⟨p,0,none⟩=some (.slice (some ⟨g,0,none⟩) n cap)/\wr.cell? ⟨g,I.getD j 0,none⟩=some (.slice am nm cm)/\wr.cell? (aG ia j)=some (.int .i64 (I.getD j 0:Nat)) /\
   ∃Q1,Calls prog 36 #[.slice am nm cm] wr.drew Q1/\∀e w3,Q1 e w3->∃(so sp:Nat) (ua:Option Addr) (um uc:Nat),e=.returned (.agg #[.int .u8 so,.int .u8 sp,.slice ua um uc]) /\
    ∃Q2,Calls prog 35 #[.pointer (some ⟨p,0,none⟩),.agg #[.int .u8 so,.int .u8 sp,.slice ua um uc],.int .u8 x] w3 Q2/\∀e w4,Q2 e w4->∃a4 n4 c4,e=.returned (.slice a4 n4 c4) /\
     ∃Q3,Calls prog 34 #[.pointer (some ⟨p,0,none⟩),.slice ma ml mc,.slice a4 n4 c4] w4 Q3/\∀e w5,Q3 e w5->∃v5,e=.returned v5/\Le w F p vb M0 la lc l x R k oa oc out ia ic I (j+1) v5 w5:=by
 obtain⟨F',M',er,m,ma,mc,rfl,hK,hO,hm,hI,hR⟩:=h;obtain⟨S,kS,hS0,hAf,hln,haf⟩:=hS _ hi
 have hSM:M'[I.getD j 0]? =some S.flat:=by
  obtain⟨t,ht⟩:=hK.pre;rw[<-ht,List.getElem?_append_left hi];exact hS0
 have hiM:I.getD j 0<M'.length:=Nat.lt_of_lt_of_le hi hK.pre.length_le;obtain⟨vm,rows,vF⟩:=hK.rp;obtain⟨_,_,e2,_⟩:=vF.kP;obtain⟨g,cap,am,nm,cm,rfl,hcm,tm,_⟩:=vF.at hiM;rw[List.getElem?_eq_getElem hiM]at hSM;injection hSM with hSM;rw[hSM]at tm;have hn:=tm.hlen;subst hn;have hc3:=hI.sl.cell j hj;rw[show (iU I).getD j 0=((I.getD j 0:Nat):Int) by simp only[List.getD_eq_getElem?_getD,iU,List.getElem?_map];cases I[j]?<;>rfl]at hc3
 have hbd:Below wr.heap.size wr wr.drew:=(Below.refl _ _).drew;refine⟨g,cap,_,am,_,cm,ma,_,mc,rfl,hiM,e2,hcm,hc3,_,UY am _ cm _ S wr.drew (tm.up hbd) (YH kS.wf hln),?_⟩
 rintro e w3 ⟨u,rfl,t3,b3⟩
 obtain⟨ua,um,uc,rfl⟩:=t3.sl;have b3':Below wr.heap.size wr w3:=qe hbd b3;have hR3:RP w3 F' p M' er vb:=RP.up ⟨_,rows,vF⟩ b3';have Tc:rY w3 F' S (.slice ua um uc):=t3.off (fun q hq=>by have:=vF.flt q hq;show q<wr.heap.size+1;omega)
 refine⟨_,_,ua,um,uc,rfl,_,hAf p vb F' M' er _ w3 hR3 hK.er Tc,?_⟩
 rintro e w4 ⟨F4,M4,Ec,L4,a4,c4,rfl,f4,p4,u4,m4,r4⟩
 have xl:Fr wr w4 F' F4:=(Fr.au b3').trans f4;have he4:Ec=0\/Ec=9:=by rcases r4 with h|h;exact .inl h.1;exact .inr h.1
 refine⟨a4,_,c4,rfl,_,qV p vb F4 M4 Ec ma mc m a4 c4 L4 w4 p4 he4 (hm.fr xl) u4,?_⟩
 rintro e w5 ⟨F5,M5,bk,L5,a5,c5,rfl,f5,p5,u5,m5,r5⟩
 have Vt:Fr wr w5 F' F5:=xl.trans f5;have bm:bk=0\/bk=9:=by rcases r5 with h|h;exact .inl h.1;exact .inr h.1
 refine⟨_,rfl,F5,M5,bk,L5,a5,c5,rfl,⟨p5,bm,hK.us.fr Vt,(hK.pre.trans m4).trans m5,hK.fr.trans Vt⟩,hO.fr Vt,u5,hI.fr Vt,?_⟩
 have hd:I.drop j=I.getD j 0::I.drop (j+1):=by
  rw[List.drop_eq_getElem_cons hj,List.getD_eq_getElem?_getD,kU hj];rfl
 rw[<-hR,hd,jI,xe,haf M' (by rw[kU hiM,hSM]),qy r4,xe,qy r5]
end Go.Proofs.YtoioiellaomonaaGreatDoor
