import Derived.Deep.RegionLaw
import Derived.Deep.DeepCutAuto
import Derived.Deep.RegionHeld3
import Derived.Laws.BytesString
import Derived.Laws.IdiomStrings
import Derived.Test.YtoioiellaomonaaGreatDoorZ03
import Derived.Test.YtoioiellaomonaaGreatDoorZ11
set_option maxRecDepth 100000
set_option maxHeartbeats 16000000
namespace Go.Proofs.YtoioiellaomonaaGreatDoor
open Go.RowKit Go.Maps Tryz
variable {w w5 w' w1 w2:World}{o:Obj}{a:Act}{K:Act->World->Prop}{Q:Exit->Act->World->Prop}{ops:Array Oper}{base e size n g t cap b mp op i:Nat}{v uD wW vi vt:Value}{xs rest:List Value}{aj aI:List It}{x:It}{F G G':Nat->Prop}{T:TypeId}{aS:List ByteArray}{T0 S:Tr}
def aW(x:It):Obj:=.cells #[.int .u8 x.op,.int .u8 x.p,.int .i64 x.a,.int .i64 x.b] 113 (0,0)
theorem qeC{w:World}{o:Oper}{a:Act}{K:Act->World->Prop}{Q:Exit->Act->World->Prop}(s x:Operand)
  (ho:o.op=.call { callee:=.builtin .append,args:=#[s,x],argTypes:=#[82,82] })
  (v:Value) (n:Nat) (aj:List It) (y:It) (g:Nat) (hs:a.eval s=v) (hx:a.eval x=.slice (some ⟨g,0,none⟩) 1 1) (hown:w.ownsRow 0 113 4 v n (encI aj))
  (hB:w.heap[g]? =some (aW y)) (hn:n<=100000000)
  (h:∀v' w',w'.ownsRow 0 113 4 v' (n+1) (encI (aj++[y]))->w.grownBy w' v.ownBlock->(v'.ownBlock=v.ownBlock\/v'.ownBlock=some w.heap.size)->K (a.put o.dst v') w'):o.wp prog a w K Q:=by
 obtain⟨i,hi,hz0,hz1,hz2⟩:=info_parts EV
 obtain⟨v',w',hr,h2,h3,_,h5⟩:=run_append_own_at (P:=prog) w 0 82 o.type 113 i _ 4 24 underlying82 hi hz0 hz1 hz2 rfl (by decide) v n _ hown ⟨g,0,none⟩ 1 1 (encI [y]) rfl (fun j u hj=>by
  rw[qi,Nat.zero_add,qc hB];simpa [encI] using hj) (EB y) (by unfold maxLen;omega) (by omega) (Nat.zero_le _)
 unfold Oper.wp execOp;simp only[ho,resolve,invoke,builtin,Sem.run_bind,Sem.run_pure,Result.andThen_ok,List.map_toArray,List.map_cons,List.map_nil,hs,hx,hr]
 exact h v' w' (by rw[gn];exact h2) h3 h5
theorem mU{w:World}{o:Oper}{K:Act->World->Prop}{Q:Exit->Act->World->Prop}{E:Prop}(hw:Region.wanted o (yielded ops a.tmps)=true)(s x:Operand)
  (ho:o.op=.call { callee:=.builtin .append,args:=#[s,x],argTypes:=#[82,82] })
  (v:Value) (n:Nat) (aj:List It) (y:It) (g:Nat) (hs:a.eval s=v) (hx:a.eval x=.slice (some ⟨g,0,none⟩) 1 1) (hown:w.ownsRow 0 113 4 v n (encI aj))
  (hB:w.heap[g]? =some (aW y)) (hn:n<=100000000)
  (h:∀v' w',w'.ownsRow 0 113 4 v' (n+1) (encI (aj++[y]))->w.grownBy w' v.ownBlock->(v'.ownBlock=v.ownBlock\/v'.ownBlock=some w.heap.size)->K (a.put o.dst v') w'):
  if Region.wanted o (yielded ops a.tmps)=true then Oper.wp prog o a w K Q else E:=by
 rw[if_pos hw];exact qeC s x ho v n aj y g hs hx hown hB hn h
theorem qK(h:w.ownsRow base e size v n xs):∃a cap,v=.slice a n cap:=by
 rcases h.2 with⟨rfl,rfl⟩|⟨g,cap,cur,rfl,_⟩
 ·exact⟨none,0,rfl⟩
 ·exact⟨_,cap,rfl⟩
theorem Qe(h:w.ownsRow base 113 4 v n xs)(hg:w.heap[g]? =some o)(ho:∀cs,o≠.cells cs 113 (0,0)):v.ownBlock≠some g:=by
 rcases h.2 with⟨rfl,_⟩|⟨g',cap,cur,rfl,_,hc,_⟩
 ·intro e;cases e
 ·intro e
  injection e with e;dsimp only at e
  subst e;rw[hg]at hc;injection hc with hc;exact ho _ hc
theorem nh(hx:x ∉ aj)(y:It):(if y=x then some aj.length else gI aj y)=gI (aj++[x]) y:=by
 unfold gI;rw[List.findIdx?_append];by_cases e:y=x
 ·subst e
  rw[if_pos rfl,show aj.findIdx? (· = y)=none from Fa.2 hx];simp
 ·rw[if_neg e]
  have:¬x=y:=fun h=>e h.symm
  simp[this]
structure Mid(w w6:World)(t:Nat)(a6:Option Addr)(n c6 mb:Nat)(aj:List It)(x:It)(a:Option Addr)(cap:Nat):Prop where
 blk:w6.heap[t]? =some (.cells #[uQ t,.slice a6 (n+1) c6,.map (some mb)] 141 (0,0))
 row:w6.ownsRow 0 113 4 (.slice a6 (n+1) c6) (n+1) (encI (aj++[x]))
 num:dR w6 mb n (gI aj)
 box:w6.heap[w.heap.size]? =some (aW x)
 os:w6.os=w.os
 tape:w6.tape=w.tape
 output:w6.output=w.output
 size:w.heap.size<w6.heap.size
 keep:∀k,k<w.heap.size->k≠t->(Value.slice a n cap).ownBlock≠some k->w6.heap[k]? =w.heap[k]?
 loc:∀k,(Value.slice a6 (n+1) c6).ownBlock=some k->(Value.slice a n cap).ownBlock=some k\/w.heap.size<=k
theorem qih{w5:World}{mb:Nat}{a:Option Addr}(h:lT w t a n cap mb aj)(x:It)
  (hg:((w.alloc (aW x)).alloc (aW x)).drew.grownBy w5 (Value.slice a n cap).ownBlock) (a5:Option Addr) (c5:Nat) (ho:w5.ownsRow 0 113 4 (.slice a5 (n+1) c5) (n+1) (encI (aj++[x])))
  (hl:(Value.slice a5 (n+1) c5).ownBlock=(Value.slice a n cap).ownBlock\/(Value.slice a5 (n+1) c5).ownBlock=some ((w.alloc (aW x)).alloc (aW x)).drew.heap.size):
  w5.heap[t]? =some (.cells #[uQ t,.slice a n cap,.map (some mb)] 141 (0,0))/\Mid w (w5.setCell ⟨t,1,none⟩ (.slice a5 (n+1) c5)) t a5 n c5 mb aj x a cap:=by
 have hb1:=qd w (aW x);have hb2:=qe hb1 (qd (w.alloc (aW x)) (aW x));have htl:=(lC h.blk).1
 have hne:(Value.slice a n cap).ownBlock≠some t:=Qe h.row h.blk (fun cs e=>by injection e with _ e _;exact absurd e (by decide))
 obtain⟨es,cl,hmap⟩:=h.num.isMap;have hnm:(Value.slice a n cap).ownBlock≠some mb:=Qe h.row hmap (fun cs e=>by cases e)
 have hmt:mb≠t:=fun e=>by rw[e,h.blk]at hmap;cases hmap
 have hz2:((w.alloc (aW x)).alloc (aW x)).drew.heap.size=w.heap.size+2:=by simp
 have hlb:∀k,(Value.slice a n cap).ownBlock=some k->k<w.heap.size:=vP h.row;have st:∀k,k<w.heap.size->(Value.slice a n cap).ownBlock≠some k->w5.heap[k]? =w.heap[k]? := fun k hk hn=>(hg.block k (by omega) (fun e=>hn e.symm)).trans (hb2.block k hk)
 have h5:w5.heap[t]? =some (.cells #[uQ t,.slice a n cap,.map (some mb)] 141 (0,0)):=(st t htl hne).trans h.blk;have hs5:=hg.size;refine⟨h5,⟨?_,?_,?_,?_,hg.os,hg.tape,hg.output,?_,fun k hk hkt hkn=>?_,fun k hk=>?_⟩⟩
 ·rw[heap_setCell_same w5 t 1 _ _ _ h5];rfl
 ·refine qz ho fun k hk=>Below.heap_setCell _ _ _ _ ?_
  dsimp only
  rintro rfl
  rcases hl with e|e
  ·rw[e]at hk;exact hne hk
  ·rw[e]at hk;injection hk with hk;omega
 ·exact h.num.far ((Below.heap_setCell _ _ _ _ (by dsimp only;exact hmt)).trans (st mb h.num.lt hnm))
 ·refine (Below.heap_setCell _ _ _ _ (by dsimp only;omega)).trans ((hg.block _ (by omega) (fun e=>?_)).trans ?_)
  ·have:=hlb _ e.symm;omega
  ·exact((qd (w.alloc (aW x)) (aW x)).block _ (by simp)).trans (MapKept.heap_alloc w (aW x)).1
 ·simp;omega
 ·exact(Below.heap_setCell _ _ _ _ (by dsimp only;exact hkt)).trans (st k hk hkn)
 ·rcases hl with e|e
  ·rw[e]at hk;exact Or.inl hk
  ·rw[e]at hk;injection hk with hk;right;omega
theorem qh5{w6 w7:World}{mb:Nat}{a:Option Addr}(h:iR w F t aj)(hF:∀k,F k↔(k=t\/k=mb\/(Value.slice a aj.length cap).ownBlock=some k))(hx:kF x)(hn:x ∉ aj)(hl:aj.length<4096)
  {a6:Option Addr} {c6:Nat} (m:Mid w w6 t a6 aj.length c6 mb aj x a cap) (UH:dR w7 mb (aj.length+1) (fun y=>if y=x then some aj.length else gI aj y)) (hg:w6.drew.grownBy w7 (some mb)) (hmw:mb<w.heap.size):
  ∃F',iR w7 F' t (aj++[x])/\Fr w w7 F F':=by
 have hsz:=m.size;have hs7:=hg.size;have hs7':w6.heap.size<=w7.heap.size:=hs7;obtain⟨es,cl,hmap⟩:=m.num.isMap;have hmt:t≠mb:=fun e=>by rw[<-e,m.blk]at hmap;cases hmap
 have hnm:(Value.slice a6 (aj.length+1) c6).ownBlock≠some mb:=Qe m.row hmap (fun cs e=>by cases e)
 have htl:t<w6.heap.size:=(lC m.blk).1
 have st:∀k,k<w6.heap.size->k≠mb->w7.heap[k]? =w6.heap[k]? := fun k hk hne=>hg.block k hk (fun e=>hne (by injection e))
 refine⟨fun k=>k=t\/k=mb\/(Value.slice a6 (aj.length+1) c6).ownBlock=some k,⟨?_,?_,?_,.slice a6 (aj.length+1) c6,mb,(st t htl hmt).trans m.blk,?_,?_,fun k=>Iff.rfl⟩,?_⟩
 ·exact List.nodup_append.2 ⟨h.nd,by simp,fun a ha b hb=>by simp at hb;subst hb;exact fun e=>hn (e ▸ ha)⟩
 ·simp;omega
 ·intro y hy
  rcases List.mem_append.1 hy with hy|hy
  ·exact h.ok y hy
  ·simp at hy;subst hy;exact hx
 ·rw[List.length_append]
  exact qz m.row fun k hk=>st k (vP m.row k hk) (fun e=>hnm (e ▸ hk))
 ·rw[List.length_append]
  exact UH.alike fun y _=>nh hn y
 ·refine⟨hg.os.trans m.os,hg.tape.trans m.tape,hg.output.trans m.output,by omega,fun k hk hf=>?_,fun k hk=>?_⟩
  ·have hf':=fun e=>hf ((hF k).2 e)
   exact(st k (by omega) (fun e=>hf' (Or.inr (Or.inl e)))).trans (m.keep k hk (fun e=>hf' (Or.inl e)) (fun e=>hf' (Or.inr (Or.inr e))))
  ·rcases hk with rfl|rfl|hk
   ·exact Or.inl ((hF k).2 (Or.inl rfl))
   ·exact Or.inl ((hF k).2 (Or.inr (Or.inl rfl)))
   ·rcases m.loc k hk with e|e
    ·exact Or.inl ((hF k).2 (Or.inr (Or.inr e)))
    ·exact Or.inr e
theorem qba(h:iR w F t aj)(x:It)(hx:kF x)(hn:x ∉ aj)(hl:aj.length<4096):
  Calls prog 96 #[.pointer (some ⟨t,0,none⟩),iV x] w fun e w'=>e=.returned (.int .i64 aj.length)/\∃F',iR w' F' t (aj++[x])/\Fr w w' F F':=by
 obtain⟨a,cap,mb,hr,hF⟩:=h.read;have HR:Hid _:=hr;have HF:Hid _:=hF;have HI:Hid _:=h;have HX:Hid _:=hx;have HN:Hid _:=hn;have hb1:=qd w (aW x);have hr1:=hr.up hb1;have c1:=hr1.c1;have Yi:=(hr1.up (qd (w.alloc (aW x)) (aW x))).c1;have hO:((w.alloc (aW x)).alloc (aW x)).drew.ownsRow 0 113 4 (.slice a aj.length cap) aj.length (encI aj):=World.ownsRow.alloc (World.ownsRow.alloc hr.row _) _
 have hB:((w.alloc (aW x)).alloc (aW x)).drew.heap[w.heap.size+1]? =some (aW x):=by
  have:=(dO (w.alloc (aW x)) (aW x)).1
  rw[show (w.alloc (aW x)).heap.size=w.heap.size+1 by simp]at this
  exact this
 have hn4:aj.length<=4096:=by omega
 have hmid:=fun w5 hg a5 c5 ho hl=>qih (w5:=w5) hr x hg a5 c5 ho hl
 have HM:Hid _:=hmid;clear h hr hr1 hF hx hn hb1 hmid;obtain⟨op,p,xa,xb⟩:=x;unfold aW at hO hB HM c1 Yi;dsimp only at hO hB HM c1 Yi
 unfold iV;dsimp only
 generalize hL:aj.length=L at *;have HL:=aX hL;clear hL;go_enter func96,ntmps96
 go_upto_region 15 with fail
 go_region_law ((refine mU rfl _ _ rfl (.slice a L cap) L aj ⟨op,p,xa,xb⟩ (w.heap.size+1) rfl rfl hO hB (by omega) ?_;intro v5 w5 hown5 hgr5 mV;obtain⟨a5,k5,rfl⟩:=qK hown5;have m5:=HM.out w5 hgr5 a5 k5 hown5 mV;have c5:w5.cell? ⟨t,1,none⟩=some (.slice a L cap):=qc m5.1 1;have z5:w5.frozen? ⟨t,1,none⟩=false:=frozen_of_row w5 _ 1 _ _ m5.1))
 all_goals
  have AV:Hid _:=m5.2;clear hO hB c1 Yi c5 z5 m5 hown5 hgr5 mV;generalize w5.setCell ⟨t,1,none⟩ (.slice a5 (L+1) k5)=w6 at *;have t2:w6.cell? ⟨t,2,none⟩=some (.map (some mb)):=qc AV.out.blk 2;have b0:w6.cell? ⟨w.heap.size,0,none⟩=some (.int .u8 op):=qc AV.out.box 0;have b1:w6.cell? ⟨w.heap.size,1,none⟩=some (.int .u8 p):=qc AV.out.box 1;have b2:w6.cell? ⟨w.heap.size,2,none⟩=some (.int .i64 xa):=qc AV.out.box 2;have b3:w6.cell? ⟨w.heap.size,3,none⟩=some (.int .i64 xb):=qc AV.out.box 3;obtain⟨w7,hrun,UH,uS⟩:=(show dR w6.drew mb L (gI aj) from AV.out.num).put (by omega) (x:=⟨op,p,xa,xb⟩) HX.out (Fa.2 HN.out) L (by omega)
  unfold iV at hrun;dsimp only at hrun
  have Yj:Hid _:=UH;have wR:Hid _:=uS;clear UH uS
  go_upto_region 15 with fail
  go_region
  all_goals
   clear hrun t2 b0 b1 b2 b3;go_wp2;go_ret
   have e:=HL.out;subst e;exact⟨rfl,qh5 HI.out HF.out HX.out HN.out hl AV.out Yj.out wR.out HR.out.num.lt⟩
def FP(b mp:Nat)(vi vt:Value)(k:Nat):Prop:=k=b\/k=mp\/vi.ownBlock=some k\/vt.ownBlock=some k
def MO(vi:Value)(mp:Nat)(vt:Value)(rest:List Value):Array Value:=(vi :: .map (some mp)::vt::rest).toArray
def Yk(T:TypeId):Prop:=T=86\/T=89
structure jM(w:World)(b:Nat)(T:TypeId)(rest:List Value)(vi:Value)(mp:Nat)(vt:Value)(aj:List It)(aS:List ByteArray)(n:Nat)(f:It->Option Nat):Prop where
 ty:Yk T
 blk:w.heap[b]? =some (.cells (MO vi mp vt rest) T (0,0))
 ri:w.ownsRow 0 113 4 vi aj.length (encI aj)
 rt:w.ownsRow 0 9 1 vt aS.length (aS.map Value.string)
 num:dR w mp n f
theorem FN(h:w.ownsRow base e size v n xs)(hg:w.heap[g]? =some o)(ho:∀cs,o≠.cells cs e (0,0)):v.ownBlock≠some g:=by
 rcases h.2 with⟨rfl,_⟩|⟨g',cap,cur,rfl,_,hc,_⟩
 ·intro e;cases e
 ·intro e
  injection e with e;dsimp only at e
  subst e;rw[hg]at hc;injection hc with hc;exact ho _ hc
theorem nj(h:w.ownsRow base e size v n xs)(hg:v.ownBlock=some g):∃cs,w.heap[g]? =some (.cells cs e (0,0)):=by
 rcases h.2 with⟨rfl,_⟩|⟨g',cap,cur,rfl,_,hc,_⟩
 ·cases hg
 ·injection hg with hg
  dsimp only at hg
  subst hg;exact⟨_,hc⟩
theorem Yk.ne(h:Yk T):T≠113/\T≠9/\T≠3:=by
 rcases h with rfl|rfl<;>decide
section
variable {w:World}{b mp n:Nat}{T:TypeId}{rest:List Value}{vi vt:Value}{aj:List It}{aS:List ByteArray}{f:It->Option Nat}
theorem jM.ib(h:jM w b T rest vi mp vt aj aS n f):vi.ownBlock≠some b:=FN h.ri h.blk fun cs e=>by injection e with _ e _;exact h.ty.ne.1 e
theorem jM.tb(h:jM w b T rest vi mp vt aj aS n f):vt.ownBlock≠some b:=FN h.rt h.blk fun cs e=>by injection e with _ e _;exact h.ty.ne.2.1 e
theorem jM.im(h:jM w b T rest vi mp vt aj aS n f):vi.ownBlock≠some mp:=by
 obtain⟨es,c,hm⟩:=h.num.isMap;exact FN h.ri hm fun cs e=>by cases e
theorem jM.tm(h:jM w b T rest vi mp vt aj aS n f):vt.ownBlock≠some mp:=by
 obtain⟨es,c,hm⟩:=h.num.isMap;exact FN h.rt hm fun cs e=>by cases e
theorem jM.mb(h:jM w b T rest vi mp vt aj aS n f):mp≠b:=fun e=>by
 obtain⟨es,c,hm⟩:=h.num.isMap;rw[e,h.blk]at hm;cases hm
theorem jM.it(h:jM w b T rest vi mp vt aj aS n f):∀k,vi.ownBlock=some k->vt.ownBlock≠some k:=fun k hk=>by
 obtain⟨cs,hc⟩:=nj h.ri hk;exact FN h.rt hc fun cs e=>by injection e with _ e _;exact absurd e (by decide)
theorem jM.bl(h:jM w b T rest vi mp vt aj aS n f):b<w.heap.size:=(lC h.blk).1
theorem jM.lt(h:jM w b T rest vi mp vt aj aS n f):∀k,FP b mp vi vt k->k<w.heap.size:=fun k hk=>by
 rcases hk with rfl|rfl|hk|hk
 ·exact h.bl
 ·exact h.num.lt
 ·exact vP h.ri k hk
 ·exact vP h.rt k hk
theorem jM.far{w':World}(h:jM w b T rest vi mp vt aj aS n f)(hb:∀k,FP b mp vi vt k->w'.heap[k]? =w.heap[k]?):jM w' b T rest vi mp vt aj aS n f :=
 ⟨h.ty,(hb b (Or.inl rfl)).trans h.blk,qz h.ri fun k hk=>hb k (Or.inr (Or.inr (Or.inl hk))),qz h.rt fun k hk=>hb k (Or.inr (Or.inr (Or.inr hk))),h.num.far (hb mp (Or.inr (Or.inl rfl)))⟩
theorem jM.up(h:jM w b T rest vi mp vt aj aS n f)(hb:Below w.heap.size w w'):jM w' b T rest vi mp vt aj aS n f:=h.far fun k hk=>hb.block k (h.lt k hk)
theorem jM.c0(h:jM w b T rest vi mp vt aj aS n f):w.cell? ⟨b,0,none⟩=some vi:=qc h.blk 0
theorem jM.c1(h:jM w b T rest vi mp vt aj aS n f):w.cell? ⟨b,1,none⟩=some (.map (some mp)):=qc h.blk 1
theorem jM.c2(h:jM w b T rest vi mp vt aj aS n f):w.cell? ⟨b,2,none⟩=some vt:=qc h.blk 2
theorem jM.put{n':Nat}{f':It->Option Nat}(h:jM w b T rest vi mp vt aj aS n f)(hg:w.grownBy w' (some mp))(hn:dR w' mp n' f'):jM w' b T rest vi mp vt aj aS n' f'/\Fr w w' (FP b mp vi vt) (FP b mp vi vt):=by
 have st:∀k,k<w.heap.size->k≠mp->w'.heap[k]? =w.heap[k]? := fun k hk hne=>hg.block k hk (fun e=>hne (by injection e))
 refine⟨⟨h.ty,(st b h.bl (fun e=>h.mb e.symm)).trans h.blk,qz h.ri fun k hk=>st k (vP h.ri k hk) (fun e=>h.im (e ▸ hk)),qz h.rt fun k hk=>st k (vP h.rt k hk) (fun e=>h.tm (e ▸ hk)),hn⟩,hg.os,hg.tape,hg.output,hg.size,fun k hk hF=>st k hk fun e=>hF (Or.inr (Or.inl e)),fun _ hk=>Or.inl hk⟩
theorem jM.grow(h:jM w b T rest vi mp vt aj aS n f)(hg:(w.alloc o).drew.grownBy w5 vi.ownBlock)(ho:w5.ownsRow 0 113 4 uD aI.length (encI aI))(hl:uD.ownBlock=vi.ownBlock\/uD.ownBlock=some (w.alloc o).drew.heap.size):
  w5.heap[b]? =some (.cells (MO vi mp vt rest) T (0,0))/\jM (w5.setCell ⟨b,0,none⟩ uD) b T rest uD mp vt aI aS n f/\Fr w (w5.setCell ⟨b,0,none⟩ uD) (FP b mp vi vt) (FP b mp uD vt):=by
 have hb1:=qd w o;have hz:(w.alloc o).drew.heap.size=w.heap.size+1:=by simp
 have hs:=hg.size;have st:∀k,k<w.heap.size->vi.ownBlock≠some k->w5.heap[k]? =w.heap[k]? := fun k hk hne=>(hg.block k (by omega) (fun e=>hne e.symm)).trans (hb1.block k hk)
 have h5:=(st b h.bl h.ib).trans h.blk
 have hvb:uD.ownBlock≠some b:=fun e=>by
  rcases hl with e2|e2
  ·rw[e2]at e;exact h.ib e
  ·rw[e2]at e;injection e with e;have:=h.bl;omega
 have s6:∀k,k≠b->(w5.setCell ⟨b,0,none⟩ uD).heap[k]? =w5.heap[k]? := fun k hk=>Below.heap_setCell _ _ _ _ hk
 refine⟨h5,⟨h.ty,?_,qz ho fun k hk=>s6 k (fun e=>hvb (e ▸ hk)),qz h.rt fun k hk=>(s6 k (fun e=>h.tb (e ▸ hk))).trans (st k (vP h.rt k hk) (fun e=>h.it k e hk)),h.num.far ((s6 mp h.mb).trans (st mp h.num.lt h.im))⟩,hg.os,hg.tape,hg.output,?_,fun k hk hF=>?_,fun k hk=>?_⟩
 ·rw[heap_setCell_same w5 b 0 _ _ _ h5];rfl
 ·simp;omega
 ·exact(s6 k fun e=>hF (Or.inl e)).trans (st k hk fun e=>hF (Or.inr (Or.inr (Or.inl e))))
 ·rcases hk with hk|hk|hk|hk
  ·exact Or.inl (Or.inl hk)
  ·exact Or.inl (Or.inr (Or.inl hk))
  ·rcases hl with e|e
   ·rw[e]at hk;exact Or.inl (Or.inr (Or.inr (Or.inl hk)))
   ·rw[e]at hk;injection hk with hk;right;omega
  ·exact Or.inl (Or.inr (Or.inr (Or.inr hk)))
theorem jM.lY{texts':List ByteArray}(h:jM w b T rest vi mp vt aj aS n f)(hg:(w.alloc o).grownBy w5 vt.ownBlock)(ho:w5.ownsRow 0 9 1 wW texts'.length (texts'.map Value.string))(hl:wW.ownBlock=vt.ownBlock\/wW.ownBlock=some (w.alloc o).heap.size):
  w5.heap[b]? =some (.cells (MO vi mp vt rest) T (0,0))/\jM (w5.setCell ⟨b,2,none⟩ wW) b T rest vi mp wW aj texts' n f/\Fr w (w5.setCell ⟨b,2,none⟩ wW) (FP b mp vi vt) (FP b mp vi wW):=by
 have hb1:=qd w o;have hz:(w.alloc o).heap.size=w.heap.size+1:=by simp
 have hs:=hg.size;have st:∀k,k<w.heap.size->vt.ownBlock≠some k->w5.heap[k]? =w.heap[k]? := fun k hk hne=>(hg.block k (by omega) (fun e=>hne e.symm)).trans (hb1.block k hk)
 have h5:=(st b h.bl h.tb).trans h.blk
 have hvb:wW.ownBlock≠some b:=fun e=>by
  rcases hl with e2|e2
  ·rw[e2]at e;exact h.tb e
  ·rw[e2]at e;injection e with e;have:=h.bl;omega
 have s6:∀k,k≠b->(w5.setCell ⟨b,2,none⟩ wW).heap[k]? =w5.heap[k]? := fun k hk=>Below.heap_setCell _ _ _ _ hk
 refine⟨h5,⟨h.ty,?_,qz h.ri fun k hk=>(s6 k (fun e=>h.ib (e ▸ hk))).trans (st k (vP h.ri k hk) (fun e=>h.it k hk e)),qz ho fun k hk=>s6 k (fun e=>hvb (e ▸ hk)),h.num.far ((s6 mp h.mb).trans (st mp h.num.lt h.tm))⟩,hg.os,hg.tape,hg.output,?_,fun k hk hF=>?_,fun k hk=>?_⟩
 ·rw[heap_setCell_same w5 b 2 _ _ _ h5];rfl
 ·simp;omega
 ·exact(s6 k fun e=>hF (Or.inl e)).trans (st k hk fun e=>hF (Or.inr (Or.inr (Or.inr e))))
 ·rcases hk with hk|hk|hk|hk
  ·exact Or.inl (Or.inl hk)
  ·exact Or.inl (Or.inr (Or.inl hk))
  ·exact Or.inl (Or.inr (Or.inr (Or.inl hk)))
  ·rcases hl with e|e
   ·rw[e]at hk;exact Or.inl (Or.inr (Or.inr (Or.inr hk)))
   ·rw[e]at hk;injection hk with hk;right;omega
end
structure yM(w:World)(G:Nat->Prop)(b:Nat)(T:TypeId)(rest:List Value)(aj:List It)(aS:List ByteArray):Prop where
 nd:aj.Nodup
 tl:aS.length=aj.length
 few:aj.length<=20000000
 ok:∀x∈aj,kF x
 tok:∀s∈aS,xK s
 ex:∃vi mp vt,jM w b T rest vi mp vt aj aS aj.length (gI aj)/\∀k,G k↔FP b mp vi vt k
theorem yM.lt{w:World}{G:Nat->Prop}{b:Nat}{T:TypeId}{rest:List Value}{aj:List It}{aS:List ByteArray}(h:yM w G b T rest aj aS):∀k,G k->k<w.heap.size:=fun k hk=>by
 obtain⟨vi,mp,vt,hr,hG⟩:=h.ex;exact hr.lt k ((hG k).1 hk)
theorem yM.far(h:yM w G b T rest aj aS)(hb:∀k,G k->w'.heap[k]? =w.heap[k]?):yM w' G b T rest aj aS:=by
 obtain⟨vi,mp,vt,hr,hG⟩:=h.ex;exact⟨h.nd,h.tl,h.few,h.ok,h.tok,vi,mp,vt,hr.far fun k hk=>hb k ((hG k).2 hk),hG⟩
theorem yM.up(h:yM w G b T rest aj aS)(hb:Below w.heap.size w w'):yM w' G b T rest aj aS:=h.far fun k hk=>hb.block k (h.lt k hk)
theorem Fr.alike{F':Nat->Prop}(h:Fr w w' F F')(h1:∀k,F k->G k)(h2:∀k,G' k->F' k):Fr w w' G G' :=
 ⟨h.os,h.tape,h.output,h.size,fun k hk hn=>h.keep k hk fun e=>hn (h1 k e),fun k hk=>(h.foot k (h2 k hk)).imp (h1 k) id⟩
theorem q7s(h:yM w G b T rest aj aS)(x:It)(hx:kF x)(j:Nat)(hj:gI aj x=some j):
  Calls prog 73 #[.pointer (some ⟨b,0,none⟩),iV x] w fun e w'=>e=.returned (.int .i64 j)/\Below w.heap.size w w':=by
 obtain⟨vi,mp,vt,hr,hG⟩:=h.ex;have hr1:=hr.up (qd w (aW x));have c1:=hr1.c1;have hb0:=(dO w (aW x)).1;have b0:(w.alloc (aW x)).cell? ⟨w.heap.size,0,none⟩=some (.int .u8 x.op):=qc hb0 0;have b1:(w.alloc (aW x)).cell? ⟨w.heap.size,1,none⟩=some (.int .u8 x.p):=qc hb0 1;have b2:(w.alloc (aW x)).cell? ⟨w.heap.size,2,none⟩=some (.int .i64 x.a):=qc hb0 2;have b3:(w.alloc (aW x)).cell? ⟨w.heap.size,3,none⟩=some (.int .i64 x.b):=qc hb0 3
 have hlook:(Instr.lookup 83 (.map (some mp)) (iV x) true).run prog (w.alloc (aW x)).drew=.ok (.tuple #[.int .i64 j,.bool true]) (w.alloc (aW x)).drew:=by
  have:=(show dR (w.alloc (aW x)).drew mp aj.length (gI aj) from hr1.num).look hx
  rw[hj]at this;exact this
 have HB:Hid _:=qd w (aW x);clear h hr hr1 hG hb0 hx hj;obtain⟨op,p,xa,xb⟩:=x;unfold aW at *;unfold iV at *;dsimp only at *
 go_enter func73,ntmps73
 go_upto_region 15 with fail
 go_region
 all_goals
  go_wp2;go_ret
  exact⟨rfl,HB.out.drew⟩
theorem qaB:(prog.info? 9).map (fun i=>(i.zero,i.size,i.bytes))=some (some (.string ⟨#[]⟩),1,16):=by kernel_rfl
theorem Yl{w:World}{ops:Array Oper}{rest:List Oper}{o:Oper}{a:Act}{Q:Exit->Act->World->Prop}{E:TypeId}{z:Value}{bt:Nat}(hu:prog.underlying T=some (.slice E))(hin:(prog.info? E).map (fun i=>(i.zero,i.size,i.bytes))=some (some z,1,bt))(hzs:z.cells.size=1)(hbt:bt<=1000)(hgd:o.guard=none)(s x:Operand)
  (ho:o.op=.call { callee:=.builtin .append,args:=#[s,x],argTypes:=#[T,T] }) (base:Nat)
  (v:Value) (n:Nat) (xs:List Value) (y:Value) (g:Nat) (hs:a.eval s=v) (hx:a.eval x=.slice (some ⟨g,0,none⟩) 1 1) (hown:w.ownsRow base E 1 v n xs)
  (hB:w.cell? ⟨g,0,none⟩=some y) (h1:y.oneCell'=true) (hn:n<=100000000) (hbase:base<=w.heap.size)
  (h:∀v' w',w'.ownsRow base E 1 v' (n+1) (xs++[y])->w.grownBy w' v.ownBlock->(v'.ownBlock=v.ownBlock\/v'.ownBlock=some w.heap.size)->wpList prog ops Q rest (a.put o.dst v') w'):wpList prog ops Q (o::rest) a w:=by
 obtain⟨i,hi,hz0,hz1,hz2⟩:=info_parts hin;have hb:(n+1)*bt<=(100000000+1)*1000:=Nat.mul_le_mul (by omega) hbt
 refine wpList_append_own_at w hgd s x T ho base E i _ 1 bt hu hi hz0 hz1 hz2 hzs (by decide) v n _ hs hown ⟨g,0,none⟩ 1 1 [y] hx rfl ?_ ?_ (by unfold maxLen;omega) (by omega) hbase ?_
 ·intro j u hj
  match j with
  | 0=>simp at hj;rw[<-hj,qi];exact hB
  |j+1=>simp at hj
 ·intro u hu'
  simp at hu'
  subst hu';exact h1
 ·intro v' w' e1 e2 _ e3
  exact h v' w' e1 e2 e3
theorem qfX{w8:World}{uD wW:Value}(h:yM w G b T rest aj aS)(hG:∀k,G k↔FP b mp vi vt k)(hx:kF x)(hn:x ∉ aj)(hl:aj.length<20000000)
  (hR:jM w8 b T rest uD mp wW (aj++[x]) (aS++[⟨#[]⟩]) (aj.length+1) (fun y=>if y=x then some aj.length else gI aj y)) (fr:Fr w w8 (FP b mp vi vt) (FP b mp uD wW)):
  ∃G',yM w8 G' b T rest (aj++[x]) (aS++[⟨#[]⟩])/\Fr w w8 G G':=by
 refine⟨FP b mp uD wW,⟨List.nodup_append.2 ⟨h.nd,by simp,fun a ha c hc=>by simp at hc;subst hc;exact fun e=>hn (e ▸ ha)⟩,by simp[h.tl],by simp;omega,fun y hy=>?_,fun s hs=>?_,uD,mp,wW,⟨hR.ty,hR.blk,hR.ri,hR.rt,?_⟩,fun k=>Iff.rfl⟩,fr.alike (fun k hk=>(hG k).2 hk) (fun k hk=>hk)⟩
 ·rcases List.mem_append.1 hy with hy|hy
  ·exact h.ok y hy
  ·simp at hy;subst hy;exact hx
 ·rcases List.mem_append.1 hs with hs|hs
  ·exact h.tok s hs
  ·simp at hs;subst hs;unfold xK;decide
 ·rw[List.length_append]
  exact hR.num.alike fun y _=>nh hn y
theorem nk(h:yM w G b T rest aj aS)(x:It)(hx:kF x)(hn:x ∉ aj)(hl:aj.length<20000000):
  Calls prog 73 #[.pointer (some ⟨b,0,none⟩),iV x] w fun e w'=>e=.returned (.int .i64 aj.length)/\∃G',yM w' G' b T rest (aj++[x]) (aS++[⟨#[]⟩])/\Fr w w' G G':=by
 obtain⟨vi,mp,vt,hr,hG⟩:=h.ex;obtain⟨ai,ci,rfl⟩:=qK hr.ri;obtain⟨at',ct,rfl⟩:=qK hr.rt;have hr1:jM (w.alloc (aW x)).drew b T rest _ mp _ aj aS aj.length (gI aj):=(hr.up (qd w (aW x))).up (Below.refl _ _).drew;have c0:=(hr.up (qd w (aW x))).c0;have c1:=(hr.up (qd w (aW x))).c1;have hb0:=(dO w (aW x)).1;have b0:(w.alloc (aW x)).cell? ⟨w.heap.size,0,none⟩=some (.int .u8 x.op):=qc hb0 0;have b1:(w.alloc (aW x)).cell? ⟨w.heap.size,1,none⟩=some (.int .u8 x.p):=qc hb0 1;have b2:(w.alloc (aW x)).cell? ⟨w.heap.size,2,none⟩=some (.int .i64 x.a):=qc hb0 2;have b3:(w.alloc (aW x)).cell? ⟨w.heap.size,3,none⟩=some (.int .i64 x.b):=qc hb0 3
 have hlook:(Instr.lookup 83 (.map (some mp)) (iV x) true).run prog (w.alloc (aW x)).drew=.ok (.tuple #[.int .i64 0,.bool false]) (w.alloc (aW x)).drew:=by
  have:=hr1.num.look hx
  rw[Fa.2 hn]at this;exact this
 obtain⟨w4,hrun,hn4,hg4⟩:=(show dR (w.alloc (aW x)).drew.drew mp aj.length (gI aj) from hr1.num).put (by have:=h.few;omega) hx (Fa.2 hn) aj.length (by have:=h.few;omega)
 obtain⟨rV,nK⟩:=(hr1.up (Below.refl _ _).drew).put hg4 hn4;have HP4:Hid _:=rV;have FT:Hid (Fr w w4 _ _):=(Fr.au ((qd w (aW x)).drew.drew)).trans nK;have d0:=rV.c0;have d0b:=(rV.up (qd w4 (aW x))).c0
 have hbx:w4.heap[w.heap.size]? =some (aW x):=by
  refine (hg4.block _ (by simp) (fun e=>?_)).trans hb0
  injection e with e;have:=hr.num.lt
  omega
 have e0:w4.cell? ⟨w.heap.size,0,none⟩=some (.int .u8 x.op):=qc hbx 0;have e1:w4.cell? ⟨w.heap.size,1,none⟩=some (.int .u8 x.p):=qc hbx 1;have e2:w4.cell? ⟨w.heap.size,2,none⟩=some (.int .i64 x.a):=qc hbx 2;have e3:w4.cell? ⟨w.heap.size,3,none⟩=some (.int .i64 x.b):=qc hbx 3;have hO:(w4.alloc (aW x)).drew.ownsRow 0 113 4 (.slice ai aj.length ci) aj.length (encI aj):=World.ownsRow.alloc rV.ri _;have hB:(w4.alloc (aW x)).drew.heap[w4.heap.size]? =some (aW x):=(dO w4 (aW x)).1;have HI:Hid _:=h;have HG:Hid _:=hG;have HX:Hid _:=hx;have HN:Hid _:=hn;have Qg:Hid _:=fun w5 uD hg ho hl=>rV.grow (w5:=w5) (o:=aW x) (uD:=uD) (aI:=aj++[x]) hg ho hl
 have htl:=h.tl;have hfew:=h.few;clear h hr hr1 hG hb0 hx hn rV nK hn4 hg4 hbx;obtain⟨op,p,xa,xb⟩:=x;unfold aW at *;unfold iV at *;dsimp only at *
 generalize hL:aj.length=L at *;generalize hL2:aS.length=L2 at *;have HL:=aX hL;have HL2:=aX hL2;subst htl;clear hL hL2;go_enter func73,ntmps73
 go_upto_region 15 with fail
 go_region
 all_goals
  clear hlook
  go_upto_region 15 with fail
  go_region
  all_goals
   clear hrun c0 c1 b0 b1 b2 b3
   go_upto_region 15 with fail
   go_region_law ((refine mU rfl _ _ rfl (.slice ai L2 ci) L2 aj ⟨op,p,xa,xb⟩ w4.heap.size rfl rfl hO hB (by omega) ?_;intro v5 w5 hown5 hgr5 mV;obtain⟨a5,k5,rfl⟩:=qK hown5;have m5:=Qg.out w5 _ hgr5 (by rw[List.length_append,HL.out];exact hown5) mV;have c5:w5.cell? ⟨b,0,none⟩=some (.slice ai L2 ci):=qc m5.1 0;have z5:w5.frozen? ⟨b,0,none⟩=false:=frozen_of_row w5 _ 0 _ _ m5.1))
   all_goals
    have AV:Hid _:=m5.2.1;have HF6:Hid _:=FT.out.trans m5.2.2;clear hO hB d0 d0b e0 e1 e2 e3 c5 z5 m5 hown5 hgr5 mV;generalize w5.setCell ⟨b,0,none⟩ (.slice a5 (L2+1) k5)=w6 at *;have f2:=AV.out.c2;have nt:(w6.alloc (.cells #[.string ⟨#[]⟩] 9)).cell? ⟨w6.heap.size,0,none⟩=some (.string ⟨#[]⟩):=qc (dO w6 _).1 0
    have nu:(w6.alloc (.cells #[.string ⟨#[]⟩] 9)).ownsRow 0 9 1 (.slice at' L2 ct) L2 (aS.map Value.string):=by
     have:=World.ownsRow.alloc AV.out.rt (.cells #[.string ⟨#[]⟩] 9)
     rw[HL2.out]at this;exact this
    go_wp2_with (at_builtin;refine Yl underlying84 qaB rfl (by decide) rfl _ _ rfl 0 _ L2 (aS.map Value.string) (.string ⟨#[]⟩) w6.heap.size rfl rfl nu nt rfl (by omega) (Nat.zero_le _) ?_)
    intro v7 w7 jC mD Ig;obtain⟨a7,k7,rfl⟩:=qK jC;have m7:=AV.out.lY (texts':=aS++[⟨#[]⟩]) mD (by rw[List.length_append,HL2.out,List.map_append];exact jC) (by simpa using Ig)
    have c7:w7.cell? ⟨b,2,none⟩=some (.slice at' L2 ct):=qc m7.1 2;have z7:w7.frozen? ⟨b,2,none⟩=false:=frozen_of_row w7 _ 2 _ _ m7.1;have HM8:Hid _:=m7.2.1;have HF8:Hid _:=HF6.out.trans m7.2.2;clear nt nu m7 jC mD Ig f2;go_wp2;go_ret
    have e:=HL.out;subst e;exact⟨rfl,qfX HI.out HG.out HX.out HN.out hl HM8.out HF8.out⟩
def mJ(S:Tr):ByteArray:=⟨(S.flat.map fun k=>UInt8.ofNat (k.1*8+k.2)).toArray⟩
def Ym(T0:Tr)(aj:List It):Prop:=∀n,n<aj.length->∃S,Rep aj n S/\jD T0 S
theorem qha(hn:aj.Nodup)(h:Ym T0 aj):aj.length<=(Dn T0).length:=by
 have hf:∀n,∃S,n<aj.length->Rep aj n S/\jD T0 S:=fun n=>by
  by_cases hn:n<aj.length
  ·obtain⟨S,hS⟩:=h n hn
   exact⟨S,fun _=>hS⟩
  ·exact⟨.leaf (0,0),fun h=>absurd h hn⟩
 have hl:((List.range aj.length).map fun n=>Classical.choose (hf n)).length=aj.length:=by simp
 rw[<-hl];refine Yc ?_ fun S hS=>?_
 ·unfold List.Nodup
  rw[List.pairwise_map];refine List.Pairwise.imp_of_mem ?_ (List.pairwise_lt_range (n:=aj.length))
  intro a b ha hb hab e;have h1:=(Classical.choose_spec (hf a) (List.mem_range.1 ha)).1;have h2:=(Classical.choose_spec (hf b) (List.mem_range.1 hb)).1;rw[e]at h1;have:=Rep.num hn h1 h2
  omega
 ·obtain⟨n,hn,rfl⟩:=List.mem_map.1 hS
  exact qhj (Classical.choose_spec (hf n) (List.mem_range.1 hn)).2
structure Qh(T0:Tr):Prop where
 kt:KT T0
 sz:T0.size<=2048
structure kW(T0:Tr)(w:World)(G:Nat->Prop)(b:Nat)(T:TypeId)(rest:List Value)(aj:List It):Prop where
 t0:Qh T0
 low:Low aj
 BJ:Ym T0 aj
 ex:∃aS,yM w G b T rest aj aS/\∀n S,Rep aj n S->aS[n]? =some ⟨#[]⟩\/aS[n]? =some (mJ S)
theorem kW.lt(h:kW T0 w G b T rest aj):∀k,G k->k<w.heap.size:=by
 obtain⟨aS,hp,_⟩:=h.ex;exact hp.lt
theorem kW.far(h:kW T0 w G b T rest aj)(hb:∀k,G k->w'.heap[k]? =w.heap[k]?):kW T0 w' G b T rest aj:=by
 obtain⟨aS,hp,ht⟩:=h.ex;exact⟨h.t0,h.low,h.BJ,aS,hp.far hb,ht⟩
theorem kW.up(h:kW T0 w G b T rest aj)(hb:Below w.heap.size w w'):kW T0 w' G b T rest aj:=h.far fun k hk=>hb.block k (h.lt k hk)
theorem kW.few(h:kW T0 w G b T rest aj):aj.length<=20000000:=by
 obtain⟨aS,hp,_⟩:=h.ex;exact hp.few
def kL(T0:Tr)(w:World)(G:Nat->Prop)(b:Nat)(T:TypeId)(rest:List Value)(aj:List It)(R:List It->Int->Prop)(j:Int)(w':World):Prop :=
 ∃(aI:List It) (G':Nat->Prop),aj <+: aI/\R aI j/\kW T0 w' G' b T rest aI/\Fr w w' G G'
def jE(T0:Tr)(w:World)(G:Nat->Prop)(b:Nat)(T:TypeId)(rest:List Value)(aj:List It)(R:List It->Int->Prop)(e:Ending)(w':World):Prop :=
 ∃(j:Int),e=.returned (.int .i64 j)/\kL T0 w G b T rest aj R j w'
def sV(S:Tr)(aj:List It)(j:Int):Prop:=∃m:Nat,j=(m:Int)/\Rep aj m S
theorem Rep.pre(h:aj <+: aI)(hr:Rep aj n S):Rep aI n S:=by
 obtain⟨l,rfl⟩:=h;exact hr.more l
theorem UJ(h:kW T0 w G b T rest aj)(x:It)(S:Tr)(hS:jD T0 S)(hx:kF x)(ha:x.a<(aj.length:Int))(hb:x.b<(aj.length:Int))
  (hR:∀aI j,aj <+: aI->Low aI->aI[j]? =some x->Rep aI j S):
  Calls prog 73 #[.pointer (some ⟨b,0,none⟩),iV x] w (jE T0 w G b T rest aj (sV S)):=by
 obtain⟨aS,hp,ht⟩:=h.ex
 cases hj:gI aj x with
 |some j=>
  have hget:=(L8 hp.nd).1 hj;have hrep:=hR aj j (List.prefix_refl _) h.low hget;exact(q7s hp x hx j hj).mono fun e w' ⟨he,hbw⟩=>⟨(j:Int),he,aj,G,List.prefix_refl _,⟨j,rfl,hrep⟩,h.up hbw,Fr.au hbw⟩
 |none=>
  have hn:=Fa.1 hj
  have hlow:Low (aj++[x]):=by
   have:=TV h.low ha hb
   have e:iQ aj x=(aj++[x],aj.length):=by
    rcases En aj x with⟨j,_,hj2⟩|⟨e,_⟩
    ·exact absurd (List.mem_of_getElem? hj2) hn
    ·exact e
   rw[e]at this;exact this
  have hrep:=hR (aj++[x]) aj.length (List.prefix_append _ _) hlow (by simp)
  have hnd:(aj++[x]).Nodup:=List.nodup_append.2 ⟨hp.nd,by simp,fun a h1 c hc=>by simp at hc;subst hc;exact fun e=>hn (e ▸ h1)⟩
  have hcov:Ym T0 (aj++[x]):=fun n hn2=>by
   by_cases hlt:n<aj.length
   ·obtain⟨S',h1,h2⟩:=h.BJ n hlt
    exact⟨S',h1.more [x],h2⟩
   ·have:n=aj.length:=by simp at hn2;omega
    subst this;exact⟨S,hrep,hS⟩
  have hl:aj.length<20000000:=by
   have h1:=qha hnd hcov;have h2:=qh7 h.t0.kt h.t0.sz;simp at h1
   omega
  refine (nk hp x hx hn hl).mono fun e w' ⟨he,G',hp',fr⟩=>⟨(aj.length:Int),he,aj++[x],G',List.prefix_append _ _,⟨_,rfl,hrep⟩,⟨h.t0,hlow,hcov,_,hp',fun n S' hr=>?_⟩,fr⟩
  by_cases hlt:n<aj.length
  ·obtain⟨S2,h1,_⟩:=h.BJ n hlt
   have e:=Rep.tree (h1.more [x]) hr;subst e;rw[List.getElem?_append_left (by rw[hp.tl];exact hlt)]
   exact ht n _ h1
  ·have:n=aj.length:=by have:=hr.lt;simp at this;omega
   subst this;refine Or.inl ?_
   rw[<-hp.tl];simp
theorem q24:∀T:Tr,T.WF->∀k∈T.flat,k.1<=23/\k.2<=7
 | .leaf (op,p),h,k,hk=>by
  simp[Tr.flat]at hk
  subst hk;rcases qG h with⟨rfl,hp⟩|⟨rfl,rfl|rfl|rfl|rfl|rfl⟩
  ·exact⟨by show 2<=23;omega,hp⟩
  all_goals exact⟨by decide,by decide⟩
 | .un (op,p) c,h,k,hk=>by
  obtain⟨rfl,hc,_,ho⟩:=qw h;simp[Tr.flat]at hk
  rcases hk with hk|rfl
  ·exact q24 c hc k hk
  ·exact⟨by show op<=23;omega,Nat.zero_le _⟩
 | .bin (op,p) c d,h,k,hk=>by
  obtain⟨rfl,hc,hd,_,ho⟩:=qt h;simp[Tr.flat]at hk
  rcases hk with hk|hk|rfl
  ·exact q24 c hc k hk
  ·exact q24 d hd k hk
  ·exact⟨by show op<=23;omega,Nat.zero_le _⟩
theorem Yn(h0:KT T0)(h:jD T0 S):∀k∈S.flat,k.1<=23/\k.2<=7:=by
 have hw:S.WF:=by rcases MN h0 h with k|k<;>exact k.wf
 exact q24 S hw
theorem Ad{a b:Int}(ho:op<256)(ha:-1<=a)(ha2:a<100000000)(hb:-1<=b)(hb2:b<100000000):kF ⟨op,0,a,b⟩:=⟨ho,by show 0<256;decide,ha,ha2,hb,hb2⟩
theorem nz(h:kW T0 w G b T rest aj)(op:Nat)(ho:op=4\/op=5):
  Calls prog 128 #[.pointer (some ⟨b,0,none⟩),.int .u8 op] w (jE T0 w G b T rest aj (sV (.leaf (op,0)))):=by
 have hk:=UJ h ⟨op,0,-1,-1⟩ (.leaf (op,0)) (Qc ho) (Ad (by omega) (by decide) (by decide) (by decide) (by decide)) (by show (-1:Int)<_;omega) (by show (-1:Int)<_;omega) (fun aI j _ _ hj=>.leaf hj)
 unfold jE at *;generalize kL T0 w G b T rest aj (sV (.leaf (op,0)))=Q at *;clear h ho;unfold iV at hk;dsimp only at hk
 go_enter func128,ntmps128
 go_wp2_with fail
 refine hk.mono ?_
 rintro e w' ⟨j,rfl,hq⟩
 have HQ:Hid _:=hq;clear hk hq;go_wp2;go_ret
 exact⟨j,rfl,HQ.out⟩
theorem MP(h:kW T0 w G b T rest aj)(op:Nat)(ho:op<256)(m l:Nat)(c d:Tr)(hm:Rep aj m c)(hl:Rep aj l d)(hS:jD T0 (.bin (op,0) c d)):
  Calls prog 145 #[.pointer (some ⟨b,0,none⟩),.int .u8 op,.int .i64 m,.int .i64 l] w (jE T0 w G b T rest aj (sV (.bin (op,0) c d))):=by
 have hk:=UJ h ⟨op,0,(m:Int),(l:Int)⟩ (.bin (op,0) c d) hS (Ad ho (by omega) (by have:=hm.lt;have:=h.few;omega) (by omega) (by have:=hl.lt;have:=h.few;omega)) (by show (m:Int)<_;have:=hm.lt;omega) (by show (l:Int)<_;have:=hl.lt;omega) (fun aI j hp hlow hj=>by
  obtain⟨h1,h2⟩:=V7 (k:=(op,0)) hlow hj;exact .bin hj h1 h2 (hm.pre hp) (hl.pre hp))
 unfold jE at *;generalize kL T0 w G b T rest aj (sV (.bin (op,0) c d))=Q at *;clear h ho hm hl hS;unfold iV at hk;dsimp only at hk
 go_enter func145,ntmps145
 go_wp2_with fail
 refine hk.mono ?_
 rintro e w' ⟨j,rfl,hq⟩
 have HQ:Hid _:=hq;clear hk hq;go_wp2;go_ret
 exact⟨j,rfl,HQ.out⟩
def wo(op:Nat):Nat:=if op=0 then 1 else if op=1 then 0 else if op=4 then 5 else if op=5 then 4 else if op=7 then 8 else if op=8 then 7 else if op=11 then 12 else if op=12 then 11 else if op=15 then 16 else if op=16 then 15 else if op=17 then 18 else 17
theorem nA(op:Nat)(w:World)(h:op=0\/op=1\/op=4\/op=5\/op=7\/op=8\/op=11\/op=12\/op=15\/op=16\/op=17\/op=18):Calls prog 149 #[.int .u8 op] w fun e w'=>e=.returned (.int .u8 (wo op:Int))/\w'=w:=by
 rcases h with rfl|rfl|rfl|rfl|rfl|rfl|rfl|rfl|rfl|rfl|rfl|rfl <;>
 ·go_enter func149,ntmps149
  go_wp2;go_ret
  exact⟨rfl,rfl⟩
def Qi(_:List It)(j:Int):Prop:=j=-1
theorem kL.trans{G1:Nat->Prop}{dS:List It}{R:List It->Int->Prop}{j:Int}(hp:aj <+: dS)(fr:Fr w w1 G G1)(h:kL T0 w1 G1 b T rest dS R j w2):kL T0 w G b T rest aj R j w2:=by
 obtain⟨i2,G2,h1,h2,h3,h4⟩:=h;exact⟨i2,G2,hp.trans h1,h2,h3,fr.trans h4⟩
theorem q37(h:kW T0 w G b T rest aj):
  Calls prog 146 #[.pointer (some ⟨b,0,none⟩),.int .i64 (-1)] w (jE T0 w G b T rest aj Qi):=by
 have HQ:Hid (kL T0 w G b T rest aj Qi (-1) w):=⟨aj,G,List.prefix_refl _,rfl,h,Fr.au (Below.refl _ _)⟩;clear h;go_enter func146,ntmps146
 go_wp2;go_ret
 exact⟨-1,rfl,HQ.out⟩
theorem kW.at(h:kW T0 w G b T rest aj)(hi:aj[i]? =some x):
  ∃a n cap g o,w.cell? ⟨b,0,none⟩=some (.slice a n cap)/\(∀w',(Instr.indexAt 82 (.slice a n cap) (.int .i64 i)).run prog w'=.ok (.pointer (some ⟨g,o,none⟩)) w') /\
   w.cell? ⟨g,o,none⟩=some (.int .u8 x.op)/\w.cell? ⟨g,o+1,none⟩=some (.int .u8 x.p)/\w.cell? ⟨g,o+2,none⟩=some (.int .i64 x.a)/\w.cell? ⟨g,o+3,none⟩=some (.int .i64 x.b):=by
 obtain⟨aS,hp,_⟩:=h.ex;obtain⟨vi,mp,vt,hr,_⟩:=hp.ex;obtain⟨hi1,hi2⟩:=List.getElem?_eq_some_iff.1 hi;rcases hr.ri.2 with⟨e,e0⟩|⟨g,cap',cur,rfl,_,hcell,hnc,_,hsz,htk⟩
 ·omega
 ·have key:∀j,j<aj.length*4->w.cell? ⟨g,j,none⟩=(encI aj)[j]? := fun j hj=>by
   rw[<-htk,List.getElem?_take,if_pos hj];simp[World.cell?,hcell]
  obtain⟨q0,q1,q2,q3⟩:=Uh aj i hi1;rw[hi2]at q0 q1 q2 q3;refine⟨_,_,_,g,4*i,hr.c0,fun w'=>?_,?_,?_,?_,?_⟩
  ·simp[Instr.indexAt,run_underlying underlying82,asIntOf,qU LZ,hi1,Result.andThen,go_sem,qi,Nat.mul_comm]
  ·rw[key _ (by omega)];exact q0
  ·rw[key _ (by omega)];exact q1
  ·rw[key _ (by omega)];exact q2
  ·rw[key _ (by omega)];exact q3
theorem kW.new(h:kW T0 w G b T rest aj):¬G w.heap.size:=fun e=>Nat.lt_irrefl _ (h.lt _ e)
theorem qj{B:Nat}(h:w.heap[B]? =some o)(hB:¬G B)(fr:Fr w w' G G'):w'.heap[B]? =some o/\¬G' B :=
 ⟨(fr.keep B (lC h).1 hB).trans h,fr.out hB (lC h).1⟩
theorem q9e(h:kW T0 w G b T rest aj)(i q:Nat)(hi:Rep aj i (.leaf (2,q)))(hS:jD T0 (.un (6,0) (.leaf (2,q)))):
  Calls prog 146 #[.pointer (some ⟨b,0,none⟩),.int .i64 i] w (jE T0 w G b T rest aj (sV (.un (6,0) (.leaf (2,q))))):=by
 have hx:aj[i]? =some ⟨2,q,-1,-1⟩:=by cases hi with|leaf h=>exact h
 obtain⟨a,n,cap,g,o,c0,hidx,x0,x1,x2,x3⟩:=h.at hx;have hb:=qd w (aW ⟨2,q,-1,-1⟩)
 have hk:=UJ (h.up hb) ⟨6,0,(i:Int),-1⟩ (.un (6,0) (.leaf (2,q))) hS (Ad (by omega) (by omega) (by have:=hi.lt;have:=h.few;omega) (by omega) (by omega)) (by show (i:Int)<_;have:=hi.lt;omega) (by show (-1:Int)<_;omega) (fun aI j hp hlow hj=>by
  exact .un (k:=(6,0)) (m:=i) hj (V6 (k:=(6,0)) hlow hj) (hi.pre hp))
 have hFr:Fr w (w.alloc (aW ⟨2,q,-1,-1⟩)) G G:=Fr.au hb;have hne:((i:Int) == -1)=false:=by rw[lu];omega
 unfold jE at *;have HTR:Hid (∀j w',kL T0 (w.alloc (aW ⟨2,q,-1,-1⟩)) G b T rest aj (sV (.un (6,0) (.leaf (2,q)))) j w'->kL T0 w G b T rest aj (sV (.un (6,0) (.leaf (2,q)))) j w'):=fun j w' h=>h.trans (List.prefix_refl _) hFr
 generalize kL T0 (w.alloc (aW ⟨2,q,-1,-1⟩)) G b T rest aj (sV (.un (6,0) (.leaf (2,q))))=Q at *;generalize kL T0 w G b T rest aj (sV (.un (6,0) (.leaf (2,q))))=Q2 at *;clear h hi hS hb hFr hx;unfold aW at *;unfold iV at hk;dsimp only at *
 go_enter func146,ntmps146
 go_wp2_with fail
 refine hk.mono ?_
 rintro e w' ⟨j,rfl,hq⟩
 have HQ:Hid _:=HTR.out _ _ hq;clear hk hq;go_wp2;go_ret
 exact⟨j,rfl,HQ.out⟩
theorem qaQ(h:kW T0 w G b T rest aj)(i:Nat)(c:Tr)(hi:Rep aj i (.un (6,0) c)):
  Calls prog 146 #[.pointer (some ⟨b,0,none⟩),.int .i64 i] w (jE T0 w G b T rest aj (sV c)):=by
 obtain⟨m,hx,hm⟩:∃m:Nat,aj[i]? =some ⟨6,0,(m:Int),-1⟩/\Rep aj m c:=by cases hi with|un h h1 h2=>exact⟨_,h,h2⟩
 obtain⟨a,n,cap,g,o,c0,hidx,x0,x1,x2,x3⟩:=h.at hx;have hb:=qd w (aW ⟨6,0,(m:Int),-1⟩);have HQ:Hid (kL T0 w G b T rest aj (sV c) (m:Int) (w.alloc (aW ⟨6,0,(m:Int),-1⟩))):=⟨aj,G,List.prefix_refl _,⟨m,rfl,hm⟩,h.up hb,Fr.au hb⟩;have hne:((i:Int) == -1)=false:=by rw[lu];omega
 clear h hi hb hx hm;unfold aW at *;dsimp only at *
 go_enter func146,ntmps146
 go_wp2;go_ret
 exact⟨_,rfl,HQ.out⟩
theorem Yo(op:Nat)(a b:Int):iV ⟨op,0,a,b⟩=.agg #[.int .u8 op,.int .u8 0,.int .i64 a,.int .i64 b]:=rfl
def UK(T0:Tr)(b:Nat)(T:TypeId)(rest:List Value)(JH:List It)(a:Int)(R:List It->Int->Prop):Prop :=
 ∀(w:World)(G:Nat->Prop)(aj:List It),JH <+: aj->kW T0 w G b T rest aj->Calls prog 146 #[.pointer (some ⟨b,0,none⟩),.int .i64 a] w (jE T0 w G b T rest aj R)
theorem Yp(h:kW T0 w G b T rest aj)(i op p:Nat)(xa xb:Int)(hx:aj[i]? =some ⟨op,p,xa,xb⟩)(ho:op=0\/op=1\/op=4\/op=5\/op=7\/op=8\/op=11\/op=12\/op=15\/op=16)
  (RA RB:List It->Int->Prop) (hA:UK T0 b T rest aj xa RA) (hB:UK T0 b T rest aj xb RB) (S:Tr) (hS:jD T0 S)
  (hfin:∀i1 i2 ja jb,aj <+: i1->i1 <+: i2->RA i1 ja->RB i2 jb->-1<=ja/\ja<(i2.length:Int)/\-1<=jb/\jb<(i2.length:Int)/\∀i3 j,i2 <+: i3->Low i3->i3[j]? =some ⟨wo op,0,ja,jb⟩->Rep i3 j S):
  Calls prog 146 #[.pointer (some ⟨b,0,none⟩),.int .i64 i] w (jE T0 w G b T rest aj (sV S)):=by
 obtain⟨a,n,cap,g,o,c0,hidx,x0,x1,x2,x3⟩:=h.at hx;have hb:=qd w (aW ⟨op,p,xa,xb⟩);have hne:((i:Int) == -1)=false:=by rw[lu];omega
 have hbx:=(dO w (aW ⟨op,p,xa,xb⟩)).1;have pK:op<256/\wo op<256:=by rcases ho with rfl|rfl|rfl|rfl|rfl|rfl|rfl|rfl|rfl|rfl<;>decide
 have Ae:=fun w=>nA op w (by omega)
 have n2:=aP op 2 (by omega)
 have n6:=aP op 6 (by omega)
 have n17:=aP op 17 (by omega)
 have n18:=aP op 18 (by omega)
 have hwd:(w.alloc (aW ⟨op,p,xa,xb⟩)).drew.heap[w.heap.size]? =some (aW ⟨op,p,xa,xb⟩):=hbx;have Qj:kW T0 (w.alloc (aW ⟨op,p,xa,xb⟩)).drew G b T rest aj:=(h.up hb).up (Below.refl _ _).drew;have hn1:=hA _ _ _ (List.prefix_refl _) Qj;have HNB:=aX hB;have rW:Hid (Fr w (w.alloc (aW ⟨op,p,xa,xb⟩)).drew G G):=Fr.au hb.drew;have JI:Hid _:=hwd;have MQ:Hid (¬G w.heap.size):=h.new;have iy:Hid _:=hfin;have HS:Hid _:=hS;have yN:Hid _:=pK.2;have cells:∀w':World,w'.heap[w.heap.size]? =some (aW ⟨op,p,xa,xb⟩)->w'.cell? ⟨w.heap.size,0,none⟩=some (.int .u8 op)/\w'.cell? ⟨w.heap.size,2,none⟩=some (.int .i64 xa)/\w'.cell? ⟨w.heap.size,3,none⟩=some (.int .i64 xb):=fun w' e=>⟨qc e 0,qc e 2,qc e 3⟩
 have dL:Hid _:=cells;have hk0:=cells _ hwd;have dP:=cells _ hbx;clear h hb hx ho hA hB hS hfin pK cells hbx hwd Qj;unfold jE at *;unfold aW at *;dsimp only at *
 go_enter func146,ntmps146
 go_upto_region 40 with fail
 go_region_held3 (fun w'=>w'.cell? ⟨w.heap.size,0,none⟩=some (.int .u8 op)/\w'.cell? ⟨w.heap.size,2,none⟩=some (.int .i64 xa)/\w'.cell? ⟨w.heap.size,3,none⟩=some (.int .i64 xb)) (first|exact hk0|exact dP|assumption|fail) (first
  | (go_at_call 149;(with_reducible refine (Ae _).mono ?_);rintro e w' ⟨rfl,rfl⟩)
  | (revert hn1;intro hn1;go_at_call 146;(with_reducible refine hn1.mono ?_);rintro e w1 ⟨ja,rfl,i1,G1,hp1,hr1,hP1,dU⟩;have hbk1:=qj JI.out MQ.out dU;have hk1:=dL.out _ hbk1.1;have hn2:=HNB.out _ _ _ hp1 hP1)
  | (revert hn2;intro hn2;go_at_call 146;(with_reducible refine hn2.mono ?_);rintro e w2 ⟨jb,rfl,i2,G2,hp2,hr2,hP2,dA⟩;have hbk2:=qj hbk1.1 hbk1.2 dA;have hk2:=dL.out _ hbk2.1;have hz:=iy.out i1 i2 ja jb hp1 hp2 hr1 hr2;have hn3:=UJ hP2 ⟨wo op,0,ja,jb⟩ S HS.out (Ad yN.out hz.1 (by have:=hP2.few;omega) hz.2.2.1 (by have:=hP2.few;omega)) hz.2.1 hz.2.2.2.1 hz.2.2.2.2;unfold jE at hn3;rw[Yo]at hn3)
  | (revert hn3;intro hn3;go_at_call 73;(with_reducible refine hn3.mono ?_);rintro e w3 ⟨j3,rfl,hq3⟩;have hk3:w3.cell? ⟨w.heap.size,0,none⟩=some (.int .u8 op)/\w3.cell? ⟨w.heap.size,2,none⟩=some (.int .i64 xa)/\w3.cell? ⟨w.heap.size,3,none⟩=some (.int .i64 xb):=(by obtain⟨i4,G4,_,_,_,eF⟩:=hq3;exact dL.out _ (qj hbk2.1 hbk2.2 eF).1);have HQ:Hid (kL T0 w G b T rest aj (sV S) j3 w3):=(hq3.trans (hp1.trans hp2) ((rW.out.trans dU).trans dA)))
  |fail)
 all_goals
  clear hn1 hn2 hn3;go_wp2;go_ret
  exact⟨j3,rfl,HQ.out⟩
theorem qaR(h:kW T0 w G b T rest aj)(i op p m:Nat)(xb:Int)(hx:aj[i]? =some ⟨op,p,(m:Int),xb⟩)(ho:op=17\/op=18)(c d:Tr)(hm:Rep aj m c)
  (hB:UK T0 b T rest aj xb (sV d)) (hS:jD T0 (.bin (wo op,0) c d)):
  Calls prog 146 #[.pointer (some ⟨b,0,none⟩),.int .i64 i] w (jE T0 w G b T rest aj (sV (.bin (wo op,0) c d))):=by
 obtain⟨a,n,cap,g,o,c0,hidx,x0,x1,x2,x3⟩:=h.at hx;have hb:=qd w (aW ⟨op,p,(m:Int),xb⟩);have hne:((i:Int) == -1)=false:=by rw[lu];omega
 have hbx:=(dO w (aW ⟨op,p,(m:Int),xb⟩)).1;have pK:op<256/\wo op<256:=by rcases ho with rfl|rfl<;>decide
 have Ae:=fun w=>nA op w (by omega)
 have n2:=aP op 2 (by omega)
 have n6:=aP op 6 (by omega)
 obtain⟨f17,Yq⟩:∃f:Bool,((op:Int)==17)=f:=⟨_,rfl⟩
 have n18:f17=false->((op:Int)==18)=true:=fun hf=>by
  rw[hf,lu]at Yq;rw[beq_iff_eq];omega
 have hwd:(w.alloc (aW ⟨op,p,(m:Int),xb⟩)).drew.heap[w.heap.size]? =some (aW ⟨op,p,(m:Int),xb⟩):=hbx;have Qj:kW T0 (w.alloc (aW ⟨op,p,(m:Int),xb⟩)).drew G b T rest aj:=(h.up hb).up (Below.refl _ _).drew;have hn1:=hB _ _ _ (List.prefix_refl _) Qj;have rW:Hid (Fr w (w.alloc (aW ⟨op,p,(m:Int),xb⟩)).drew G G):=Fr.au hb.drew;have JI:Hid _:=hwd;have MQ:Hid (¬G w.heap.size):=h.new;have HM:Hid _:=hm;have HS:Hid _:=hS;have yN:Hid _:=pK.2;have cells:∀w':World,w'.heap[w.heap.size]? =some (aW ⟨op,p,(m:Int),xb⟩)->w'.cell? ⟨w.heap.size,0,none⟩=some (.int .u8 op)/\w'.cell? ⟨w.heap.size,2,none⟩=some (.int .i64 m)/\w'.cell? ⟨w.heap.size,3,none⟩=some (.int .i64 xb):=fun w' e=>⟨qc e 0,qc e 2,qc e 3⟩
 have dL:Hid _:=cells;have hk0:=cells _ hwd;have dP:=cells _ hbx;clear h hb hx ho hB hS pK cells hbx hwd Qj hm;unfold jE at *;unfold aW at *;dsimp only at *
 cases f17 with
 |true=>
  clear n18;go_enter func146,ntmps146
  go_upto_region 40 with fail
  go_region_held3 (fun w'=>w'.cell? ⟨w.heap.size,0,none⟩=some (.int .u8 op)/\w'.cell? ⟨w.heap.size,2,none⟩=some (.int .i64 m)/\w'.cell? ⟨w.heap.size,3,none⟩=some (.int .i64 xb)) (first|exact hk0|exact dP|assumption|fail) (first
   | (go_at_call 149;(with_reducible refine (Ae _).mono ?_);rintro e w' ⟨rfl,rfl⟩)
   | (revert hn1;intro hn1;go_at_call 146;(with_reducible refine hn1.mono ?_);rintro e w1 ⟨ja,rfl,i1,G1,hp1,hr1,hP1,dU⟩;obtain⟨l1,rfl,hrl⟩:=hr1;have hbk1:=qj JI.out MQ.out dU;have hk1:=dL.out _ hbk1.1;have hn2:=MP hP1 (wo op) yN.out m l1 c d (HM.out.pre hp1) hrl HS.out;unfold jE at hn2)
   | (revert hn2;intro hn2;go_at_call 145;(with_reducible refine hn2.mono ?_);rintro e w3 ⟨j3,rfl,hq3⟩;have hk3:w3.cell? ⟨w.heap.size,0,none⟩=some (.int .u8 op)/\w3.cell? ⟨w.heap.size,2,none⟩=some (.int .i64 m)/\w3.cell? ⟨w.heap.size,3,none⟩=some (.int .i64 xb):=(by obtain⟨i4,G4,_,_,_,eF⟩:=hq3;exact dL.out _ (qj hbk1.1 hbk1.2 eF).1);have HQ:Hid (kL T0 w G b T rest aj (sV (.bin (wo op,0) c d)) j3 w3):=(hq3.trans hp1 (rW.out.trans dU)))
   |fail)
  all_goals
   clear hn1 hn2;go_wp2;go_ret
   exact⟨j3,rfl,HQ.out⟩
 |false=>
  have n18':=n18 rfl;clear n18;go_enter func146,ntmps146
  go_upto_region 40 with fail
  go_region_held3 (fun w'=>w'.cell? ⟨w.heap.size,0,none⟩=some (.int .u8 op)/\w'.cell? ⟨w.heap.size,2,none⟩=some (.int .i64 m)/\w'.cell? ⟨w.heap.size,3,none⟩=some (.int .i64 xb)) (first|exact hk0|exact dP|assumption|fail) (first
   | (go_at_call 149;(with_reducible refine (Ae _).mono ?_);rintro e w' ⟨rfl,rfl⟩)
   | (revert hn1;intro hn1;go_at_call 146;(with_reducible refine hn1.mono ?_);rintro e w1 ⟨ja,rfl,i1,G1,hp1,hr1,hP1,dU⟩;obtain⟨l1,rfl,hrl⟩:=hr1;have hbk1:=qj JI.out MQ.out dU;have hk1:=dL.out _ hbk1.1;have hn2:=MP hP1 (wo op) yN.out m l1 c d (HM.out.pre hp1) hrl HS.out;unfold jE at hn2)
   | (revert hn2;intro hn2;go_at_call 145;(with_reducible refine hn2.mono ?_);rintro e w3 ⟨j3,rfl,hq3⟩;have hk3:w3.cell? ⟨w.heap.size,0,none⟩=some (.int .u8 op)/\w3.cell? ⟨w.heap.size,2,none⟩=some (.int .i64 m)/\w3.cell? ⟨w.heap.size,3,none⟩=some (.int .i64 xb):=(by obtain⟨i4,G4,_,_,_,eF⟩:=hq3;exact dL.out _ (qj hbk1.1 hbk1.2 eF).1);have HQ:Hid (kL T0 w G b T rest aj (sV (.bin (wo op,0) c d)) j3 w3):=(hq3.trans hp1 (rW.out.trans dU)))
   |fail)
  all_goals
   clear hn1 hn2;go_wp2;go_ret
   exact⟨j3,rfl,HQ.out⟩
theorem qhB(h:op=0\/op=1\/op=4\/op=5):(aZ (.leaf (op,0))).2=.leaf (wo op,0):=by rcases h with rfl|rfl|rfl|rfl<;>rfl
theorem qhC(h:op=7\/op=8)(c:Tr):(aZ (.un (op,0) c)).2=.un (wo op,0) (aZ c).2:=by rcases h with rfl|rfl<;>rfl
theorem qhD(h:op=11\/op=12\/op=15\/op=16)(c d:Tr):(aZ (.bin (op,0) c d)).2=.bin (wo op,0) (aZ c).2 (aZ d).2:=by rcases h with rfl|rfl|rfl|rfl<;>rfl
theorem qhE(h:op=17\/op=18){c:Tr}(hc:KP c)(d:Tr):(aZ (.bin (op,0) c d)).2=.bin (wo op,0) c (aZ d).2:=by
 have e:=(Ar c hc.wf hc.kr).1;rcases h with rfl|rfl
 ·show Tr.bin (18,0) (aZ c).1 (aZ d).2=_;rw[e];rfl
 ·show Tr.bin (17,0) (aZ c).1 (aZ d).2=_;rw[e];rfl
theorem Qk{T0:Tr}{b:Nat}{T:TypeId}{rest:List Value}:∀(S:Tr),KT S->S∈bY T0->∀(aj:List It)(i:Nat),Rep aj i S->UK T0 b T rest aj (i:Int) (sV (aZ S).2)
 | .leaf (op,p),hS,hin,aj,i,hi=>by
  intro w G i1 hp hP;have hi1:=hi.pre hp;have hneg:=MJ hin hS;rcases Aw hS with⟨rfl,_⟩|⟨rfl,ho⟩
  ·exact q9e hP i p hi1 hneg
  ·have hx:i1[i]? =some ⟨op,0,-1,-1⟩:=by cases hi1 with|leaf h=>exact h
   rw[qhB ho]at hneg ⊢;refine Yp hP i op 0 (-1) (-1) hx (by omega) Qi Qi (fun _ _ _ _ hP=>q37 hP) (fun _ _ _ _ hP=>q37 hP) _ hneg ?_
   rintro j1 j2 ja jb _ _ rfl rfl
   exact⟨by omega,by omega,by omega,by omega,fun j3 j _ _ hj=>.leaf hj⟩
 | .un (op,p) c,hS,hin,aj,i,hi=>by
  intro w G i1 hp hP;have hi1:=hi.pre hp;have hneg:=MJ hin hS;rcases ku hS with⟨rfl,⟨rfl,q,rfl⟩|⟨ho,hc⟩⟩
  ·exact qaQ hP i _ hi1
  ·obtain⟨m,hx,hm⟩:∃m:Nat,i1[i]? =some ⟨op,0,(m:Int),-1⟩/\Rep i1 m c:=by cases hi1 with|un h h1 h2=>exact⟨_,h,h2⟩
   rw[qhC ho]at hneg ⊢;refine Yp hP i op 0 (m:Int) (-1) hx (by omega) (sV (aZ c).2) Qi (Qk c hc (EC hin) i1 m hm) (fun _ _ _ _ hP=>q37 hP) _ hneg ?_
   rintro j1 j2 ja jb h1 h2 ⟨a,rfl,ha⟩ rfl
   have:=(ha.pre h2).lt
   exact⟨by omega,by omega,by omega,by omega,fun j3 j h3 hlow hj=>.un (k:=(wo op,0)) hj (V6 (k:=(wo op,0)) hlow hj) ((ha.pre h2).pre h3)⟩
 | .bin (op,p) c d,hS,hin,aj,i,hi=>by
  intro w G i1 hp hP;have hi1:=hi.pre hp;have hneg:=MJ hin hS;obtain⟨rfl,ho⟩:=xG hS;obtain⟨m,l,hx,hm,hl⟩:∃m l:Nat,i1[i]? =some ⟨op,0,(m:Int),(l:Int)⟩/\Rep i1 m c/\Rep i1 l d:=by cases hi1 with|bin h h1 h2 h3 h4=>exact⟨_,_,h,h3,h4⟩
  by_cases hw:op=17\/op=18
  ·obtain⟨kc,kd⟩:=uP hS hw
   rw[qhE hw kc]at hneg ⊢;exact qaR hP i op 0 m (l:Int) hx hw c (aZ d).2 hm (Qk d kd (yg hin).2 i1 l hl) hneg
  ·obtain⟨kc,kd⟩:=qB hS (by omega)
   have wV:op=11\/op=12\/op=15\/op=16:=by omega
   rw[qhD wV]at hneg ⊢;refine Yp hP i op 0 (m:Int) (l:Int) hx (by omega) (sV (aZ c).2) (sV (aZ d).2) (Qk c kc (yg hin).1 i1 m hm) (Qk d kd (yg hin).2 i1 l hl) _ hneg ?_
   rintro j1 j2 ja jb h1 h2 ⟨a,rfl,ha⟩ ⟨e,rfl,he⟩
   have:=(ha.pre h2).lt
   have:=he.lt
   refine⟨by omega,by omega,by omega,by omega,fun j3 j h3 hlow hj=>?_⟩
   obtain⟨u,v⟩:=V7 (k:=(wo op,0)) hlow hj;exact .bin (k:=(wo op,0)) hj u v ((ha.pre h2).pre h3) (he.pre h3)
def UL(k:Tk):Nat:=k.1*8+k.2
def oP(ts:List Tk):List Value:=ts.map fun k=>.int .u8 (UL k:Int)
theorem qgg(a b:List Tk):oP (a++b)=oP a++oP b:=by simp[oP]
structure jG(w w':World)(v v':Value):Prop where
 gr:w.grownBy w' v.ownBlock
 loc:v'.ownBlock=v.ownBlock\/∃k,v'.ownBlock=some k/\w.heap.size<=k
theorem jG.refl(w:World)(v:Value):jG w w v v:=⟨World.grownBy.refl _ _,Or.inl rfl⟩
theorem jG.au(v:Value)(h:Below w.heap.size w w'):jG w w' v v:=⟨⟨h.os,h.tape,h.output,h.size,fun k hk _=>h.block k hk⟩,Or.inl rfl⟩
theorem jG.trans{v1 v2:Value}(h:jG w w1 v v1)(k:jG w1 w2 v1 v2):jG w w2 v v2:=by
 refine⟨⟨k.gr.os.trans h.gr.os,k.gr.tape.trans h.gr.tape,k.gr.output.trans h.gr.output,Nat.le_trans h.gr.size k.gr.size,fun j hj hn=>?_⟩,?_⟩
 ·refine (k.gr.block j (Nat.lt_of_lt_of_le hj h.gr.size) ?_).trans (h.gr.block j hj hn)
  rcases h.loc with e|⟨q,e,hq⟩
  ·rw[e];exact hn
  ·rw[e];intro e2;injection e2 with e2;omega
 ·rcases k.loc with e|⟨q,e,hq⟩
  ·rw[e]
   exact h.loc
  ·exact Or.inr ⟨q,e,Nat.le_trans h.gr.size hq⟩
def MR(T0:Tr)(base:Nat)(G:Nat->Prop)(b:Nat)(T:TypeId)(rest:List Value)(aj:List It)(a:Int)(ts:List Tk):Prop :=
 ∀(w:World)(v:Value)(xs:List Tk),base<=w.heap.size->kW T0 w G b T rest aj->w.ownsRow base 5 1 v xs.length (oP xs)->xs.length+ts.length<=60000000 ->
  Calls prog 105 #[.pointer (some ⟨b,0,none⟩),v,.int .i64 a] w fun e w'=>∃v',e=.returned v'/\jG w w' v v'/\w'.ownsRow base 5 1 v' (xs++ts).length (oP (xs++ts))
theorem Yr:MR T0 base G b T rest aj (-1) []:=by
 intro w v xs hb hP hO _;have HQ:Hid (w.ownsRow base 5 1 v (xs++[]).length (oP (xs++[]))):=by rw[List.append_nil];exact hO
 obtain⟨a,cap,rfl⟩:=qK hO;clear hP hO;generalize xs.length=n at *;go_enter func105,ntmps105
 go_wp2;go_ret
 exact⟨_,rfl,jG.refl _ _,HQ.out⟩
theorem qbw:(prog.info? 5).map (fun i=>(i.zero,i.size,i.bytes))=some (some (.int .u8 0),1,1):=by kernel_rfl
theorem qh0{p:Nat}(ho:op<=23)(hp:p<=7):bits .or .u8 ((op:Int)*8) (p:Int)=((op*8+p:Nat):Int):=by
 rcases ND ho with rfl|rfl|rfl|rfl|rfl|rfl|rfl|rfl|rfl|rfl|rfl|rfl|rfl|rfl|rfl|rfl|rfl|rfl|rfl|rfl|rfl|rfl|rfl|rfl <;>
 ·have:p=0\/p=1\/p=2\/p=3\/p=4\/p=5\/p=6\/p=7:=by omega
  rcases this with rfl|rfl|rfl|rfl|rfl|rfl|rfl|rfl<;>decide
theorem Yt{T0:Tr}{b:Nat}{T:TypeId}{rest:List Value}(hG:∀k,G k->k<base)(i op p:Nat)(xa xb:Int)(hx:aj[i]? =some ⟨op,p,xa,xb⟩)(ho:op<=23)(hp:p<=7)(ta tb:List Tk)
  (hA:MR T0 base G b T rest aj xa ta) (hB:MR T0 base G b T rest aj xb tb):MR T0 base G b T rest aj (i:Int) (ta++tb++[(op,p)]):=by
 intro w v xs hb hP hO hn;have hl:(ta++tb++[(op,p)]).length=ta.length+tb.length+1:=by simp[Nat.add_assoc]
 rw[hl]at hn;obtain⟨a,n,cap,g,o,c0,hidx,x0,x1,x2,x3⟩:=hP.at hx;have hbn:=qd w (aW ⟨op,p,xa,xb⟩);have hne:((i:Int) == -1)=false:=by rw[lu];omega
 have hbx:=(MapKept.heap_alloc w (aW ⟨op,p,xa,xb⟩)).1;have hz:(w.alloc (aW ⟨op,p,xa,xb⟩)).heap.size=w.heap.size+1:=by simp
 have j1:=hA (w.alloc (aW ⟨op,p,xa,xb⟩)) v xs (by omega) (hP.up hbn) (qC hO hbn) (by omega)
 have hge:=vO hO;have hlt:=vP hO;have HP:Hid (∀w' v',jG w w' v v'->kW T0 w' G b T rest aj):=fun w' v' hg=>hP.far fun k hk=>hg.gr.block k (by have:=hG k hk;omega) (fun e=>by have:=hG k hk;have:=hge k e.symm;omega)
 have Ql:Hid (∀w' v',jG (w.alloc (aW ⟨op,p,xa,xb⟩)) w' v v'->w'.heap[w.heap.size]? =some (aW ⟨op,p,xa,xb⟩)):=fun w' v' hg=>(hg.gr.block _ (by omega) (fun e=>by have:=hlt _ e.symm;omega)).trans hbx
 have HB:=aX hB;have vS:Hid (jG w (w.alloc (aW ⟨op,p,xa,xb⟩)) v v):=jG.au v hbn;have UM:Hid (bits .or .u8 ((op:Int)*8) (p:Int)=((op*8+p:Nat):Int)):=qh0 ho hp;have HN:=aX hn;have UN:=aX hb;have HZ:Hid _:=hz;have a2:(w.alloc (aW ⟨op,p,xa,xb⟩)).cell? ⟨w.heap.size,2,none⟩=some (.int .i64 xa):=qc hbx 2;obtain⟨sa,scap,rfl⟩:=qK hO;clear hP hO hA hB hx hbn hbx hG hge hlt hn hl;generalize hvv:Value.slice sa xs.length scap=v at *;unfold aW at *;dsimp only at *
 go_enter func105,ntmps105
 go_wp2_with fail
 refine j1.mono ?_
 rintro e w1 ⟨v1,rfl,hg1,ho1⟩
 have lM:=Ql.out w1 v1 hg1;have a3:w1.cell? ⟨w.heap.size,3,none⟩=some (.int .i64 xb):=qc lM 3;have hsz1:=hg1.gr.size;have j2:=HB.out w1 v1 (xs++ta) (by have:=HZ.out;have:=UN.out;omega) (HP.out w1 v1 (vS.out.trans hg1)) ho1 (by have:=HN.out;simp;omega)
 have uq:Hid _:=hg1;clear j1 hg1 ho1 lM a2 c0 hidx x0 x1 x2 x3 hsz1
 go_wp2_with fail
 refine j2.mono ?_
 rintro e w2 ⟨v2,rfl,hg2,ho2⟩
 have FU:Hid _:=uq.out.trans hg2;have HG2:Hid (jG w w2 v v2):=vS.out.trans FU.out;have hbx2:=Ql.out w2 v2 FU.out;have b0:w2.cell? ⟨w.heap.size,0,none⟩=some (.int .u8 op):=qc hbx2 0;have b1:w2.cell? ⟨w.heap.size,1,none⟩=some (.int .u8 p):=qc hbx2 1;obtain⟨sb,Yu,rfl⟩:=qK ho2;have l9:Hid _:=ho2;have hL:(xs++ta++tb).length<=60000000:=by have:=HN.out;simp;omega
 have HS2:Hid (w.heap.size<=w2.heap.size):=HG2.out.gr.size;clear j2 hg2 ho2 hbx2 a3;generalize nB:(xs++ta++tb).length=L at *;have HL:Hid _:=nB;clear nB;have hY:∀y:Int,(w2.alloc (.cells #[.int .u8 y] 5)).cell? ⟨w2.heap.size,0,none⟩=some (.int .u8 y):=fun y=>qc (dO w2 _).1 0
 have nE:∀y:Int,(w2.alloc (.cells #[.int .u8 y] 5)).ownsRow base 5 1 (.slice sb L Yu) L (oP (xs++ta++tb)):=fun y=>World.ownsRow.alloc l9.out _
 go_wp2_with (at_builtin;refine Yl underlying149 qbw rfl (by decide) rfl _ _ rfl base _ L (oP (xs++ta++tb)) _ w2.heap.size rfl rfl (nE _) (hY _) rfl (by omega) (by have:=UN.out;have:=HS2.out;simp;omega) ?_)
 intro v3 w3 hown3 AQ Ih;have e3:=UM.out;rw[e3]at hown3 AQ
 have rU:Hid (w3.ownsRow base 5 1 v3 (xs++(ta++tb++[(op,p)])).length (oP (xs++(ta++tb++[(op,p)])))):=by
  have e:xs++(ta++tb++[(op,p)])=xs++(ta++tb)++[(op,p)]:=by simp
  have e2:(xs++(ta++tb)).length=L:=by have:=HL.out;simpa using this
  show w3.ownsRow _ _ _ _ _ _
  rw[e,qgg,List.length_append,e2];exact hown3
 have hbn:=qd w2 (.cells #[.int .u8 (op*8+p:Nat)] 5);have nG:Hid (jG w w3 v v3):=HG2.out.trans ((jG.au _ hbn).trans ⟨AQ,Ih.imp id fun e=>⟨_,e,by simp⟩⟩)
 obtain⟨s3,cap3,rfl⟩:=qK rU.out;clear hown3 AQ Ih hbn hY nE l9 e3;go_wp2;go_ret
 exact⟨_,rfl,nG.out,rU.out⟩
theorem UO{T0:Tr}{base:Nat}{G:Nat->Prop}{b:Nat}{T:TypeId}{rest:List Value}{aj:List It}(hG:∀k,G k->k<base):∀(S:Tr),S.WF->∀i,Rep aj i S->MR T0 base G b T rest aj (i:Int) S.flat
 | .leaf (op,p),hw,i,hi=>by
  have hx:aj[i]? =some ⟨op,p,-1,-1⟩:=by cases hi with|leaf h=>exact h
  have hs:=q24 _ hw (op,p) (by simp[Tr.flat])
  exact Yt hG i op p (-1) (-1) hx hs.1 hs.2 [] [] Yr Yr
 | .un (op,p) c,hw,i,hi=>by
  obtain⟨m,hx,hm⟩:∃m:Nat,aj[i]? =some ⟨op,p,(m:Int),-1⟩/\Rep aj m c:=by cases hi with|un h h1 h2=>exact⟨_,h,h2⟩
  have hs:=q24 _ hw (op,p) (by simp[Tr.flat])
  have h:MR T0 base G b T rest aj (i:Int) (c.flat++[]++[(op,p)]):=Yt hG i op p (m:Int) (-1) hx hs.1 hs.2 c.flat [] (UO hG c (qw hw).2.1 m hm) Yr;rw[List.append_nil]at h;exact h
 | .bin (op,p) c d,hw,i,hi=>by
  obtain⟨m,l,hx,hm,hl⟩:∃m l:Nat,aj[i]? =some ⟨op,p,(m:Int),(l:Int)⟩/\Rep aj m c/\Rep aj l d:=by cases hi with|bin h h1 h2 h3 h4=>exact⟨_,_,h,h3,h4⟩
  have hs:=q24 _ hw (op,p) (by simp[Tr.flat])
  exact Yt hG i op p (m:Int) (l:Int) hx hs.1 hs.2 c.flat d.flat (UO hG c (qt hw).2.1 m hm) (UO hG d (qt hw).2.2.1 l hl)
theorem qeA{ts:List Tk}(h:w.ownsRow base 5 1 v n (oP ts))(hs:∀k∈ts,k.1<=23/\k.2<=7):(convert 149 9 v).run prog w=.ok (.string ⟨(ts.map fun k=>UInt8.ofNat (k.1*8+k.2)).toArray⟩) w:=by
 have hl:ts.length=n:=by have:=h.1;simpa [oP] using this
 rcases h.2 with⟨rfl,h0⟩|⟨g,cap,cur,hv,hg,hcell,hnc,hcm,hsz,htk⟩
 ·obtain rfl:ts=[]:=List.eq_nil_of_length_eq_zero (by omega)
  rw[run_convert_bytes_string w 149 9 5 none 0 0 underlying149 underlying5 underlying9];simp[Conv.bytesToString]
  rfl
 ·subst hv hl
  have e:ts.length=(ts.map fun k=>UInt8.ofNat (k.1*8+k.2)).length:=by simp
  have key:=run_convert_bytes_back (P:=prog) w 149 9 5 ⟨g,0,none⟩ cap (ts.map fun k=>UInt8.ofNat (k.1*8+k.2)) underlying149 underlying5 underlying9 (fun j hj=>by
   have hj':j<ts.length:=by simpa using hj
   have hk:(cur.toList.take (ts.length*1))[j]? =some (.int .u8 (UL ts[j]:Int)):=by rw[htk];simp[oP,hj']
   rw[List.getElem?_take,if_pos (by omega)]at hk
   have hb:=hs _ (List.getElem_mem hj');rw[qi,Nat.zero_add];simp[World.cell?,hcell]
   have e2:(UInt8.ofNat (ts[j].1*8+ts[j].2)).toNat=UL ts[j]:=by
    unfold UL;simp
    omega
   rw[show cur[j]? =cur.toList[j]? by simp,hk,<-e2]
   simp)
  rw[<-e]at key;exact key
theorem nF(h:w.ownsRow base e 1 v n xs)(hi:i<n)(y:Value):∃g cap,v=.slice (some ⟨g,0,none⟩) n cap/\base<=g/\n<=cap/\w.cell? ⟨g,i,none⟩=xs[i]? /\ w.frozen? ⟨g,i,none⟩=false/\(w.setCell ⟨g,i,none⟩ y).ownsRow base e 1 v n (xs.set i y):=by
 obtain⟨hl,h⟩:=h;rcases h with⟨rfl,h0⟩|⟨g,cap,cur,rfl,hg,hcell,hnc,hcm,hsz,htk⟩
 ·omega
 ·have ny:cur.toList.length=cap:=by simpa using hsz
  refine⟨g,cap,rfl,hg,hnc,?_,frozen_of_row w g i _ _ hcell,by simpa using hl,Or.inr ⟨g,cap,cur.setIfInBounds i y,rfl,hg,heap_setCell_same w g i _ _ y hcell,hnc,hcm,by simpa using hsz,?_⟩⟩
  ·rw[qc hcell i,<-htk,List.getElem?_take,if_pos (by omega)]
   simp
  ·rw[<-htk]
   simp[List.take_set]
theorem qir(S:Tr):mJ S≠⟨#[]⟩:=by
 intro h;have h1:(S.flat.map fun k=>UInt8.ofNat (k.1*8+k.2)).toArray=#[]:=congrArg ByteArray.data h
 have h2:=congrArg Array.size h1;simp at h2
 have h3:=LC S;have:=VB S
 rw[h2]at h3;simp at h3
 omega
theorem Yv(S:Tr):(mJ S).size=S.size:=by
 show (S.flat.map fun k=>UInt8.ofNat (k.1*8+k.2)).toArray.size=_
 simp[LC]
theorem jM.Qm{f:It->Option Nat}(h:jM w b T rest vi mp vt aj aS n f)(hi:i<aS.length)(s:ByteArray):
  ∃g cap,vt=.slice (some ⟨g,0,none⟩) aS.length cap/\aS.length<=cap/\w.cell? ⟨g,i,none⟩=some (.string aS[i])/\w.frozen? ⟨g,i,none⟩=false/\jM (w.setCell ⟨g,i,none⟩ (.string s)) b T rest vi mp vt aj (aS.set i s) n f/\Fr w (w.setCell ⟨g,i,none⟩ (.string s)) (FP b mp vi vt) (FP b mp vi vt):=by
 obtain⟨g,cap,rfl,_,hnc,hc,hz,ho⟩:=nF h.rt hi (.string s);have hgb:b≠g:=fun e=>h.tb (by rw[e];rfl)
 have hgm:mp≠g:=fun e=>h.tm (by rw[e];rfl)
 have st:∀k,k≠g->(w.setCell ⟨g,i,none⟩ (.string s)).heap[k]? =w.heap[k]? := fun k hk=>Below.heap_setCell _ _ _ _ hk
 refine⟨g,cap,rfl,hnc,by rw[hc];simp[hi],hz,⟨h.ty,(st b hgb).trans h.blk,qz h.ri fun k hk=>st k (fun e=>h.it k hk (by rw[e];rfl)),?_,h.num.far (st mp hgm)⟩,rfl,rfl,rfl,by simp,fun k hk hF=>st k (fun e=>hF (Or.inr (Or.inr (Or.inr (by rw[e];rfl))))),fun _ hk=>Or.inl hk⟩
 rw[List.length_set,List.map_set];exact ho
def sW(T0:Tr)(w:World)(G:Nat->Prop)(b:Nat)(T:TypeId)(rest:List Value)(aj:List It)(w':World):Prop:=kW T0 w' G b T rest aj/\Fr w w' G G
theorem nL(h:kW T0 w G b T rest aj)(i:Nat)(S:Tr)(hi:Rep aj i S)(hS:jD T0 S):
  Calls prog 81 #[.pointer (some ⟨b,0,none⟩),.int .i64 i] w fun e w'=>e=.returned (.string (mJ S))/\sW T0 w G b T rest aj w':=by
 obtain⟨aS,hp,ht⟩:=h.ex;obtain⟨vi,mp,vt,hr,hG⟩:=hp.ex;have hil:i<aS.length:=by rw[hp.tl];exact hi.lt
 obtain⟨g,cap,rfl,hcap,hc,hz,hr2,dA⟩:=hr.Qm hil (mJ S);have c2:=hr.c2
 have hidx:∀w',(Instr.indexAt 84 (.slice (some ⟨g,0,none⟩) aS.length cap) (.int .i64 i)).run prog w'=.ok (.pointer (some ⟨g,i,none⟩)) w':=fun w'=>by
  simp[Instr.indexAt,run_underlying underlying84,asIntOf,qU (show (prog.info? 9).map (·.size)=some 1 by kernel_rfl),hil,Result.andThen,go_sem,qi]
 have hk:=MN h.t0.kt hS;have hw:S.WF:=by rcases hk with k|k<;>exact k.wf
 have hti:aS[i]? =some aS[i]:=kU hil
 rcases ht i S hi with h0|h1
 ·rw[hti]at h0
  injection h0 with h0;rw[h0]at hc;have Qn:∀k,G k->k<w.heap.size:=h.lt;have hsz:=(Qd h.t0.sz hS).1;have hfl:=LC S;have hwr:=UO (T0:=T0) (T:=T) (b:=b) (rest:=rest) Qn S hw i hi w.drew (.slice none 0 0) [] (Nat.le_refl _) (h.up (Below.refl _ _).drew) ⟨rfl,Or.inl ⟨rfl,rfl⟩⟩ (by simp;omega)
  have HW1:Hid (∀w1 v1,jG w.drew w1 (.slice none 0 0) v1->w1.ownsRow w.heap.size 5 1 v1 ([]++S.flat).length (oP ([]++S.flat))->(convert 149 9 v1).run prog w1=.ok (.string (mJ S)) w1/\w1.cell? ⟨b,2,none⟩=some (.slice (some ⟨g,0,none⟩) aS.length cap)/\w1.cell? ⟨g,i,none⟩=some (.string ⟨#[]⟩)/\w1.frozen? ⟨g,i,none⟩=false /\
    (w1.setCell ⟨g,i,none⟩ (.string (mJ S))).cell? ⟨b,2,none⟩=some (.slice (some ⟨g,0,none⟩) aS.length cap)/\(w1.setCell ⟨g,i,none⟩ (.string (mJ S))).cell? ⟨g,i,none⟩=some (.string (mJ S))/\sW T0 w G b T rest aj (w1.setCell ⟨g,i,none⟩ (.string (mJ S)))):=by
   intro w1 v1 hg1 ho1;have hb1:Below w.heap.size w w1:=⟨hg1.gr.os,hg1.gr.tape,hg1.gr.output,hg1.gr.size,fun k hk=>hg1.gr.block k hk (fun e=>by cases e)⟩
   have hr1:=hr.up hb1;obtain⟨g',cap',e,_,hc',hz',hr2',Yw⟩:=hr1.Qm hil (mJ S);injection e with e1 e2 e3;injection e1 with e1;injection e1 with e1;subst e1 e3;obtain⟨cs,hcs⟩:∃cs,(w1.setCell ⟨g,i,none⟩ (.string (mJ S))).heap[g]? =some (.cells cs 9 (0,0)):=nj hr2'.rt rfl
   have hown:=nF hr2'.rt (i:=i) (by rw[List.length_set];exact hil) (.string (mJ S))
   obtain⟨g2,cap2,e2,_,_,hc2,_⟩:=hown;injection e2 with e2 _ _;injection e2 with e2;injection e2 with e2;subst e2;refine⟨qeA ho1 (q24 S hw),hr1.c2,by rw[hc',h0],hz',hr2'.c2,by rw[hc2];simp[hil],⟨h.t0,h.low,h.BJ,aS.set i (mJ S),⟨hp.nd,by rw[List.length_set];exact hp.tl,hp.few,hp.ok,fun s hs=>?_,vi,mp,_,hr2',hG⟩,fun n S' hn=>?_⟩,?_⟩
   ·rcases List.mem_or_eq_of_mem_set hs with hs|rfl
    ·exact hp.tok s hs
    ·unfold xK;rw[Yv];omega
   ·by_cases e:n=i
    ·subst e
     have:=Rep.tree hi hn
     subst this;exact Or.inr (by simp[hil])
    ·rw[List.getElem?_set_ne (fun h=>e h.symm)]
     exact ht n S' hn
   ·exact((Fr.au hb1).trans Yw).alike (fun k hk=>(hG k).2 hk) (fun k hk=>(hG k).1 hk)
  have hz0:((⟨#[]⟩:ByteArray).toList==([]:List UInt8))=true:=by rw[ByteArray.toList_eq];rfl
  clear h hp ht hr hr2 dA hG hi hS hk hw hti h0 Qn hsz hfl;generalize mJ S=s at *;generalize S.flat=fl at *;generalize aS.length=L at *;go_enter func81,ntmps81
  go_upto_region 40 with fail
  go_region_with (first
   | (go_at_call 105;(with_reducible refine hwr.mono ?_);rintro e w1 ⟨v1,rfl,hg1,ho1⟩;have hq:=HW1.out w1 v1 hg1 ho1;have q1:=hq.1;have q0:=hq.2.1;have q2:=hq.2.2.1;have q3:=hq.2.2.2.1)
   |fail)
  all_goals
   have q4:=hq.2.2.2.2.1;have q5:=hq.2.2.2.2.2.1;have HQ:Hid _:=hq.2.2.2.2.2.2;clear hwr hq q0 q1 q2 q3 hg1 ho1 HW1 c2 hc hz;generalize w1.setCell ⟨g,i,none⟩ (.string s)=w2 at *;go_wp2;go_ret
   exact⟨rfl,HQ.out⟩
 ·rw[hti]at h1
  injection h1 with h1;rw[h1]at hc
  have hne:((mJ S).toList==([]:List UInt8))=false:=by
   rw[lu];intro e;refine qir S ?_
   have:(mJ S).toList=(mJ S).data.toList:=by rw[ByteArray.toList_eq]
   rw[this]at e;have e2:(mJ S).data=#[]:=by simpa using e
   exact congrArg ByteArray.mk e2
  have HQ:Hid (sW T0 w G b T rest aj w):=⟨h,Fr.au (Below.refl _ _)⟩;clear h hp ht hr hr2 dA hG hi hS hk hw hti h1;generalize mJ S=s at *;go_enter func81,ntmps81
  go_wp2;go_ret
  exact⟨rfl,HQ.out⟩
end Go.Proofs.YtoioiellaomonaaGreatDoor
