/- Texts of the proof, put together: what it uses. -/
import Derived.Deep.RegionLaw
import Derived.Deep.DeepCutAuto
import Derived.Deep.RegionHeld3
import Derived.Laws.BytesString
import Derived.Laws.IdiomStrings
import Derived.WalkSmall
import Derived.Test.YtailhklbmenaoaaGreatDoorX01
import Derived.Test.YtailhklbmenaoaaGreatDoorX02
import Derived.Test.YtailhklbmenaoaaGreatDoorX04
import Derived.Test.YtailhklbmenaoaaGreatDoorX05
import Derived.Test.YtailhklbmenaoaaGreatDoorX07
set_option maxRecDepth 100000
set_option maxHeartbeats 16000000
namespace Go.Proofs.YtailhklbmenaoaaGreatDoor
open Go.RowKit Go.Maps
def itO (x:It):Obj:=.cells #[.int .u8 (x.op:Int),.int .u8 (x.p:Int),.int .i64 x.a,.int .i64 x.b] 162 (0,0)
theorem qer{w:World}{o:Oper}{a:Act}{K:Act->World->Prop}{Q:Exit->Act->World->Prop}(s x:Operand)
  (ho:o.op=.call { callee:=.builtin .append,args:=#[s,x],argTypes:=#[122,122] })
  (v:Value) (n:Nat) (items:List It) (y:It) (g:Nat) (hs:a.eval s=v) (hx:a.eval x=.slice (some ⟨g,0,none⟩) 1 1) (hown:w.ownsRow 0 162 4 v n (encI items))
  (hB:w.heap[g]? =some (itO y)) (hn:n<=100000000)
  (h:∀v' w',w'.ownsRow 0 162 4 v' (n+1) (encI (items++[y]))->w.grownBy w' v.ownBlock->(v'.ownBlock=v.ownBlock\/v'.ownBlock=some w.heap.size)->K (a.put o.dst v') w'):o.wp Tryz.prog a w K Q:=by
 obtain⟨i,hi,hz0,hz1,hz2⟩:=info_parts qaW
 obtain⟨v',w',hr,h2,h3,_,h5⟩:=run_append_own_at (P:=Tryz.prog) w 0 122 o.type 162 i _ 4 24 Tryz.underlying122 hi hz0 hz1 hz2 rfl (by decide) v n _ hown ⟨g,0,none⟩ 1 1 (encI [y]) rfl (fun j u hj=>by
  rw[qg,Nat.zero_add,qb hB];simpa [encI] using hj) (qcv y) (by unfold maxLen;omega) (by omega) (Nat.zero_le _)
 unfold Oper.wp execOp;simp only[ho,resolve,invoke,builtin,Sem.run_bind,Sem.run_pure,Result.andThen_ok,List.map_toArray,List.map_cons,List.map_nil,hs,hx,hr]
 exact h v' w' (by rw[q6K];exact h2) h3 h5
theorem q5z{w:World}{ops:Array Oper}{o:Oper}{a:Act}{K:Act->World->Prop}{Q:Exit->Act->World->Prop}{E:Prop}(hw:Region.wanted o (yielded ops a.tmps)=true)(s x:Operand)
  (ho:o.op=.call { callee:=.builtin .append,args:=#[s,x],argTypes:=#[122,122] })
  (v:Value) (n:Nat) (items:List It) (y:It) (g:Nat) (hs:a.eval s=v) (hx:a.eval x=.slice (some ⟨g,0,none⟩) 1 1) (hown:w.ownsRow 0 162 4 v n (encI items))
  (hB:w.heap[g]? =some (itO y)) (hn:n<=100000000)
  (h:∀v' w',w'.ownsRow 0 162 4 v' (n+1) (encI (items++[y]))->w.grownBy w' v.ownBlock->(v'.ownBlock=v.ownBlock\/v'.ownBlock=some w.heap.size)->K (a.put o.dst v') w'):
  if Region.wanted o (yielded ops a.tmps)=true then Oper.wp Tryz.prog o a w K Q else E:=by
 rw[if_pos hw];exact qer s x ho v n items y g hs hx hown hB hn h
theorem qM{w:World}{base e size n:Nat}{v:Value}{xs:List Value}(h:w.ownsRow base e size v n xs):∃a cap,v=.slice a n cap:=by
 rcases h.2 with⟨rfl,rfl⟩|⟨g,cap,cur,rfl,_⟩
 ·exact⟨none,0,rfl⟩
 ·exact⟨_,cap,rfl⟩
theorem q4L{w:World}{base n g:Nat}{v:Value}{xs:List Value}{o:Obj}(h:w.ownsRow base 162 4 v n xs)(hg:w.heap[g]? =some o)(ho:∀cs,o≠.cells cs 162 (0,0)):v.ownBlock≠some g:=by
 rcases h.2 with⟨rfl,_⟩|⟨g',cap,cur,rfl,_,hc,_⟩
 ·intro e;cases e
 ·intro e
  injection e with e;dsimp only at e
  subst e;rw[hg]at hc;injection hc with hc;exact ho _ hc
theorem qaw{items:List It}{x:It}(hx:x ∉ items)(y:It):(if y=x then some items.length else posI items y)=posI (items++[x]) y:=by
 unfold posI;rw[List.findIdx?_append];by_cases e:y=x
 ·subst e
  rw[if_pos rfl,show items.findIdx? (· = y)=none from q1R.2 hx];simp
 ·rw[if_neg e]
  have:¬x=y:=fun h=>e h.symm
  simp[this]
structure Mid (w w6:World) (t:Nat) (a6:Option Addr) (n c6 mb:Nat) (items:List It) (x:It) (a:Option Addr) (cap:Nat):Prop where
 blk:w6.heap[t]? =some (.cells #[tbV t,.slice a6 (n+1) c6,.map (some mb)] 205 (0,0))
 row:w6.ownsRow 0 162 4 (.slice a6 (n+1) c6) (n+1) (encI (items++[x]))
 num:NumOf w6 mb n (posI items)
 box:w6.heap[w.heap.size]? =some (itO x)
 os:w6.os=w.os
 tape:w6.tape=w.tape
 output:w6.output=w.output
 size:w.heap.size<w6.heap.size
 keep:∀k,k<w.heap.size->k≠t->(Value.slice a n cap).ownBlock≠some k->w6.heap[k]? =w.heap[k]?
 loc:∀k,(Value.slice a6 (n+1) c6).ownBlock=some k->(Value.slice a n cap).ownBlock=some k\/w.heap.size<=k
theorem qiW{w w5:World}{t n cap mb:Nat}{a:Option Addr}{items:List It}(h:TabR w t a n cap mb items)(x:It)
  (hg:((w.alloc (itO x)).alloc (itO x)).drew.grownBy w5 (Value.slice a n cap).ownBlock) (a5:Option Addr) (c5:Nat) (ho:w5.ownsRow 0 162 4 (.slice a5 (n+1) c5) (n+1) (encI (items++[x])))
  (hl:(Value.slice a5 (n+1) c5).ownBlock=(Value.slice a n cap).ownBlock\/(Value.slice a5 (n+1) c5).ownBlock=some ((w.alloc (itO x)).alloc (itO x)).drew.heap.size):
  w5.heap[t]? =some (.cells #[tbV t,.slice a n cap,.map (some mb)] 205 (0,0))/\Mid w (w5.setCell ⟨t,1,none⟩ (.slice a5 (n+1) c5)) t a5 n c5 mb items x a cap:=by
 have hb1:=qc w (itO x);have hb2:=qd hb1 (qc (w.alloc (itO x)) (itO x));have htl:=(aes h.blk).1
 have hne:(Value.slice a n cap).ownBlock≠some t:=q4L h.row h.blk (fun cs e=>by injection e with _ e _;exact absurd e (by decide))
 obtain⟨es,cl,hmap⟩:=h.num.isMap;have hnm:(Value.slice a n cap).ownBlock≠some mb:=q4L h.row hmap (fun cs e=>by cases e)
 have hmt:mb≠t:=fun e=>by rw[e,h.blk]at hmap;cases hmap
 have hz2:((w.alloc (itO x)).alloc (itO x)).drew.heap.size=w.heap.size+2:=by simp
 have hlb:∀k,(Value.slice a n cap).ownBlock=some k->k<w.heap.size:=qS h.row;have st:∀k,k<w.heap.size->(Value.slice a n cap).ownBlock≠some k->w5.heap[k]? =w.heap[k]? := fun k hk hn=>(hg.block k (by omega) (fun e=>hn e.symm)).trans (hb2.block k hk)
 have h5:w5.heap[t]? =some (.cells #[tbV t,.slice a n cap,.map (some mb)] 205 (0,0)):=(st t htl hne).trans h.blk;have hs5:=hg.size;refine⟨h5,⟨?_,?_,?_,?_,hg.os,hg.tape,hg.output,?_,fun k hk hkt hkn=>?_,fun k hk=>?_⟩⟩
 ·rw[heap_setCell_same w5 t 1 _ _ _ h5];rfl
 ·refine qs ho fun k hk=>Below.heap_setCell _ _ _ _ ?_
  dsimp only
  rintro rfl
  rcases hl with e|e
  ·rw[e]at hk;exact hne hk
  ·rw[e]at hk;injection hk with hk;omega
 ·exact h.num.far ((Below.heap_setCell _ _ _ _ (by dsimp only;exact hmt)).trans (st mb h.num.lt hnm))
 ·refine (Below.heap_setCell _ _ _ _ (by dsimp only;omega)).trans ((hg.block _ (by omega) (fun e=>?_)).trans ?_)
  ·have:=hlb _ e.symm;omega
  ·exact((qc (w.alloc (itO x)) (itO x)).block _ (by simp)).trans (MapKept.heap_alloc w (itO x)).1
 ·simp;omega
 ·exact(Below.heap_setCell _ _ _ _ (by dsimp only;exact hkt)).trans (st k hk hkn)
 ·rcases hl with e|e
  ·rw[e]at hk;exact Or.inl hk
  ·rw[e]at hk;injection hk with hk;right;omega
theorem qhw{w w6 w7:World}{F:Nat->Prop}{t cap mb:Nat}{a:Option Addr}{items:List It}(h:TabI w F t items)(hF:∀k,F k↔(k=t\/k=mb\/(Value.slice a items.length cap).ownBlock=some k)){x:It}(hx:ItOk x)(hn:x ∉ items)(hl:items.length<4096)
  {a6:Option Addr} {c6:Nat} (m:Mid w w6 t a6 items.length c6 mb items x a cap) (hn7:NumOf w7 mb (items.length+1) (fun y=>if y=x then some items.length else posI items y)) (hg:w6.drew.grownBy w7 (some mb)) (hmw:mb<w.heap.size):
  ∃F',TabI w7 F' t (items++[x])/\Fr w w7 F F':=by
 have hsz:=m.size;have hs7:=hg.size;have hs7':w6.heap.size<=w7.heap.size:=hs7;obtain⟨es,cl,hmap⟩:=m.num.isMap;have hmt:t≠mb:=fun e=>by rw[<-e,m.blk]at hmap;cases hmap
 have hnm:(Value.slice a6 (items.length+1) c6).ownBlock≠some mb:=q4L m.row hmap (fun cs e=>by cases e)
 have htl:t<w6.heap.size:=(aes m.blk).1
 have st:∀k,k<w6.heap.size->k≠mb->w7.heap[k]? =w6.heap[k]? := fun k hk hne=>hg.block k hk (fun e=>hne (by injection e))
 refine⟨fun k=>k=t\/k=mb\/(Value.slice a6 (items.length+1) c6).ownBlock=some k,⟨?_,?_,?_,.slice a6 (items.length+1) c6,mb,(st t htl hmt).trans m.blk,?_,?_,fun k=>Iff.rfl⟩,?_⟩
 ·exact List.nodup_append.2 ⟨h.nd,by simp,fun a ha b hb=>by simp at hb;subst hb;exact fun e=>hn (e ▸ ha)⟩
 ·simp;omega
 ·intro y hy
  rcases List.mem_append.1 hy with hy|hy
  ·exact h.ok y hy
  ·simp at hy;subst hy;exact hx
 ·rw[List.length_append]
  exact qs m.row fun k hk=>st k (qS m.row k hk) (fun e=>hnm (e ▸ hk))
 ·rw[List.length_append]
  exact hn7.alike fun y _=>qaw hn y
 ·refine⟨hg.os.trans m.os,hg.tape.trans m.tape,hg.output.trans m.output,by omega,fun k hk hf=>?_,fun k hk=>?_⟩
  ·have hf':=fun e=>hf ((hF k).2 e)
   exact(st k (by omega) (fun e=>hf' (Or.inr (Or.inl e)))).trans (m.keep k hk (fun e=>hf' (Or.inl e)) (fun e=>hf' (Or.inr (Or.inr e))))
  ·rcases hk with rfl|rfl|hk
   ·exact Or.inl ((hF k).2 (Or.inl rfl))
   ·exact Or.inl ((hF k).2 (Or.inr (Or.inl rfl)))
   ·rcases m.loc k hk with e|e
    ·exact Or.inl ((hF k).2 (Or.inr (Or.inr e)))
    ·exact Or.inr e
theorem qbr{w:World}{F:Nat->Prop}{t:Nat}{items:List It}(h:TabI w F t items)(x:It)(hx:ItOk x)(hn:x ∉ items)(hl:items.length<4096):
  Calls Tryz.prog 146 #[.pointer (some ⟨t,0,none⟩),itV x] w fun e w'=>e=.returned (.int .i64 (items.length:Int))/\∃F',TabI w' F' t (items++[x])/\Fr w w' F F':=by
 obtain⟨a,cap,mb,hr,hF⟩:=h.read;have HR:Hid _:=hr;have HF:Hid _:=hF;have HI:Hid _:=h;have HX:Hid _:=hx;have HN:Hid _:=hn;have hb1:=qc w (itO x);have hr1:=hr.up hb1;have c1:=hr1.c1;have c1b:=(hr1.up (qc (w.alloc (itO x)) (itO x))).c1;have hO:((w.alloc (itO x)).alloc (itO x)).drew.ownsRow 0 162 4 (.slice a items.length cap) items.length (encI items):=World.ownsRow.alloc (World.ownsRow.alloc hr.row _) _
 have hB:((w.alloc (itO x)).alloc (itO x)).drew.heap[w.heap.size+1]? =some (itO x):=by
  have:=(mha (w.alloc (itO x)) (itO x)).1
  rw[show (w.alloc (itO x)).heap.size=w.heap.size+1 by simp]at this
  exact this
 have hn4:items.length<=4096:=by omega
 have hmid:=fun w5 hg a5 c5 ho hl=>qiW (w5:=w5) hr x hg a5 c5 ho hl
 have HM:Hid _:=hmid;clear h hr hr1 hF hx hn hb1 hmid;obtain⟨op,p,xa,xb⟩:=x;unfold itO at hO hB HM c1 c1b;dsimp only at hO hB HM c1 c1b
 unfold itV;dsimp only
 generalize hL:items.length=L at *;have HL:=hiq hL;clear hL;go_enter Tryz.func146,Tryz.ntmps146
 go_upto_region 15 with fail
 go_region_law ((refine q5z rfl _ _ rfl (.slice a L cap) L items ⟨op,p,xa,xb⟩ (w.heap.size+1) rfl rfl hO hB (by omega) ?_;intro v5 w5 hown5 hgr5 hloc5;obtain⟨a5,k5,rfl⟩:=qM hown5;have m5:=HM.out w5 hgr5 a5 k5 hown5 hloc5;have c5:w5.cell? ⟨t,1,none⟩=some (.slice a L cap):=qb m5.1 1;have z5:w5.frozen? ⟨t,1,none⟩=false:=frozen_of_row w5 _ 1 _ _ m5.1))
 all_goals
  have HM6:Hid _:=m5.2;clear hO hB c1 c1b c5 z5 m5 hown5 hgr5 hloc5;generalize w5.setCell ⟨t,1,none⟩ (.slice a5 (L+1) k5)=w6 at *;have t2:w6.cell? ⟨t,2,none⟩=some (.map (some mb)):=qb HM6.out.blk 2;have b0:w6.cell? ⟨w.heap.size,0,none⟩=some (.int .u8 (op:Int)):=qb HM6.out.box 0;have b1:w6.cell? ⟨w.heap.size,1,none⟩=some (.int .u8 (p:Int)):=qb HM6.out.box 1;have b2:w6.cell? ⟨w.heap.size,2,none⟩=some (.int .i64 xa):=qb HM6.out.box 2;have b3:w6.cell? ⟨w.heap.size,3,none⟩=some (.int .i64 xb):=qb HM6.out.box 3;obtain⟨w7,hrun,hn7,hg7⟩:=(show NumOf w6.drew mb L (posI items) from HM6.out.num).put (by omega) (x:=⟨op,p,xa,xb⟩) HX.out (q1R.2 HN.out) L (by omega)
  unfold itV at hrun;dsimp only at hrun
  have HN7:Hid _:=hn7;have HG7:Hid _:=hg7;clear hn7 hg7
  go_upto_region 15 with fail
  go_region
  all_goals
   clear hrun t2 b0 b1 b2 b3;go_wp2;go_ret
   have e:=HL.out;subst e;exact⟨rfl,qhw HI.out HF.out HX.out HN.out hl HM6.out HN7.out HG7.out HR.out.num.lt⟩
def FP (b mp:Nat) (vi vt:Value) (k:Nat):Prop:=k=b\/k=mp\/vi.ownBlock=some k\/vt.ownBlock=some k
def ptA (vi:Value) (mp:Nat) (vt:Value) (rest:List Value):Array Value:=(vi :: .map (some mp)::vt::rest).toArray
def PtT (T:TypeId):Prop:=T=126\/T=128
structure PtR (w:World) (b:Nat) (T:TypeId) (rest:List Value) (vi:Value) (mp:Nat) (vt:Value) (items:List It) (texts:List ByteArray) (n:Nat) (f:It->Option Nat):Prop where
 ty:PtT T
 blk:w.heap[b]? =some (.cells (ptA vi mp vt rest) T (0,0))
 ri:w.ownsRow 0 162 4 vi items.length (encI items)
 rt:w.ownsRow 0 9 1 vt texts.length (texts.map Value.string)
 num:NumOf w mp n f
theorem q2H{w:World}{base e size n g:Nat}{v:Value}{xs:List Value}{o:Obj}(h:w.ownsRow base e size v n xs)(hg:w.heap[g]? =some o)(ho:∀cs,o≠.cells cs e (0,0)):v.ownBlock≠some g:=by
 rcases h.2 with⟨rfl,_⟩|⟨g',cap,cur,rfl,_,hc,_⟩
 ·intro e;cases e
 ·intro e
  injection e with e;dsimp only at e
  subst e;rw[hg]at hc;injection hc with hc;exact ho _ hc
theorem qfI{w:World}{base e size n g:Nat}{v:Value}{xs:List Value}(h:w.ownsRow base e size v n xs)(hg:v.ownBlock=some g):∃cs,w.heap[g]? =some (.cells cs e (0,0)):=by
 rcases h.2 with⟨rfl,_⟩|⟨g',cap,cur,rfl,_,hc,_⟩
 ·cases hg
 ·injection hg with hg
  dsimp only at hg
  subst hg;exact⟨_,hc⟩
theorem PtT.ne{T:TypeId}(h:PtT T):T≠162/\T≠9/\T≠3:=by
 rcases h with rfl|rfl<;>decide
section
variable {w:World} {b mp n:Nat} {T:TypeId} {rest:List Value} {vi vt:Value} {items:List It} {texts:List ByteArray} {f:It->Option Nat}
theorem PtR.ib(h:PtR w b T rest vi mp vt items texts n f):vi.ownBlock≠some b:=q2H h.ri h.blk fun cs e=>by injection e with _ e _;exact h.ty.ne.1 e
theorem PtR.tb(h:PtR w b T rest vi mp vt items texts n f):vt.ownBlock≠some b:=q2H h.rt h.blk fun cs e=>by injection e with _ e _;exact h.ty.ne.2.1 e
theorem PtR.im(h:PtR w b T rest vi mp vt items texts n f):vi.ownBlock≠some mp:=by
 obtain⟨es,c,hm⟩:=h.num.isMap;exact q2H h.ri hm fun cs e=>by cases e
theorem PtR.tm(h:PtR w b T rest vi mp vt items texts n f):vt.ownBlock≠some mp:=by
 obtain⟨es,c,hm⟩:=h.num.isMap;exact q2H h.rt hm fun cs e=>by cases e
theorem PtR.mb(h:PtR w b T rest vi mp vt items texts n f):mp≠b:=fun e=>by
 obtain⟨es,c,hm⟩:=h.num.isMap;rw[e,h.blk]at hm;cases hm
theorem PtR.it(h:PtR w b T rest vi mp vt items texts n f):∀k,vi.ownBlock=some k->vt.ownBlock≠some k:=fun k hk=>by
 obtain⟨cs,hc⟩:=qfI h.ri hk;exact q2H h.rt hc fun cs e=>by injection e with _ e _;exact absurd e (by decide)
theorem PtR.bl(h:PtR w b T rest vi mp vt items texts n f):b<w.heap.size:=(aes h.blk).1
theorem PtR.lt(h:PtR w b T rest vi mp vt items texts n f):∀k,FP b mp vi vt k->k<w.heap.size:=fun k hk=>by
 rcases hk with rfl|rfl|hk|hk
 ·exact h.bl
 ·exact h.num.lt
 ·exact qS h.ri k hk
 ·exact qS h.rt k hk
theorem PtR.far{w':World}(h:PtR w b T rest vi mp vt items texts n f)(hb:∀k,FP b mp vi vt k->w'.heap[k]? =w.heap[k]?):PtR w' b T rest vi mp vt items texts n f :=
 ⟨h.ty,(hb b (Or.inl rfl)).trans h.blk,qs h.ri fun k hk=>hb k (Or.inr (Or.inr (Or.inl hk))),qs h.rt fun k hk=>hb k (Or.inr (Or.inr (Or.inr hk))),h.num.far (hb mp (Or.inr (Or.inl rfl)))⟩
theorem PtR.up{w':World}(h:PtR w b T rest vi mp vt items texts n f)(hb:Below w.heap.size w w'):PtR w' b T rest vi mp vt items texts n f:=h.far fun k hk=>hb.block k (h.lt k hk)
theorem PtR.c0(h:PtR w b T rest vi mp vt items texts n f):w.cell? ⟨b,0,none⟩=some vi:=qb h.blk 0
theorem PtR.c1(h:PtR w b T rest vi mp vt items texts n f):w.cell? ⟨b,1,none⟩=some (.map (some mp)):=qb h.blk 1
theorem PtR.c2(h:PtR w b T rest vi mp vt items texts n f):w.cell? ⟨b,2,none⟩=some vt:=qb h.blk 2
theorem PtR.put{w':World}{n':Nat}{f':It->Option Nat}(h:PtR w b T rest vi mp vt items texts n f)(hg:w.grownBy w' (some mp))(hn:NumOf w' mp n' f'):PtR w' b T rest vi mp vt items texts n' f'/\Fr w w' (FP b mp vi vt) (FP b mp vi vt):=by
 have st:∀k,k<w.heap.size->k≠mp->w'.heap[k]? =w.heap[k]? := fun k hk hne=>hg.block k hk (fun e=>hne (by injection e))
 refine⟨⟨h.ty,(st b h.bl (fun e=>h.mb e.symm)).trans h.blk,qs h.ri fun k hk=>st k (qS h.ri k hk) (fun e=>h.im (e ▸ hk)),qs h.rt fun k hk=>st k (qS h.rt k hk) (fun e=>h.tm (e ▸ hk)),hn⟩,hg.os,hg.tape,hg.output,hg.size,fun k hk hF=>st k hk fun e=>hF (Or.inr (Or.inl e)),fun _ hk=>Or.inl hk⟩
theorem PtR.grow{w5:World}{o:Obj}{vi':Value}{items':List It}(h:PtR w b T rest vi mp vt items texts n f)(hg:(w.alloc o).drew.grownBy w5 vi.ownBlock)(ho:w5.ownsRow 0 162 4 vi' items'.length (encI items'))(hl:vi'.ownBlock=vi.ownBlock\/vi'.ownBlock=some (w.alloc o).drew.heap.size):
  w5.heap[b]? =some (.cells (ptA vi mp vt rest) T (0,0))/\PtR (w5.setCell ⟨b,0,none⟩ vi') b T rest vi' mp vt items' texts n f/\Fr w (w5.setCell ⟨b,0,none⟩ vi') (FP b mp vi vt) (FP b mp vi' vt):=by
 have hb1:=qc w o;have hz:(w.alloc o).drew.heap.size=w.heap.size+1:=by simp
 have hs:=hg.size;have st:∀k,k<w.heap.size->vi.ownBlock≠some k->w5.heap[k]? =w.heap[k]? := fun k hk hne=>(hg.block k (by omega) (fun e=>hne e.symm)).trans (hb1.block k hk)
 have h5:=(st b h.bl h.ib).trans h.blk
 have hvb:vi'.ownBlock≠some b:=fun e=>by
  rcases hl with e2|e2
  ·rw[e2]at e;exact h.ib e
  ·rw[e2]at e;injection e with e;have:=h.bl;omega
 have s6:∀k,k≠b->(w5.setCell ⟨b,0,none⟩ vi').heap[k]? =w5.heap[k]? := fun k hk=>Below.heap_setCell _ _ _ _ hk
 refine⟨h5,⟨h.ty,?_,qs ho fun k hk=>s6 k (fun e=>hvb (e ▸ hk)),qs h.rt fun k hk=>(s6 k (fun e=>h.tb (e ▸ hk))).trans (st k (qS h.rt k hk) (fun e=>h.it k e hk)),h.num.far ((s6 mp h.mb).trans (st mp h.num.lt h.im))⟩,hg.os,hg.tape,hg.output,?_,fun k hk hF=>?_,fun k hk=>?_⟩
 ·rw[heap_setCell_same w5 b 0 _ _ _ h5];rfl
 ·simp;omega
 ·exact(s6 k fun e=>hF (Or.inl e)).trans (st k hk fun e=>hF (Or.inr (Or.inr (Or.inl e))))
 ·rcases hk with hk|hk|hk|hk
  ·exact Or.inl (Or.inl hk)
  ·exact Or.inl (Or.inr (Or.inl hk))
  ·rcases hl with e|e
   ·rw[e]at hk;exact Or.inl (Or.inr (Or.inr (Or.inl hk)))
   ·rw[e]at hk;injection hk with hk;right;omega
  ·exact Or.inl (Or.inr (Or.inr (Or.inr hk)))
theorem PtR.growT{w5:World}{o:Obj}{vt':Value}{texts':List ByteArray}(h:PtR w b T rest vi mp vt items texts n f)(hg:(w.alloc o).grownBy w5 vt.ownBlock)(ho:w5.ownsRow 0 9 1 vt' texts'.length (texts'.map Value.string))(hl:vt'.ownBlock=vt.ownBlock\/vt'.ownBlock=some (w.alloc o).heap.size):
  w5.heap[b]? =some (.cells (ptA vi mp vt rest) T (0,0))/\PtR (w5.setCell ⟨b,2,none⟩ vt') b T rest vi mp vt' items texts' n f/\Fr w (w5.setCell ⟨b,2,none⟩ vt') (FP b mp vi vt) (FP b mp vi vt'):=by
 have hb1:=qc w o;have hz:(w.alloc o).heap.size=w.heap.size+1:=by simp
 have hs:=hg.size;have st:∀k,k<w.heap.size->vt.ownBlock≠some k->w5.heap[k]? =w.heap[k]? := fun k hk hne=>(hg.block k (by omega) (fun e=>hne e.symm)).trans (hb1.block k hk)
 have h5:=(st b h.bl h.tb).trans h.blk
 have hvb:vt'.ownBlock≠some b:=fun e=>by
  rcases hl with e2|e2
  ·rw[e2]at e;exact h.tb e
  ·rw[e2]at e;injection e with e;have:=h.bl;omega
 have s6:∀k,k≠b->(w5.setCell ⟨b,2,none⟩ vt').heap[k]? =w5.heap[k]? := fun k hk=>Below.heap_setCell _ _ _ _ hk
 refine⟨h5,⟨h.ty,?_,qs h.ri fun k hk=>(s6 k (fun e=>h.ib (e ▸ hk))).trans (st k (qS h.ri k hk) (fun e=>h.it k hk e)),qs ho fun k hk=>s6 k (fun e=>hvb (e ▸ hk)),h.num.far ((s6 mp h.mb).trans (st mp h.num.lt h.tm))⟩,hg.os,hg.tape,hg.output,?_,fun k hk hF=>?_,fun k hk=>?_⟩
 ·rw[heap_setCell_same w5 b 2 _ _ _ h5];rfl
 ·simp;omega
 ·exact(s6 k fun e=>hF (Or.inl e)).trans (st k hk fun e=>hF (Or.inr (Or.inr (Or.inr e))))
 ·rcases hk with hk|hk|hk|hk
  ·exact Or.inl (Or.inl hk)
  ·exact Or.inl (Or.inr (Or.inl hk))
  ·exact Or.inl (Or.inr (Or.inr (Or.inl hk)))
  ·rcases hl with e|e
   ·rw[e]at hk;exact Or.inl (Or.inr (Or.inr (Or.inr hk)))
   ·rw[e]at hk;injection hk with hk;right;omega
end
structure Pts (w:World) (G:Nat->Prop) (b:Nat) (T:TypeId) (rest:List Value) (items:List It) (texts:List ByteArray):Prop where
 nd:items.Nodup
 tl:texts.length=items.length
 few:items.length<=20000000
 ok:∀x∈items,ItOk x
 tok:∀s∈texts,SOk s
 ex:∃vi mp vt,PtR w b T rest vi mp vt items texts items.length (posI items)/\∀k,G k↔FP b mp vi vt k
theorem Pts.lt{w:World}{G:Nat->Prop}{b:Nat}{T:TypeId}{rest:List Value}{items:List It}{texts:List ByteArray}(h:Pts w G b T rest items texts):∀k,G k->k<w.heap.size:=fun k hk=>by
 obtain⟨vi,mp,vt,hr,hG⟩:=h.ex;exact hr.lt k ((hG k).1 hk)
theorem Pts.far{w w':World}{G:Nat->Prop}{b:Nat}{T:TypeId}{rest:List Value}{items:List It}{texts:List ByteArray}(h:Pts w G b T rest items texts)(hb:∀k,G k->w'.heap[k]? =w.heap[k]?):Pts w' G b T rest items texts:=by
 obtain⟨vi,mp,vt,hr,hG⟩:=h.ex;exact⟨h.nd,h.tl,h.few,h.ok,h.tok,vi,mp,vt,hr.far fun k hk=>hb k ((hG k).2 hk),hG⟩
theorem Pts.up{w w':World}{G:Nat->Prop}{b:Nat}{T:TypeId}{rest:List Value}{items:List It}{texts:List ByteArray}(h:Pts w G b T rest items texts)(hb:Below w.heap.size w w'):Pts w' G b T rest items texts:=h.far fun k hk=>hb.block k (h.lt k hk)
theorem Fr.alike{w w':World}{F G F' G':Nat->Prop}(h:Fr w w' F F')(h1:∀k,F k->G k)(h2:∀k,G' k->F' k):Fr w w' G G' :=
 ⟨h.os,h.tape,h.output,h.size,fun k hk hn=>h.keep k hk fun e=>hn (h1 k e),fun k hk=>(h.foot k (h2 k hk)).imp (h1 k) id⟩
theorem q76{w:World}{G:Nat->Prop}{b:Nat}{T:TypeId}{rest:List Value}{items:List It}{texts:List ByteArray}(h:Pts w G b T rest items texts)(x:It)(hx:ItOk x)(j:Nat)(hj:posI items x=some j):
  Calls Tryz.prog 122 #[.pointer (some ⟨b,0,none⟩),itV x] w fun e w'=>e=.returned (.int .i64 (j:Int))/\Below w.heap.size w w':=by
 obtain⟨vi,mp,vt,hr,hG⟩:=h.ex;have hr1:=hr.up (qc w (itO x));have c1:=hr1.c1;have hb0:=(mha w (itO x)).1;have b0:(w.alloc (itO x)).cell? ⟨w.heap.size,0,none⟩=some (.int .u8 (x.op:Int)):=qb hb0 0;have b1:(w.alloc (itO x)).cell? ⟨w.heap.size,1,none⟩=some (.int .u8 (x.p:Int)):=qb hb0 1;have b2:(w.alloc (itO x)).cell? ⟨w.heap.size,2,none⟩=some (.int .i64 x.a):=qb hb0 2;have b3:(w.alloc (itO x)).cell? ⟨w.heap.size,3,none⟩=some (.int .i64 x.b):=qb hb0 3
 have hlook:(Instr.lookup 123 (.map (some mp)) (itV x) true).run Tryz.prog (w.alloc (itO x)).drew=.ok (.tuple #[.int .i64 (j:Int),.bool true]) (w.alloc (itO x)).drew:=by
  have:=(show NumOf (w.alloc (itO x)).drew mp items.length (posI items) from hr1.num).look hx
  rw[hj]at this;exact this
 have HB:Hid _:=qc w (itO x);clear h hr hr1 hG hb0 hx hj;obtain⟨op,p,xa,xb⟩:=x;unfold itO at *;unfold itV at *;dsimp only at *
 go_enter Tryz.func122,Tryz.ntmps122
 go_upto_region 15 with fail
 go_region
 all_goals
  go_wp2;go_ret
  exact⟨rfl,HB.out.drew⟩
theorem qaY:(Tryz.prog.info? 9).map (fun i=>(i.zero,i.size,i.bytes))=some (some (.string ⟨#[]⟩),1,16):=by kernel_rfl
theorem q2z{w:World}{ops:Array Oper}{rest:List Oper}{o:Oper}{a:Act}{Q:Exit->Act->World->Prop}{T E:TypeId}{z:Value}{bt:Nat}(hu:Tryz.prog.underlying T=some (.slice E))(hin:(Tryz.prog.info? E).map (fun i=>(i.zero,i.size,i.bytes))=some (some z,1,bt))(hzs:z.cells.size=1)(hbt:bt<=1000)(hgd:o.guard=none)(s x:Operand)
  (ho:o.op=.call { callee:=.builtin .append,args:=#[s,x],argTypes:=#[T,T] }) (base:Nat)
  (v:Value) (n:Nat) (xs:List Value) (y:Value) (g:Nat) (hs:a.eval s=v) (hx:a.eval x=.slice (some ⟨g,0,none⟩) 1 1) (hown:w.ownsRow base E 1 v n xs)
  (hB:w.cell? ⟨g,0,none⟩=some y) (h1:y.oneCell'=true) (hn:n<=100000000) (hbase:base<=w.heap.size)
  (h:∀v' w',w'.ownsRow base E 1 v' (n+1) (xs++[y])->w.grownBy w' v.ownBlock->(v'.ownBlock=v.ownBlock\/v'.ownBlock=some w.heap.size)->wpList Tryz.prog ops Q rest (a.put o.dst v') w'):wpList Tryz.prog ops Q (o::rest) a w:=by
 obtain⟨i,hi,hz0,hz1,hz2⟩:=info_parts hin;have hb:(n+1)*bt<=(100000000+1)*1000:=Nat.mul_le_mul (by omega) hbt
 refine wpList_append_own_at w hgd s x T ho base E i _ 1 bt hu hi hz0 hz1 hz2 hzs (by decide) v n _ hs hown ⟨g,0,none⟩ 1 1 [y] hx rfl ?_ ?_ (by unfold maxLen;omega) (by omega) hbase ?_
 ·intro j u hj
  match j with
  | 0=>simp at hj;rw[<-hj,qg];exact hB
  |j+1=>simp at hj
 ·intro u hu'
  simp at hu'
  subst hu';exact h1
 ·intro v' w' e1 e2 _ e3
  exact h v' w' e1 e2 e3
theorem qfP{w w8:World}{G:Nat->Prop}{b mp:Nat}{T:TypeId}{rest:List Value}{vi vt vi' vt':Value}{items:List It}{texts:List ByteArray}{x:It}(h:Pts w G b T rest items texts)(hG:∀k,G k↔FP b mp vi vt k)(hx:ItOk x)(hn:x ∉ items)(hl:items.length<20000000)
  (hR:PtR w8 b T rest vi' mp vt' (items++[x]) (texts++[⟨#[]⟩]) (items.length+1) (fun y=>if y=x then some items.length else posI items y)) (fr:Fr w w8 (FP b mp vi vt) (FP b mp vi' vt')):
  ∃G',Pts w8 G' b T rest (items++[x]) (texts++[⟨#[]⟩])/\Fr w w8 G G':=by
 refine⟨FP b mp vi' vt',⟨List.nodup_append.2 ⟨h.nd,by simp,fun a ha c hc=>by simp at hc;subst hc;exact fun e=>hn (e ▸ ha)⟩,by simp[h.tl],by simp;omega,fun y hy=>?_,fun s hs=>?_,vi',mp,vt',⟨hR.ty,hR.blk,hR.ri,hR.rt,?_⟩,fun k=>Iff.rfl⟩,fr.alike (fun k hk=>(hG k).2 hk) (fun k hk=>hk)⟩
 ·rcases List.mem_append.1 hy with hy|hy
  ·exact h.ok y hy
  ·simp at hy;subst hy;exact hx
 ·rcases List.mem_append.1 hs with hs|hs
  ·exact h.tok s hs
  ·simp at hs;subst hs;unfold SOk;decide
 ·rw[List.length_append]
  exact hR.num.alike fun y _=>qaw hn y
theorem q4A{w:World}{G:Nat->Prop}{b:Nat}{T:TypeId}{rest:List Value}{items:List It}{texts:List ByteArray}(h:Pts w G b T rest items texts)(x:It)(hx:ItOk x)(hn:x ∉ items)(hl:items.length<20000000):
  Calls Tryz.prog 122 #[.pointer (some ⟨b,0,none⟩),itV x] w fun e w'=>e=.returned (.int .i64 (items.length:Int))/\∃G',Pts w' G' b T rest (items++[x]) (texts++[⟨#[]⟩])/\Fr w w' G G':=by
 obtain⟨vi,mp,vt,hr,hG⟩:=h.ex;obtain⟨ai,ci,rfl⟩:=qM hr.ri;obtain⟨at',ct,rfl⟩:=qM hr.rt;have hr1:PtR (w.alloc (itO x)).drew b T rest _ mp _ items texts items.length (posI items):=(hr.up (qc w (itO x))).up (Below.refl _ _).drew;have c0:=(hr.up (qc w (itO x))).c0;have c1:=(hr.up (qc w (itO x))).c1;have hb0:=(mha w (itO x)).1;have b0:(w.alloc (itO x)).cell? ⟨w.heap.size,0,none⟩=some (.int .u8 (x.op:Int)):=qb hb0 0;have b1:(w.alloc (itO x)).cell? ⟨w.heap.size,1,none⟩=some (.int .u8 (x.p:Int)):=qb hb0 1;have b2:(w.alloc (itO x)).cell? ⟨w.heap.size,2,none⟩=some (.int .i64 x.a):=qb hb0 2;have b3:(w.alloc (itO x)).cell? ⟨w.heap.size,3,none⟩=some (.int .i64 x.b):=qb hb0 3
 have hlook:(Instr.lookup 123 (.map (some mp)) (itV x) true).run Tryz.prog (w.alloc (itO x)).drew=.ok (.tuple #[.int .i64 0,.bool false]) (w.alloc (itO x)).drew:=by
  have:=hr1.num.look hx
  rw[q1R.2 hn]at this;exact this
 obtain⟨w4,hrun,hn4,hg4⟩:=(show NumOf (w.alloc (itO x)).drew.drew mp items.length (posI items) from hr1.num).put (by have:=h.few;omega) hx (q1R.2 hn) items.length (by have:=h.few;omega)
 obtain⟨hp4,fr4⟩:=(hr1.up (Below.refl _ _).drew).put hg4 hn4;have HP4:Hid _:=hp4;have HFR4:Hid (Fr w w4 _ _):=(Fr.ofBelow ((qc w (itO x)).drew.drew)).trans fr4;have d0:=hp4.c0;have d0b:=(hp4.up (qc w4 (itO x))).c0
 have hbx:w4.heap[w.heap.size]? =some (itO x):=by
  refine (hg4.block _ (by simp) (fun e=>?_)).trans hb0
  injection e with e;have:=hr.num.lt
  omega
 have e0:w4.cell? ⟨w.heap.size,0,none⟩=some (.int .u8 (x.op:Int)):=qb hbx 0;have e1:w4.cell? ⟨w.heap.size,1,none⟩=some (.int .u8 (x.p:Int)):=qb hbx 1;have e2:w4.cell? ⟨w.heap.size,2,none⟩=some (.int .i64 x.a):=qb hbx 2;have e3:w4.cell? ⟨w.heap.size,3,none⟩=some (.int .i64 x.b):=qb hbx 3;have hO:(w4.alloc (itO x)).drew.ownsRow 0 162 4 (.slice ai items.length ci) items.length (encI items):=World.ownsRow.alloc hp4.ri _;have hB:(w4.alloc (itO x)).drew.heap[w4.heap.size]? =some (itO x):=(mha w4 (itO x)).1;have HI:Hid _:=h;have HG:Hid _:=hG;have HX:Hid _:=hx;have HN:Hid _:=hn;have HGROW:Hid _:=fun w5 vi' hg ho hl=>hp4.grow (w5:=w5) (o:=itO x) (vi':=vi') (items':=items++[x]) hg ho hl
 have htl:=h.tl;have hfew:=h.few;clear h hr hr1 hG hb0 hx hn hp4 fr4 hn4 hg4 hbx;obtain⟨op,p,xa,xb⟩:=x;unfold itO at *;unfold itV at *;dsimp only at *
 generalize hL:items.length=L at *;generalize hL2:texts.length=L2 at *;have HL:=hiq hL;have HL2:=hiq hL2;subst htl;clear hL hL2;go_enter Tryz.func122,Tryz.ntmps122
 go_upto_region 15 with fail
 go_region
 all_goals
  clear hlook
  go_upto_region 15 with fail
  go_region
  all_goals
   clear hrun c0 c1 b0 b1 b2 b3
   go_upto_region 15 with fail
   go_region_law ((refine q5z rfl _ _ rfl (.slice ai L2 ci) L2 items ⟨op,p,xa,xb⟩ w4.heap.size rfl rfl hO hB (by omega) ?_;intro v5 w5 hown5 hgr5 hloc5;obtain⟨a5,k5,rfl⟩:=qM hown5;have m5:=HGROW.out w5 _ hgr5 (by rw[List.length_append,HL.out];exact hown5) hloc5;have c5:w5.cell? ⟨b,0,none⟩=some (.slice ai L2 ci):=qb m5.1 0;have z5:w5.frozen? ⟨b,0,none⟩=false:=frozen_of_row w5 _ 0 _ _ m5.1))
   all_goals
    have HM6:Hid _:=m5.2.1;have HF6:Hid _:=HFR4.out.trans m5.2.2;clear hO hB d0 d0b e0 e1 e2 e3 c5 z5 m5 hown5 hgr5 hloc5;generalize w5.setCell ⟨b,0,none⟩ (.slice a5 (L2+1) k5)=w6 at *;have f2:=HM6.out.c2;have hc7:(w6.alloc (.cells #[.string ⟨#[]⟩] 9)).cell? ⟨w6.heap.size,0,none⟩=some (.string ⟨#[]⟩):=qb (mha w6 _).1 0
    have hO7:(w6.alloc (.cells #[.string ⟨#[]⟩] 9)).ownsRow 0 9 1 (.slice at' L2 ct) L2 (texts.map Value.string):=by
     have:=World.ownsRow.alloc HM6.out.rt (.cells #[.string ⟨#[]⟩] 9)
     rw[HL2.out]at this;exact this
    go_wp2_with (at_builtin;refine q2z Tryz.underlying124 qaY rfl (by decide) rfl _ _ rfl 0 _ L2 (texts.map Value.string) (.string ⟨#[]⟩) w6.heap.size rfl rfl hO7 hc7 rfl (by omega) (Nat.zero_le _) ?_)
    intro v7 w7 hown7 hgr7 hloc7;obtain⟨a7,k7,rfl⟩:=qM hown7;have m7:=HM6.out.growT (texts':=texts++[⟨#[]⟩]) hgr7 (by rw[List.length_append,HL2.out,List.map_append];exact hown7) (by simpa using hloc7)
    have c7:w7.cell? ⟨b,2,none⟩=some (.slice at' L2 ct):=qb m7.1 2;have z7:w7.frozen? ⟨b,2,none⟩=false:=frozen_of_row w7 _ 2 _ _ m7.1;have HM8:Hid _:=m7.2.1;have HF8:Hid _:=HF6.out.trans m7.2.2;clear hc7 hO7 m7 hown7 hgr7 hloc7 f2;go_wp2;go_ret
    have e:=HL.out;subst e;exact⟨rfl,qfP HI.out HG.out HX.out HN.out hl HM8.out HF8.out⟩
def txB (S:Tr):ByteArray:=⟨(S.flat.map fun k=>UInt8.ofNat (k.1*8+k.2)).toArray⟩
def Cov (T0:Tr) (items:List It):Prop:=∀n,n<items.length->∃S,Rep items n S/\InC T0 S
theorem qhA{T0:Tr}{items:List It}(hn:items.Nodup)(h:Cov T0 items):items.length<=(allC T0).length:=by
 have hf:∀n,∃S,n<items.length->Rep items n S/\InC T0 S:=fun n=>by
  by_cases hn:n<items.length
  ·obtain⟨S,hS⟩:=h n hn
   exact⟨S,fun _=>hS⟩
  ·exact⟨.leaf (0,0),fun h=>absurd h hn⟩
 have hl:((List.range items.length).map fun n=>Classical.choose (hf n)).length=items.length:=by simp
 rw[<-hl];refine q7s ?_ fun S hS=>?_
 ·unfold List.Nodup
  rw[List.pairwise_map];refine List.Pairwise.imp_of_mem ?_ (List.pairwise_lt_range (n:=items.length))
  intro a b ha hb hab e;have h1:=(Classical.choose_spec (hf a) (List.mem_range.1 ha)).1;have h2:=(Classical.choose_spec (hf b) (List.mem_range.1 hb)).1;rw[e]at h1;have:=Rep.num hn h1 h2
  omega
 ·obtain⟨n,hn,rfl⟩:=List.mem_map.1 hS
  exact qhO (Classical.choose_spec (hf n) (List.mem_range.1 hn)).2
structure T0k (T0:Tr):Prop where
 kt:KT T0
 sz:T0.size<=2048
structure PtO (T0:Tr) (w:World) (G:Nat->Prop) (b:Nat) (T:TypeId) (rest:List Value) (items:List It):Prop where
 t0:T0k T0
 low:Low items
 cov:Cov T0 items
 ex:∃texts,Pts w G b T rest items texts/\∀n S,Rep items n S->texts[n]? =some ⟨#[]⟩\/texts[n]? =some (txB S)
theorem PtO.lt{T0:Tr}{w:World}{G:Nat->Prop}{b:Nat}{T:TypeId}{rest:List Value}{items:List It}(h:PtO T0 w G b T rest items):∀k,G k->k<w.heap.size:=by
 obtain⟨texts,hp,_⟩:=h.ex;exact hp.lt
theorem PtO.far{T0:Tr}{w w':World}{G:Nat->Prop}{b:Nat}{T:TypeId}{rest:List Value}{items:List It}(h:PtO T0 w G b T rest items)(hb:∀k,G k->w'.heap[k]? =w.heap[k]?):PtO T0 w' G b T rest items:=by
 obtain⟨texts,hp,ht⟩:=h.ex;exact⟨h.t0,h.low,h.cov,texts,hp.far hb,ht⟩
theorem PtO.up{T0:Tr}{w w':World}{G:Nat->Prop}{b:Nat}{T:TypeId}{rest:List Value}{items:List It}(h:PtO T0 w G b T rest items)(hb:Below w.heap.size w w'):PtO T0 w' G b T rest items:=h.far fun k hk=>hb.block k (h.lt k hk)
theorem PtO.few{T0:Tr}{w:World}{G:Nat->Prop}{b:Nat}{T:TypeId}{rest:List Value}{items:List It}(h:PtO T0 w G b T rest items):items.length<=20000000:=by
 obtain⟨texts,hp,_⟩:=h.ex;exact hp.few
def KeepP (T0:Tr) (w:World) (G:Nat->Prop) (b:Nat) (T:TypeId) (rest:List Value) (items:List It) (R:List It->Int->Prop) (j:Int) (w':World):Prop :=
 ∃(items':List It) (G':Nat->Prop),items <+: items'/\R items' j/\PtO T0 w' G' b T rest items'/\Fr w w' G G'
def KeepR (T0:Tr) (w:World) (G:Nat->Prop) (b:Nat) (T:TypeId) (rest:List Value) (items:List It) (R:List It->Int->Prop) (e:Ending) (w':World):Prop :=
 ∃(j:Int),e=.returned (.int .i64 j)/\KeepP T0 w G b T rest items R j w'
def IsN (S:Tr) (items:List It) (j:Int):Prop:=∃m:Nat,j=(m:Int)/\Rep items m S
theorem Rep.pre{items items':List It}(h:items <+: items'){n:Nat}{S:Tr}(hr:Rep items n S):Rep items' n S:=by
 obtain⟨l,rfl⟩:=h;exact hr.more l
theorem q2j{T0:Tr}{w:World}{G:Nat->Prop}{b:Nat}{T:TypeId}{rest:List Value}{items:List It}(h:PtO T0 w G b T rest items)(x:It)(S:Tr)(hS:InC T0 S)(hx:ItOk x)(ha:x.a<(items.length:Int))(hb:x.b<(items.length:Int))
  (hR:∀items' j,items <+: items'->Low items'->items'[j]? =some x->Rep items' j S):
  Calls Tryz.prog 122 #[.pointer (some ⟨b,0,none⟩),itV x] w (KeepR T0 w G b T rest items (IsN S)):=by
 obtain⟨texts,hp,ht⟩:=h.ex
 cases hj:posI items x with
 |some j=>
  have hget:=(q2J hp.nd).1 hj;have hrep:=hR items j (List.prefix_refl _) h.low hget;exact(q76 hp x hx j hj).mono fun e w' ⟨he,hbw⟩=>⟨(j:Int),he,items,G,List.prefix_refl _,⟨j,rfl,hrep⟩,h.up hbw,Fr.ofBelow hbw⟩
 |none=>
  have hn:=q1R.1 hj
  have hlow:Low (items++[x]):=by
   have:=q4S h.low ha hb
   have e:addI items x=(items++[x],items.length):=by
    rcases q1n items x with⟨j,_,hj2⟩|⟨e,_⟩
    ·exact absurd (List.mem_of_getElem? hj2) hn
    ·exact e
   rw[e]at this;exact this
  have hrep:=hR (items++[x]) items.length (List.prefix_append _ _) hlow (by simp)
  have hnd:(items++[x]).Nodup:=List.nodup_append.2 ⟨hp.nd,by simp,fun a h1 c hc=>by simp at hc;subst hc;exact fun e=>hn (e ▸ h1)⟩
  have hcov:Cov T0 (items++[x]):=fun n hn2=>by
   by_cases hlt:n<items.length
   ·obtain⟨S',h1,h2⟩:=h.cov n hlt
    exact⟨S',h1.more [x],h2⟩
   ·have:n=items.length:=by simp at hn2;omega
    subst this;exact⟨S,hrep,hS⟩
  have hl:items.length<20000000:=by
   have h1:=qhA hnd hcov;have h2:=qhx h.t0.kt h.t0.sz;simp at h1
   omega
  refine (q4A hp x hx hn hl).mono fun e w' ⟨he,G',hp',fr⟩=>⟨(items.length:Int),he,items++[x],G',List.prefix_append _ _,⟨_,rfl,hrep⟩,⟨h.t0,hlow,hcov,_,hp',fun n S' hr=>?_⟩,fr⟩
  by_cases hlt:n<items.length
  ·obtain⟨S2,h1,_⟩:=h.cov n hlt
   have e:=Rep.tree (h1.more [x]) hr;subst e;rw[List.getElem?_append_left (by rw[hp.tl];exact hlt)]
   exact ht n _ h1
  ·have:n=items.length:=by have:=hr.lt;simp at this;omega
   subst this;refine Or.inl ?_
   rw[<-hp.tl];simp
theorem q1V:∀T:Tr,T.WF->∀k∈T.flat,k.1<=23/\k.2<=7
 | .leaf (op,p),h,k,hk=>by
  simp[Tr.flat]at hk
  subst hk;rcases qR h with⟨rfl,hp⟩|⟨rfl,rfl|rfl|rfl|rfl|rfl⟩
  ·exact⟨by show 2<=23;omega,hp⟩
  all_goals exact⟨by decide,by decide⟩
 | .un (op,p) c,h,k,hk=>by
  obtain⟨rfl,hc,_,ho⟩:=qG h;simp[Tr.flat]at hk
  rcases hk with hk|rfl
  ·exact q1V c hc k hk
  ·exact⟨by show op<=23;omega,Nat.zero_le _⟩
 | .bin (op,p) c d,h,k,hk=>by
  obtain⟨rfl,hc,hd,_,ho⟩:=qz h;simp[Tr.flat]at hk
  rcases hk with hk|hk|rfl
  ·exact q1V c hc k hk
  ·exact q1V d hd k hk
  ·exact⟨by show op<=23;omega,Nat.zero_le _⟩
theorem qcC{T0 S:Tr}(h0:KT T0)(h:InC T0 S):∀k∈S.flat,k.1<=23/\k.2<=7:=by
 have hw:S.WF:=by rcases q3a h0 h with k|k<;>exact k.wf
 exact q1V S hw
theorem it_ok{op:Nat}{a b:Int}(ho:op<256)(ha:-1<=a)(ha2:a<100000000)(hb:-1<=b)(hb2:b<100000000):ItOk ⟨op,0,a,b⟩:=⟨ho,by show 0<256;decide,ha,ha2,hb,hb2⟩
theorem q4B{T0:Tr}{w:World}{G:Nat->Prop}{b:Nat}{T:TypeId}{rest:List Value}{items:List It}(h:PtO T0 w G b T rest items)(op:Nat)(ho:op=4\/op=5):
  Calls Tryz.prog 177 #[.pointer (some ⟨b,0,none⟩),.int .u8 (op:Int)] w (KeepR T0 w G b T rest items (IsN (.leaf (op,0)))):=by
 have hk:=q2j h ⟨op,0,-1,-1⟩ (.leaf (op,0)) (q7l ho) (it_ok (by omega) (by decide) (by decide) (by decide) (by decide)) (by show (-1:Int)<_;omega) (by show (-1:Int)<_;omega) (fun items' j _ _ hj=>.leaf hj)
 unfold KeepR at *;generalize KeepP T0 w G b T rest items (IsN (.leaf (op,0)))=Q at *;clear h ho;unfold itV at hk;dsimp only at hk
 go_enter Tryz.func177,Tryz.ntmps177
 go_wp2_with fail
 refine hk.mono ?_
 rintro e w' ⟨j,rfl,hq⟩
 have HQ:Hid _:=hq;clear hk hq;go_wp2;go_ret
 exact⟨j,rfl,HQ.out⟩
theorem q1s{T0:Tr}{w:World}{G:Nat->Prop}{b:Nat}{T:TypeId}{rest:List Value}{items:List It}(h:PtO T0 w G b T rest items)(op:Nat)(ho:op<256)(m l:Nat)(c d:Tr)(hm:Rep items m c)(hl:Rep items l d)(hS:InC T0 (.bin (op,0) c d)):
  Calls Tryz.prog 182 #[.pointer (some ⟨b,0,none⟩),.int .u8 (op:Int),.int .i64 (m:Int),.int .i64 (l:Int)] w (KeepR T0 w G b T rest items (IsN (.bin (op,0) c d))):=by
 have hk:=q2j h ⟨op,0,(m:Int),(l:Int)⟩ (.bin (op,0) c d) hS (it_ok ho (by omega) (by have:=hm.lt;have:=h.few;omega) (by omega) (by have:=hl.lt;have:=h.few;omega)) (by show (m:Int)<_;have:=hm.lt;omega) (by show (l:Int)<_;have:=hl.lt;omega) (fun items' j hp hlow hj=>by
  obtain⟨h1,h2⟩:=q9S (k:=(op,0)) hlow hj;exact .bin hj h1 h2 (hm.pre hp) (hl.pre hp))
 unfold KeepR at *;generalize KeepP T0 w G b T rest items (IsN (.bin (op,0) c d))=Q at *;clear h ho hm hl hS;unfold itV at hk;dsimp only at hk
 go_enter Tryz.func182,Tryz.ntmps182
 go_wp2_with fail
 refine hk.mono ?_
 rintro e w' ⟨j,rfl,hq⟩
 have HQ:Hid _:=hq;clear hk hq;go_wp2;go_ret
 exact⟨j,rfl,HQ.out⟩
def duO (op:Nat):Nat:=if op=0 then 1 else if op=1 then 0 else if op=4 then 5 else if op=5 then 4 else if op=7 then 8 else if op=8 then 7 else if op=11 then 12 else if op=12 then 11 else if op=15 then 16 else if op=16 then 15 else if op=17 then 18 else 17
theorem q4y(op:Nat)(w:World)(h:op=0\/op=1\/op=4\/op=5\/op=7\/op=8\/op=11\/op=12\/op=15\/op=16\/op=17\/op=18):Calls Tryz.prog 184 #[.int .u8 (op:Int)] w fun e w'=>e=.returned (.int .u8 (duO op:Int))/\w'=w:=by
 rcases h with rfl|rfl|rfl|rfl|rfl|rfl|rfl|rfl|rfl|rfl|rfl|rfl <;>
 ·go_enter Tryz.func184,Tryz.ntmps184
  go_wp2;go_ret
  exact⟨rfl,rfl⟩
def IsM (_:List It) (j:Int):Prop:=j=-1
theorem KeepP.trans{T0:Tr}{w w1 w2:World}{G G1:Nat->Prop}{b:Nat}{T:TypeId}{rest:List Value}{items items1:List It}{R:List It->Int->Prop}{j:Int}(hp:items <+: items1)(fr:Fr w w1 G G1)(h:KeepP T0 w1 G1 b T rest items1 R j w2):KeepP T0 w G b T rest items R j w2:=by
 obtain⟨i2,G2,h1,h2,h3,h4⟩:=h;exact⟨i2,G2,hp.trans h1,h2,h3,fr.trans h4⟩
theorem q30{T0:Tr}{w:World}{G:Nat->Prop}{b:Nat}{T:TypeId}{rest:List Value}{items:List It}(h:PtO T0 w G b T rest items):
  Calls Tryz.prog 183 #[.pointer (some ⟨b,0,none⟩),.int .i64 (-1)] w (KeepR T0 w G b T rest items IsM):=by
 have HQ:Hid (KeepP T0 w G b T rest items IsM (-1) w):=⟨items,G,List.prefix_refl _,rfl,h,Fr.ofBelow (Below.refl _ _)⟩;clear h;go_enter Tryz.func183,Tryz.ntmps183
 go_wp2;go_ret
 exact⟨-1,rfl,HQ.out⟩
theorem PtO.at{T0:Tr}{w:World}{G:Nat->Prop}{b:Nat}{T:TypeId}{rest:List Value}{items:List It}(h:PtO T0 w G b T rest items){i:Nat}{x:It}(hi:items[i]? =some x):
  ∃a n cap g o,w.cell? ⟨b,0,none⟩=some (.slice a n cap)/\(∀w',(Instr.indexAt 122 (.slice a n cap) (.int .i64 (i:Int))).run Tryz.prog w'=.ok (.pointer (some ⟨g,o,none⟩)) w') /\
   w.cell? ⟨g,o,none⟩=some (.int .u8 (x.op:Int))/\w.cell? ⟨g,o+1,none⟩=some (.int .u8 (x.p:Int))/\w.cell? ⟨g,o+2,none⟩=some (.int .i64 x.a)/\w.cell? ⟨g,o+3,none⟩=some (.int .i64 x.b):=by
 obtain⟨texts,hp,_⟩:=h.ex;obtain⟨vi,mp,vt,hr,_⟩:=hp.ex;obtain⟨hi1,hi2⟩:=List.getElem?_eq_some_iff.1 hi;rcases hr.ri.2 with⟨e,e0⟩|⟨g,cap',cur,rfl,_,hcell,hnc,_,hsz,htk⟩
 ·omega
 ·have key:∀j,j<items.length*4->w.cell? ⟨g,j,none⟩=(encI items)[j]? := fun j hj=>by
   rw[<-htk,List.getElem?_take,if_pos hj];simp[World.cell?,hcell]
  obtain⟨q0,q1,q2,q3⟩:=q4Z items i hi1;rw[hi2]at q0 q1 q2 q3;refine⟨_,_,_,g,4*i,hr.c0,fun w'=>?_,?_,?_,?_,?_⟩
  ·simp[Instr.indexAt,run_underlying Tryz.underlying122,asIntOf,q1c q1L,hi1,Result.andThen,go_sem,qg,Nat.mul_comm]
  ·rw[key _ (by omega)];exact q0
  ·rw[key _ (by omega)];exact q1
  ·rw[key _ (by omega)];exact q2
  ·rw[key _ (by omega)];exact q3
theorem PtO.new{T0:Tr}{w:World}{G:Nat->Prop}{b:Nat}{T:TypeId}{rest:List Value}{items:List It}(h:PtO T0 w G b T rest items):¬G w.heap.size:=fun e=>Nat.lt_irrefl _ (h.lt _ e)
theorem qh{w w':World}{G G':Nat->Prop}{B:Nat}{o:Obj}(h:w.heap[B]? =some o)(hB:¬G B)(fr:Fr w w' G G'):w'.heap[B]? =some o/\¬G' B :=
 ⟨(fr.keep B (aes h).1 hB).trans h,fr.out hB (aes h).1⟩
theorem q9p{T0:Tr}{w:World}{G:Nat->Prop}{b:Nat}{T:TypeId}{rest:List Value}{items:List It}(h:PtO T0 w G b T rest items)(i q:Nat)(hi:Rep items i (.leaf (2,q)))(hS:InC T0 (.un (6,0) (.leaf (2,q)))):
  Calls Tryz.prog 183 #[.pointer (some ⟨b,0,none⟩),.int .i64 (i:Int)] w (KeepR T0 w G b T rest items (IsN (.un (6,0) (.leaf (2,q))))):=by
 have hx:items[i]? =some ⟨2,q,-1,-1⟩:=by cases hi with|leaf h=>exact h
 obtain⟨a,n,cap,g,o,c0,hidx,x0,x1,x2,x3⟩:=h.at hx;have hb:=qc w (itO ⟨2,q,-1,-1⟩)
 have hk:=q2j (h.up hb) ⟨6,0,(i:Int),-1⟩ (.un (6,0) (.leaf (2,q))) hS (it_ok (by omega) (by omega) (by have:=hi.lt;have:=h.few;omega) (by omega) (by omega)) (by show (i:Int)<_;have:=hi.lt;omega) (by show (-1:Int)<_;omega) (fun items' j hp hlow hj=>by
  exact .un (k:=(6,0)) (m:=i) hj (qcH (k:=(6,0)) hlow hj) (hi.pre hp))
 have hFr:Fr w (w.alloc (itO ⟨2,q,-1,-1⟩)) G G:=Fr.ofBelow hb;have hne:((i:Int) == -1)=false:=by rw[bqn];omega
 unfold KeepR at *;have HTR:Hid (∀j w',KeepP T0 (w.alloc (itO ⟨2,q,-1,-1⟩)) G b T rest items (IsN (.un (6,0) (.leaf (2,q)))) j w'->KeepP T0 w G b T rest items (IsN (.un (6,0) (.leaf (2,q)))) j w'):=fun j w' h=>h.trans (List.prefix_refl _) hFr
 generalize KeepP T0 (w.alloc (itO ⟨2,q,-1,-1⟩)) G b T rest items (IsN (.un (6,0) (.leaf (2,q))))=Q at *;generalize KeepP T0 w G b T rest items (IsN (.un (6,0) (.leaf (2,q))))=Q2 at *;clear h hi hS hb hFr hx;unfold itO at *;unfold itV at hk;dsimp only at *
 go_enter Tryz.func183,Tryz.ntmps183
 go_wp2_with fail
 refine hk.mono ?_
 rintro e w' ⟨j,rfl,hq⟩
 have HQ:Hid _:=HTR.out _ _ hq;clear hk hq;go_wp2;go_ret
 exact⟨j,rfl,HQ.out⟩
theorem qbj{T0:Tr}{w:World}{G:Nat->Prop}{b:Nat}{T:TypeId}{rest:List Value}{items:List It}(h:PtO T0 w G b T rest items)(i:Nat)(c:Tr)(hi:Rep items i (.un (6,0) c)):
  Calls Tryz.prog 183 #[.pointer (some ⟨b,0,none⟩),.int .i64 (i:Int)] w (KeepR T0 w G b T rest items (IsN c)):=by
 obtain⟨m,hx,hm⟩:∃m:Nat,items[i]? =some ⟨6,0,(m:Int),-1⟩/\Rep items m c:=by cases hi with|un h h1 h2=>exact⟨_,h,h2⟩
 obtain⟨a,n,cap,g,o,c0,hidx,x0,x1,x2,x3⟩:=h.at hx;have hb:=qc w (itO ⟨6,0,(m:Int),-1⟩);have HQ:Hid (KeepP T0 w G b T rest items (IsN c) (m:Int) (w.alloc (itO ⟨6,0,(m:Int),-1⟩))):=⟨items,G,List.prefix_refl _,⟨m,rfl,hm⟩,h.up hb,Fr.ofBelow hb⟩;have hne:((i:Int) == -1)=false:=by rw[bqn];omega
 clear h hi hb hx hm;unfold itO at *;dsimp only at *
 go_enter Tryz.func183,Tryz.ntmps183
 go_wp2;go_ret
 exact⟨_,rfl,HQ.out⟩
theorem itV0(op:Nat)(a b:Int):itV ⟨op,0,a,b⟩=.agg #[.int .u8 (op:Int),.int .u8 0,.int .i64 a,.int .i64 b]:=rfl
def NgC (T0:Tr) (b:Nat) (T:TypeId) (rest:List Value) (items0:List It) (a:Int) (R:List It->Int->Prop):Prop :=
 ∀(w:World) (G:Nat->Prop) (items:List It),items0 <+: items->PtO T0 w G b T rest items->Calls Tryz.prog 183 #[.pointer (some ⟨b,0,none⟩),.int .i64 a] w (KeepR T0 w G b T rest items R)
theorem q31{T0:Tr}{w:World}{G:Nat->Prop}{b:Nat}{T:TypeId}{rest:List Value}{items:List It}(h:PtO T0 w G b T rest items)(i op p:Nat)(xa xb:Int)(hx:items[i]? =some ⟨op,p,xa,xb⟩)(ho:op=0\/op=1\/op=4\/op=5\/op=7\/op=8\/op=11\/op=12\/op=15\/op=16)
  (RA RB:List It->Int->Prop) (hA:NgC T0 b T rest items xa RA) (hB:NgC T0 b T rest items xb RB) (S:Tr) (hS:InC T0 S)
  (hfin:∀i1 i2 ja jb,items <+: i1->i1 <+: i2->RA i1 ja->RB i2 jb->-1<=ja/\ja<(i2.length:Int)/\-1<=jb/\jb<(i2.length:Int)/\∀i3 j,i2 <+: i3->Low i3->i3[j]? =some ⟨duO op,0,ja,jb⟩->Rep i3 j S):
  Calls Tryz.prog 183 #[.pointer (some ⟨b,0,none⟩),.int .i64 (i:Int)] w (KeepR T0 w G b T rest items (IsN S)):=by
 obtain⟨a,n,cap,g,o,c0,hidx,x0,x1,x2,x3⟩:=h.at hx;have hb:=qc w (itO ⟨op,p,xa,xb⟩);have hne:((i:Int) == -1)=false:=by rw[bqn];omega
 have hbx:=(mha w (itO ⟨op,p,xa,xb⟩)).1;have hdu:op<256/\duO op<256:=by rcases ho with rfl|rfl|rfl|rfl|rfl|rfl|rfl|rfl|rfl|rfl<;>decide
 have hdual:=fun w=>q4y op w (by omega)
 have n2:=nqf op 2 (by omega)
 have n6:=nqf op 6 (by omega)
 have n17:=nqf op 17 (by omega)
 have n18:=nqf op 18 (by omega)
 have hwd:(w.alloc (itO ⟨op,p,xa,xb⟩)).drew.heap[w.heap.size]? =some (itO ⟨op,p,xa,xb⟩):=hbx;have hPd:PtO T0 (w.alloc (itO ⟨op,p,xa,xb⟩)).drew G b T rest items:=(h.up hb).up (Below.refl _ _).drew;have hn1:=hA _ _ _ (List.prefix_refl _) hPd;have HNB:=hiq hB;have HF0:Hid (Fr w (w.alloc (itO ⟨op,p,xa,xb⟩)).drew G G):=Fr.ofBelow hb.drew;have HBX:Hid _:=hwd;have HNG:Hid (¬G w.heap.size):=h.new;have HFIN:Hid _:=hfin;have HS:Hid _:=hS;have HDU:Hid _:=hdu.2;have cells:∀w':World,w'.heap[w.heap.size]? =some (itO ⟨op,p,xa,xb⟩)->w'.cell? ⟨w.heap.size,0,none⟩=some (.int .u8 (op:Int))/\w'.cell? ⟨w.heap.size,2,none⟩=some (.int .i64 xa)/\w'.cell? ⟨w.heap.size,3,none⟩=some (.int .i64 xb):=fun w' e=>⟨qb e 0,qb e 2,qb e 3⟩
 have HCL:Hid _:=cells;have hk0:=cells _ hwd;have hk00:=cells _ hbx;clear h hb hx ho hA hB hS hfin hdu cells hbx hwd hPd;unfold KeepR at *;unfold itO at *;dsimp only at *
 go_enter Tryz.func183,Tryz.ntmps183
 go_upto_region 40 with fail
 go_region_held3 (fun w'=>w'.cell? ⟨w.heap.size,0,none⟩=some (.int .u8 (op:Int))/\w'.cell? ⟨w.heap.size,2,none⟩=some (.int .i64 xa)/\w'.cell? ⟨w.heap.size,3,none⟩=some (.int .i64 xb)) (first|exact hk0|exact hk00|assumption|fail) (first
  | (go_at_call 184;(with_reducible refine (hdual _).mono ?_);rintro e w' ⟨rfl,rfl⟩)
  | (revert hn1;intro hn1;go_at_call 183;(with_reducible refine hn1.mono ?_);rintro e w1 ⟨ja,rfl,i1,G1,hp1,hr1,hP1,fr1⟩;have hbk1:=qh HBX.out HNG.out fr1;have hk1:=HCL.out _ hbk1.1;have hn2:=HNB.out _ _ _ hp1 hP1)
  | (revert hn2;intro hn2;go_at_call 183;(with_reducible refine hn2.mono ?_);rintro e w2 ⟨jb,rfl,i2,G2,hp2,hr2,hP2,fr2⟩;have hbk2:=qh hbk1.1 hbk1.2 fr2;have hk2:=HCL.out _ hbk2.1;have hz:=HFIN.out i1 i2 ja jb hp1 hp2 hr1 hr2;have hn3:=q2j hP2 ⟨duO op,0,ja,jb⟩ S HS.out (it_ok HDU.out hz.1 (by have:=hP2.few;omega) hz.2.2.1 (by have:=hP2.few;omega)) hz.2.1 hz.2.2.2.1 hz.2.2.2.2;unfold KeepR at hn3;rw[itV0]at hn3)
  | (revert hn3;intro hn3;go_at_call 122;(with_reducible refine hn3.mono ?_);rintro e w3 ⟨j3,rfl,hq3⟩;have hk3:w3.cell? ⟨w.heap.size,0,none⟩=some (.int .u8 (op:Int))/\w3.cell? ⟨w.heap.size,2,none⟩=some (.int .i64 xa)/\w3.cell? ⟨w.heap.size,3,none⟩=some (.int .i64 xb):=(by obtain⟨i4,G4,_,_,_,fr3⟩:=hq3;exact HCL.out _ (qh hbk2.1 hbk2.2 fr3).1);have HQ:Hid (KeepP T0 w G b T rest items (IsN S) j3 w3):=(hq3.trans (hp1.trans hp2) ((HF0.out.trans fr1).trans fr2)))
  |fail)
 all_goals
  clear hn1 hn2 hn3;go_wp2;go_ret
  exact⟨j3,rfl,HQ.out⟩
theorem qbk{T0:Tr}{w:World}{G:Nat->Prop}{b:Nat}{T:TypeId}{rest:List Value}{items:List It}(h:PtO T0 w G b T rest items)(i op p m:Nat)(xb:Int)(hx:items[i]? =some ⟨op,p,(m:Int),xb⟩)(ho:op=17\/op=18)(c d:Tr)(hm:Rep items m c)
  (hB:NgC T0 b T rest items xb (IsN d)) (hS:InC T0 (.bin (duO op,0) c d)):
  Calls Tryz.prog 183 #[.pointer (some ⟨b,0,none⟩),.int .i64 (i:Int)] w (KeepR T0 w G b T rest items (IsN (.bin (duO op,0) c d))):=by
 obtain⟨a,n,cap,g,o,c0,hidx,x0,x1,x2,x3⟩:=h.at hx;have hb:=qc w (itO ⟨op,p,(m:Int),xb⟩);have hne:((i:Int) == -1)=false:=by rw[bqn];omega
 have hbx:=(mha w (itO ⟨op,p,(m:Int),xb⟩)).1;have hdu:op<256/\duO op<256:=by rcases ho with rfl|rfl<;>decide
 have hdual:=fun w=>q4y op w (by omega)
 have n2:=nqf op 2 (by omega)
 have n6:=nqf op 6 (by omega)
 obtain⟨f17,hf17⟩:∃f:Bool,((op:Int)==17)=f:=⟨_,rfl⟩
 have n18:f17=false->((op:Int)==18)=true:=fun hf=>by
  rw[hf,bqn]at hf17;rw[beq_iff_eq];omega
 have hwd:(w.alloc (itO ⟨op,p,(m:Int),xb⟩)).drew.heap[w.heap.size]? =some (itO ⟨op,p,(m:Int),xb⟩):=hbx;have hPd:PtO T0 (w.alloc (itO ⟨op,p,(m:Int),xb⟩)).drew G b T rest items:=(h.up hb).up (Below.refl _ _).drew;have hn1:=hB _ _ _ (List.prefix_refl _) hPd;have HF0:Hid (Fr w (w.alloc (itO ⟨op,p,(m:Int),xb⟩)).drew G G):=Fr.ofBelow hb.drew;have HBX:Hid _:=hwd;have HNG:Hid (¬G w.heap.size):=h.new;have HM:Hid _:=hm;have HS:Hid _:=hS;have HDU:Hid _:=hdu.2;have cells:∀w':World,w'.heap[w.heap.size]? =some (itO ⟨op,p,(m:Int),xb⟩)->w'.cell? ⟨w.heap.size,0,none⟩=some (.int .u8 (op:Int))/\w'.cell? ⟨w.heap.size,2,none⟩=some (.int .i64 (m:Int))/\w'.cell? ⟨w.heap.size,3,none⟩=some (.int .i64 xb):=fun w' e=>⟨qb e 0,qb e 2,qb e 3⟩
 have HCL:Hid _:=cells;have hk0:=cells _ hwd;have hk00:=cells _ hbx;clear h hb hx ho hB hS hdu cells hbx hwd hPd hm;unfold KeepR at *;unfold itO at *;dsimp only at *
 cases f17 with
 |true=>
  clear n18;go_enter Tryz.func183,Tryz.ntmps183
  go_upto_region 40 with fail
  go_region_held3 (fun w'=>w'.cell? ⟨w.heap.size,0,none⟩=some (.int .u8 (op:Int))/\w'.cell? ⟨w.heap.size,2,none⟩=some (.int .i64 (m:Int))/\w'.cell? ⟨w.heap.size,3,none⟩=some (.int .i64 xb)) (first|exact hk0|exact hk00|assumption|fail) (first
   | (go_at_call 184;(with_reducible refine (hdual _).mono ?_);rintro e w' ⟨rfl,rfl⟩)
   | (revert hn1;intro hn1;go_at_call 183;(with_reducible refine hn1.mono ?_);rintro e w1 ⟨ja,rfl,i1,G1,hp1,hr1,hP1,fr1⟩;obtain⟨l1,rfl,hrl⟩:=hr1;have hbk1:=qh HBX.out HNG.out fr1;have hk1:=HCL.out _ hbk1.1;have hn2:=q1s hP1 (duO op) HDU.out m l1 c d (HM.out.pre hp1) hrl HS.out;unfold KeepR at hn2)
   | (revert hn2;intro hn2;go_at_call 182;(with_reducible refine hn2.mono ?_);rintro e w3 ⟨j3,rfl,hq3⟩;have hk3:w3.cell? ⟨w.heap.size,0,none⟩=some (.int .u8 (op:Int))/\w3.cell? ⟨w.heap.size,2,none⟩=some (.int .i64 (m:Int))/\w3.cell? ⟨w.heap.size,3,none⟩=some (.int .i64 xb):=(by obtain⟨i4,G4,_,_,_,fr3⟩:=hq3;exact HCL.out _ (qh hbk1.1 hbk1.2 fr3).1);have HQ:Hid (KeepP T0 w G b T rest items (IsN (.bin (duO op,0) c d)) j3 w3):=(hq3.trans hp1 (HF0.out.trans fr1)))
   |fail)
  all_goals
   clear hn1 hn2;go_wp2;go_ret
   exact⟨j3,rfl,HQ.out⟩
 |false=>
  have n18':=n18 rfl;clear n18;go_enter Tryz.func183,Tryz.ntmps183
  go_upto_region 40 with fail
  go_region_held3 (fun w'=>w'.cell? ⟨w.heap.size,0,none⟩=some (.int .u8 (op:Int))/\w'.cell? ⟨w.heap.size,2,none⟩=some (.int .i64 (m:Int))/\w'.cell? ⟨w.heap.size,3,none⟩=some (.int .i64 xb)) (first|exact hk0|exact hk00|assumption|fail) (first
   | (go_at_call 184;(with_reducible refine (hdual _).mono ?_);rintro e w' ⟨rfl,rfl⟩)
   | (revert hn1;intro hn1;go_at_call 183;(with_reducible refine hn1.mono ?_);rintro e w1 ⟨ja,rfl,i1,G1,hp1,hr1,hP1,fr1⟩;obtain⟨l1,rfl,hrl⟩:=hr1;have hbk1:=qh HBX.out HNG.out fr1;have hk1:=HCL.out _ hbk1.1;have hn2:=q1s hP1 (duO op) HDU.out m l1 c d (HM.out.pre hp1) hrl HS.out;unfold KeepR at hn2)
   | (revert hn2;intro hn2;go_at_call 182;(with_reducible refine hn2.mono ?_);rintro e w3 ⟨j3,rfl,hq3⟩;have hk3:w3.cell? ⟨w.heap.size,0,none⟩=some (.int .u8 (op:Int))/\w3.cell? ⟨w.heap.size,2,none⟩=some (.int .i64 (m:Int))/\w3.cell? ⟨w.heap.size,3,none⟩=some (.int .i64 xb):=(by obtain⟨i4,G4,_,_,_,fr3⟩:=hq3;exact HCL.out _ (qh hbk1.1 hbk1.2 fr3).1);have HQ:Hid (KeepP T0 w G b T rest items (IsN (.bin (duO op,0) c d)) j3 w3):=(hq3.trans hp1 (HF0.out.trans fr1)))
   |fail)
  all_goals
   clear hn1 hn2;go_wp2;go_ret
   exact⟨j3,rfl,HQ.out⟩
theorem qia{op:Nat}(h:op=0\/op=1\/op=4\/op=5):(kTr (.leaf (op,0))).2=.leaf (duO op,0):=by rcases h with rfl|rfl|rfl|rfl<;>rfl
theorem qib{op:Nat}(h:op=7\/op=8)(c:Tr):(kTr (.un (op,0) c)).2=.un (duO op,0) (kTr c).2:=by rcases h with rfl|rfl<;>rfl
theorem qic{op:Nat}(h:op=11\/op=12\/op=15\/op=16)(c d:Tr):(kTr (.bin (op,0) c d)).2=.bin (duO op,0) (kTr c).2 (kTr d).2:=by rcases h with rfl|rfl|rfl|rfl<;>rfl
theorem qid{op:Nat}(h:op=17\/op=18){c:Tr}(hc:KP c)(d:Tr):(kTr (.bin (op,0) c d)).2=.bin (duO op,0) c (kTr d).2:=by
 have e:=(q1w c hc.wf hc.kr).1;rcases h with rfl|rfl
 ·show Tr.bin (18,0) (kTr c).1 (kTr d).2=_;rw[e];rfl
 ·show Tr.bin (17,0) (kTr c).1 (kTr d).2=_;rw[e];rfl
theorem q29{T0:Tr}{b:Nat}{T:TypeId}{rest:List Value}:∀(S:Tr),KT S->S∈subL T0->∀(items:List It) (i:Nat),Rep items i S->NgC T0 b T rest items (i:Int) (IsN (kTr S).2)
 | .leaf (op,p),hS,hin,items,i,hi=>by
  intro w G i1 hp hP;have hi1:=hi.pre hp;have hneg:=q6l hin hS;rcases q1X hS with⟨rfl,_⟩|⟨rfl,ho⟩
  ·exact q9p hP i p hi1 hneg
  ·have hx:i1[i]? =some ⟨op,0,-1,-1⟩:=by cases hi1 with|leaf h=>exact h
   rw[qia ho]at hneg ⊢;refine q31 hP i op 0 (-1) (-1) hx (by omega) IsM IsM (fun _ _ _ _ hP=>q30 hP) (fun _ _ _ _ hP=>q30 hP) _ hneg ?_
   rintro j1 j2 ja jb _ _ rfl rfl
   exact⟨by omega,by omega,by omega,by omega,fun j3 j _ _ hj=>.leaf hj⟩
 | .un (op,p) c,hS,hin,items,i,hi=>by
  intro w G i1 hp hP;have hi1:=hi.pre hp;have hneg:=q6l hin hS;rcases kt_un hS with⟨rfl,⟨rfl,q,rfl⟩|⟨ho,hc⟩⟩
  ·exact qbj hP i _ hi1
  ·obtain⟨m,hx,hm⟩:∃m:Nat,i1[i]? =some ⟨op,0,(m:Int),-1⟩/\Rep i1 m c:=by cases hi1 with|un h h1 h2=>exact⟨_,h,h2⟩
   rw[qib ho]at hneg ⊢;refine q31 hP i op 0 (m:Int) (-1) hx (by omega) (IsN (kTr c).2) IsM (q29 c hc (q3r hin) i1 m hm) (fun _ _ _ _ hP=>q30 hP) _ hneg ?_
   rintro j1 j2 ja jb h1 h2 ⟨a,rfl,ha⟩ rfl
   have:=(ha.pre h2).lt
   exact⟨by omega,by omega,by omega,by omega,fun j3 j h3 hlow hj=>.un (k:=(duO op,0)) hj (qcH (k:=(duO op,0)) hlow hj) ((ha.pre h2).pre h3)⟩
 | .bin (op,p) c d,hS,hin,items,i,hi=>by
  intro w G i1 hp hP;have hi1:=hi.pre hp;have hneg:=q6l hin hS;obtain⟨rfl,ho⟩:=q1J hS;obtain⟨m,l,hx,hm,hl⟩:∃m l:Nat,i1[i]? =some ⟨op,0,(m:Int),(l:Int)⟩/\Rep i1 m c/\Rep i1 l d:=by cases hi1 with|bin h h1 h2 h3 h4=>exact⟨_,_,h,h3,h4⟩
  by_cases hw:op=17\/op=18
  ·obtain⟨kc,kd⟩:=q1z hS hw
   rw[qid hw kc]at hneg ⊢;exact qbk hP i op 0 m (l:Int) hx hw c (kTr d).2 hm (q29 d kd (q1m hin).2 i1 l hl) hneg
  ·obtain⟨kc,kd⟩:=qD hS (by omega)
   have ho4:op=11\/op=12\/op=15\/op=16:=by omega
   rw[qic ho4]at hneg ⊢;refine q31 hP i op 0 (m:Int) (l:Int) hx (by omega) (IsN (kTr c).2) (IsN (kTr d).2) (q29 c kc (q1m hin).1 i1 m hm) (q29 d kd (q1m hin).2 i1 l hl) _ hneg ?_
   rintro j1 j2 ja jb h1 h2 ⟨a,rfl,ha⟩ ⟨e,rfl,he⟩
   have:=(ha.pre h2).lt
   have:=he.lt
   refine⟨by omega,by omega,by omega,by omega,fun j3 j h3 hlow hj=>?_⟩
   obtain⟨u,v⟩:=q9S (k:=(duO op,0)) hlow hj;exact .bin (k:=(duO op,0)) hj u v ((ha.pre h2).pre h3) (he.pre h3)
def tkY (k:Tk):Nat:=k.1*8+k.2
def encY (ts:List Tk):List Value:=ts.map fun k=>.int .u8 (tkY k:Int)
theorem qgp(a b:List Tk):encY (a++b)=encY a++encY b:=by simp[encY]
structure GrowV (w w':World) (v v':Value):Prop where
 gr:w.grownBy w' v.ownBlock
 loc:v'.ownBlock=v.ownBlock\/∃k,v'.ownBlock=some k/\w.heap.size<=k
theorem GrowV.refl(w:World)(v:Value):GrowV w w v v:=⟨World.grownBy.refl _ _,Or.inl rfl⟩
theorem GrowV.ofBelow{w w':World}(v:Value)(h:Below w.heap.size w w'):GrowV w w' v v:=⟨⟨h.os,h.tape,h.output,h.size,fun k hk _=>h.block k hk⟩,Or.inl rfl⟩
theorem GrowV.trans{w w1 w2:World}{v v1 v2:Value}(h:GrowV w w1 v v1)(k:GrowV w1 w2 v1 v2):GrowV w w2 v v2:=by
 refine⟨⟨k.gr.os.trans h.gr.os,k.gr.tape.trans h.gr.tape,k.gr.output.trans h.gr.output,Nat.le_trans h.gr.size k.gr.size,fun j hj hn=>?_⟩,?_⟩
 ·refine (k.gr.block j (Nat.lt_of_lt_of_le hj h.gr.size) ?_).trans (h.gr.block j hj hn)
  rcases h.loc with e|⟨q,e,hq⟩
  ·rw[e];exact hn
  ·rw[e];intro e2;injection e2 with e2;omega
 ·rcases k.loc with e|⟨q,e,hq⟩
  ·rw[e]
   exact h.loc
  ·exact Or.inr ⟨q,e,Nat.le_trans h.gr.size hq⟩
def WrC (T0:Tr) (base:Nat) (G:Nat->Prop) (b:Nat) (T:TypeId) (rest:List Value) (items:List It) (a:Int) (ts:List Tk):Prop :=
 ∀(w:World) (v:Value) (xs:List Tk),base<=w.heap.size->PtO T0 w G b T rest items->w.ownsRow base 5 1 v xs.length (encY xs)->xs.length+ts.length<=60000000 ->
  Calls Tryz.prog 161 #[.pointer (some ⟨b,0,none⟩),v,.int .i64 a] w fun e w'=>∃v',e=.returned v'/\GrowV w w' v v'/\w'.ownsRow base 5 1 v' (xs++ts).length (encY (xs++ts))
theorem q2v{T0:Tr}{base:Nat}{G:Nat->Prop}{b:Nat}{T:TypeId}{rest:List Value}{items:List It}:WrC T0 base G b T rest items (-1) []:=by
 intro w v xs hb hP hO _;have HQ:Hid (w.ownsRow base 5 1 v (xs++[]).length (encY (xs++[]))):=by rw[List.append_nil];exact hO
 obtain⟨a,cap,rfl⟩:=qM hO;clear hP hO;generalize xs.length=n at *;go_enter Tryz.func161,Tryz.ntmps161
 go_wp2;go_ret
 exact⟨_,rfl,GrowV.refl _ _,HQ.out⟩
theorem qbN:(Tryz.prog.info? 5).map (fun i=>(i.zero,i.size,i.bytes))=some (some (.int .u8 0),1,1):=by kernel_rfl
theorem qhl{op p:Nat}(ho:op<=23)(hp:p<=7):bits .or .u8 ((op:Int)*8) (p:Int)=((op*8+p:Nat):Int):=by
 rcases q2y ho with rfl|rfl|rfl|rfl|rfl|rfl|rfl|rfl|rfl|rfl|rfl|rfl|rfl|rfl|rfl|rfl|rfl|rfl|rfl|rfl|rfl|rfl|rfl|rfl <;>
 ·have:p=0\/p=1\/p=2\/p=3\/p=4\/p=5\/p=6\/p=7:=by omega
  rcases this with rfl|rfl|rfl|rfl|rfl|rfl|rfl|rfl<;>decide
theorem q2w{T0:Tr}{base:Nat}{G:Nat->Prop}{b:Nat}{T:TypeId}{rest:List Value}{items:List It}(hG:∀k,G k->k<base)(i op p:Nat)(xa xb:Int)(hx:items[i]? =some ⟨op,p,xa,xb⟩)(ho:op<=23)(hp:p<=7)(ta tb:List Tk)
  (hA:WrC T0 base G b T rest items xa ta) (hB:WrC T0 base G b T rest items xb tb):WrC T0 base G b T rest items (i:Int) (ta++tb++[(op,p)]):=by
 intro w v xs hb hP hO hn;have hl:(ta++tb++[(op,p)]).length=ta.length+tb.length+1:=by simp[Nat.add_assoc]
 rw[hl]at hn;obtain⟨a,n,cap,g,o,c0,hidx,x0,x1,x2,x3⟩:=hP.at hx;have hbn:=qc w (itO ⟨op,p,xa,xb⟩);have hne:((i:Int) == -1)=false:=by rw[bqn];omega
 have hbx:=(MapKept.heap_alloc w (itO ⟨op,p,xa,xb⟩)).1;have hz:(w.alloc (itO ⟨op,p,xa,xb⟩)).heap.size=w.heap.size+1:=by simp
 have j1:=hA (w.alloc (itO ⟨op,p,xa,xb⟩)) v xs (by omega) (hP.up hbn) (q1b hO hbn) (by omega)
 have hge:=q3o hO;have hlt:=qS hO;have HP:Hid (∀w' v',GrowV w w' v v'->PtO T0 w' G b T rest items):=fun w' v' hg=>hP.far fun k hk=>hg.gr.block k (by have:=hG k hk;omega) (fun e=>by have:=hG k hk;have:=hge k e.symm;omega)
 have HBXK:Hid (∀w' v',GrowV (w.alloc (itO ⟨op,p,xa,xb⟩)) w' v v'->w'.heap[w.heap.size]? =some (itO ⟨op,p,xa,xb⟩)):=fun w' v' hg=>(hg.gr.block _ (by omega) (fun e=>by have:=hlt _ e.symm;omega)).trans hbx
 have HB:=hiq hB;have HG0:Hid (GrowV w (w.alloc (itO ⟨op,p,xa,xb⟩)) v v):=GrowV.ofBelow v hbn;have HTB:Hid (bits .or .u8 ((op:Int)*8) (p:Int)=((op*8+p:Nat):Int)):=qhl ho hp;have HN:=hiq hn;have HBS:=hiq hb;have HZ:Hid _:=hz;have a2:(w.alloc (itO ⟨op,p,xa,xb⟩)).cell? ⟨w.heap.size,2,none⟩=some (.int .i64 xa):=qb hbx 2;obtain⟨sa,scap,rfl⟩:=qM hO;clear hP hO hA hB hx hbn hbx hG hge hlt hn hl;generalize hvv:Value.slice sa xs.length scap=v at *;unfold itO at *;dsimp only at *
 go_enter Tryz.func161,Tryz.ntmps161
 go_wp2_with fail
 refine j1.mono ?_
 rintro e w1 ⟨v1,rfl,hg1,ho1⟩
 have hbx1:=HBXK.out w1 v1 hg1;have a3:w1.cell? ⟨w.heap.size,3,none⟩=some (.int .i64 xb):=qb hbx1 3;have hsz1:=hg1.gr.size;have j2:=HB.out w1 v1 (xs++ta) (by have:=HZ.out;have:=HBS.out;omega) (HP.out w1 v1 (HG0.out.trans hg1)) ho1 (by have:=HN.out;simp;omega)
 have HG1:Hid _:=hg1;clear j1 hg1 ho1 hbx1 a2 c0 hidx x0 x1 x2 x3 hsz1
 go_wp2_with fail
 refine j2.mono ?_
 rintro e w2 ⟨v2,rfl,hg2,ho2⟩
 have HGA:Hid _:=HG1.out.trans hg2;have HG2:Hid (GrowV w w2 v v2):=HG0.out.trans HGA.out;have hbx2:=HBXK.out w2 v2 HGA.out;have b0:w2.cell? ⟨w.heap.size,0,none⟩=some (.int .u8 (op:Int)):=qb hbx2 0;have b1:w2.cell? ⟨w.heap.size,1,none⟩=some (.int .u8 (p:Int)):=qb hbx2 1;obtain⟨sb,bcap,rfl⟩:=qM ho2;have HO2:Hid _:=ho2;have hL:(xs++ta++tb).length<=60000000:=by have:=HN.out;simp;omega
 have HS2:Hid (w.heap.size<=w2.heap.size):=HG2.out.gr.size;clear j2 hg2 ho2 hbx2 a3;generalize hLL:(xs++ta++tb).length=L at *;have HL:Hid _:=hLL;clear hLL;have hY:∀y:Int,(w2.alloc (.cells #[.int .u8 y] 5)).cell? ⟨w2.heap.size,0,none⟩=some (.int .u8 y):=fun y=>qb (mha w2 _).1 0
 have hOY:∀y:Int,(w2.alloc (.cells #[.int .u8 y] 5)).ownsRow base 5 1 (.slice sb L bcap) L (encY (xs++ta++tb)):=fun y=>World.ownsRow.alloc HO2.out _
 go_wp2_with (at_builtin;refine q2z Tryz.underlying187 qbN rfl (by decide) rfl _ _ rfl base _ L (encY (xs++ta++tb)) _ w2.heap.size rfl rfl (hOY _) (hY _) rfl (by omega) (by have:=HBS.out;have:=HS2.out;simp;omega) ?_)
 intro v3 w3 hown3 hgr3 hloc3;have e3:=HTB.out;rw[e3]at hown3 hgr3
 have HO3:Hid (w3.ownsRow base 5 1 v3 (xs++(ta++tb++[(op,p)])).length (encY (xs++(ta++tb++[(op,p)])))):=by
  have e:xs++(ta++tb++[(op,p)])=xs++(ta++tb)++[(op,p)]:=by simp
  have e2:(xs++(ta++tb)).length=L:=by have:=HL.out;simpa using this
  show w3.ownsRow _ _ _ _ _ _
  rw[e,qgp,List.length_append,e2];exact hown3
 have hbn:=qc w2 (.cells #[.int .u8 ((op*8+p:Nat):Int)] 5);have HG3:Hid (GrowV w w3 v v3):=HG2.out.trans ((GrowV.ofBelow _ hbn).trans ⟨hgr3,hloc3.imp id fun e=>⟨_,e,by simp⟩⟩)
 obtain⟨s3,cap3,rfl⟩:=qM HO3.out;clear hown3 hgr3 hloc3 hbn hY hOY HO2 e3;go_wp2;go_ret
 exact⟨_,rfl,HG3.out,HO3.out⟩
theorem q2d{T0:Tr}{base:Nat}{G:Nat->Prop}{b:Nat}{T:TypeId}{rest:List Value}{items:List It}(hG:∀k,G k->k<base):∀(S:Tr),S.WF->∀i,Rep items i S->WrC T0 base G b T rest items (i:Int) S.flat
 | .leaf (op,p),hw,i,hi=>by
  have hx:items[i]? =some ⟨op,p,-1,-1⟩:=by cases hi with|leaf h=>exact h
  have hs:=q1V _ hw (op,p) (by simp[Tr.flat])
  exact q2w hG i op p (-1) (-1) hx hs.1 hs.2 [] [] q2v q2v
 | .un (op,p) c,hw,i,hi=>by
  obtain⟨m,hx,hm⟩:∃m:Nat,items[i]? =some ⟨op,p,(m:Int),-1⟩/\Rep items m c:=by cases hi with|un h h1 h2=>exact⟨_,h,h2⟩
  have hs:=q1V _ hw (op,p) (by simp[Tr.flat])
  have h:WrC T0 base G b T rest items (i:Int) (c.flat++[]++[(op,p)]):=q2w hG i op p (m:Int) (-1) hx hs.1 hs.2 c.flat [] (q2d hG c (qG hw).2.1 m hm) q2v;rw[List.append_nil]at h;exact h
 | .bin (op,p) c d,hw,i,hi=>by
  obtain⟨m,l,hx,hm,hl⟩:∃m l:Nat,items[i]? =some ⟨op,p,(m:Int),(l:Int)⟩/\Rep items m c/\Rep items l d:=by cases hi with|bin h h1 h2 h3 h4=>exact⟨_,_,h,h3,h4⟩
  have hs:=q1V _ hw (op,p) (by simp[Tr.flat])
  exact q2w hG i op p (m:Int) (l:Int) hx hs.1 hs.2 c.flat d.flat (q2d hG c (qz hw).2.1 m hm) (q2d hG d (qz hw).2.2.1 l hl)
theorem qen{w:World}{base n:Nat}{v:Value}{ts:List Tk}(h:w.ownsRow base 5 1 v n (encY ts))(hs:∀k∈ts,k.1<=23/\k.2<=7):(convert 187 9 v).run Tryz.prog w=.ok (.string ⟨(ts.map fun k=>UInt8.ofNat (k.1*8+k.2)).toArray⟩) w:=by
 have hl:ts.length=n:=by have:=h.1;simpa [encY] using this
 rcases h.2 with⟨rfl,h0⟩|⟨g,cap,cur,hv,hg,hcell,hnc,hcm,hsz,htk⟩
 ·obtain rfl:ts=[]:=List.eq_nil_of_length_eq_zero (by omega)
  rw[run_convert_bytes_string w 187 9 5 none 0 0 Tryz.underlying187 Tryz.underlying5 Tryz.underlying9];simp[Conv.bytesToString]
  rfl
 ·subst hv hl
  have e:ts.length=(ts.map fun k=>UInt8.ofNat (k.1*8+k.2)).length:=by simp
  have key:=run_convert_bytes_back (P:=Tryz.prog) w 187 9 5 ⟨g,0,none⟩ cap (ts.map fun k=>UInt8.ofNat (k.1*8+k.2)) Tryz.underlying187 Tryz.underlying5 Tryz.underlying9 (fun j hj=>by
   have hj':j<ts.length:=by simpa using hj
   have hk:(cur.toList.take (ts.length*1))[j]? =some (.int .u8 (tkY ts[j]:Int)):=by rw[htk];simp[encY,hj']
   rw[List.getElem?_take,if_pos (by omega)]at hk
   have hb:=hs _ (List.getElem_mem hj');rw[qg,Nat.zero_add];simp[World.cell?,hcell]
   have e2:(UInt8.ofNat (ts[j].1*8+ts[j].2)).toNat=tkY ts[j]:=by
    unfold tkY;simp
    omega
   rw[show cur[j]? =cur.toList[j]? by simp,hk,<-e2]
   simp)
  rw[<-e]at key;exact key
theorem q3c{w:World}{base e n i:Nat}{v:Value}{xs:List Value}(h:w.ownsRow base e 1 v n xs)(hi:i<n)(y:Value):∃g cap,v=.slice (some ⟨g,0,none⟩) n cap/\base<=g/\n<=cap/\w.cell? ⟨g,i,none⟩=xs[i]? /\ w.frozen? ⟨g,i,none⟩=false/\(w.setCell ⟨g,i,none⟩ y).ownsRow base e 1 v n (xs.set i y):=by
 obtain⟨hl,h⟩:=h;rcases h with⟨rfl,h0⟩|⟨g,cap,cur,rfl,hg,hcell,hnc,hcm,hsz,htk⟩
 ·omega
 ·have hcu:cur.toList.length=cap:=by simpa using hsz
  refine⟨g,cap,rfl,hg,hnc,?_,frozen_of_row w g i _ _ hcell,by simpa using hl,Or.inr ⟨g,cap,cur.setIfInBounds i y,rfl,hg,heap_setCell_same w g i _ _ y hcell,hnc,hcm,by simpa using hsz,?_⟩⟩
  ·rw[qb hcell i,<-htk,List.getElem?_take,if_pos (by omega)]
   simp
  ·rw[<-htk]
   simp[List.take_set]
theorem qja(S:Tr):txB S≠⟨#[]⟩:=by
 intro h;have h1:(S.flat.map fun k=>UInt8.ofNat (k.1*8+k.2)).toArray=#[]:=congrArg ByteArray.data h
 have h2:=congrArg Array.size h1;simp at h2
 have h3:=q37 S;have:=q7z S
 rw[h2]at h3;simp at h3
 omega
theorem q7A(S:Tr):(txB S).size=S.size:=by
 show (S.flat.map fun k=>UInt8.ofNat (k.1*8+k.2)).toArray.size=_
 simp[q37]
theorem PtR.setT{w:World}{b mp n i:Nat}{T:TypeId}{rest:List Value}{vi vt:Value}{items:List It}{texts:List ByteArray}{f:It->Option Nat}(h:PtR w b T rest vi mp vt items texts n f)(hi:i<texts.length)(s:ByteArray):
  ∃g cap,vt=.slice (some ⟨g,0,none⟩) texts.length cap/\texts.length<=cap/\w.cell? ⟨g,i,none⟩=some (.string texts[i])/\w.frozen? ⟨g,i,none⟩=false/\PtR (w.setCell ⟨g,i,none⟩ (.string s)) b T rest vi mp vt items (texts.set i s) n f/\Fr w (w.setCell ⟨g,i,none⟩ (.string s)) (FP b mp vi vt) (FP b mp vi vt):=by
 obtain⟨g,cap,rfl,_,hnc,hc,hz,ho⟩:=q3c h.rt hi (.string s);have hgb:b≠g:=fun e=>h.tb (by rw[e];rfl)
 have hgm:mp≠g:=fun e=>h.tm (by rw[e];rfl)
 have st:∀k,k≠g->(w.setCell ⟨g,i,none⟩ (.string s)).heap[k]? =w.heap[k]? := fun k hk=>Below.heap_setCell _ _ _ _ hk
 refine⟨g,cap,rfl,hnc,by rw[hc];simp[hi],hz,⟨h.ty,(st b hgb).trans h.blk,qs h.ri fun k hk=>st k (fun e=>h.it k hk (by rw[e];rfl)),?_,h.num.far (st mp hgm)⟩,rfl,rfl,rfl,by simp,fun k hk hF=>st k (fun e=>hF (Or.inr (Or.inr (Or.inr (by rw[e];rfl))))),fun _ hk=>Or.inl hk⟩
 rw[List.length_set,List.map_set];exact ho
def TextP (T0:Tr) (w:World) (G:Nat->Prop) (b:Nat) (T:TypeId) (rest:List Value) (items:List It) (w':World):Prop:=PtO T0 w' G b T rest items/\Fr w w' G G
theorem q4D{T0:Tr}{w:World}{G:Nat->Prop}{b:Nat}{T:TypeId}{rest:List Value}{items:List It}(h:PtO T0 w G b T rest items)(i:Nat)(S:Tr)(hi:Rep items i S)(hS:InC T0 S):
  Calls Tryz.prog 152 #[.pointer (some ⟨b,0,none⟩),.int .i64 (i:Int)] w fun e w'=>e=.returned (.string (txB S))/\TextP T0 w G b T rest items w':=by
 obtain⟨texts,hp,ht⟩:=h.ex;obtain⟨vi,mp,vt,hr,hG⟩:=hp.ex;have hil:i<texts.length:=by rw[hp.tl];exact hi.lt
 obtain⟨g,cap,rfl,hcap,hc,hz,hr2,fr2⟩:=hr.setT hil (txB S);have c2:=hr.c2
 have hidx:∀w',(Instr.indexAt 124 (.slice (some ⟨g,0,none⟩) texts.length cap) (.int .i64 (i:Int))).run Tryz.prog w'=.ok (.pointer (some ⟨g,i,none⟩)) w':=fun w'=>by
  simp[Instr.indexAt,run_underlying Tryz.underlying124,asIntOf,q1c (show (Tryz.prog.info? 9).map (·.size)=some 1 by kernel_rfl),hil,Result.andThen,go_sem,qg]
 have hk:=q3a h.t0.kt hS;have hw:S.WF:=by rcases hk with k|k<;>exact k.wf
 have hti:texts[i]? =some texts[i]:=lge hil
 rcases ht i S hi with h0|h1
 ·rw[hti]at h0
  injection h0 with h0;rw[h0]at hc;have hglt:∀k,G k->k<w.heap.size:=h.lt;have hsz:=(q55 h.t0.sz hS).1;have hfl:=q37 S;have hwr:=q2d (T0:=T0) (T:=T) (b:=b) (rest:=rest) hglt S hw i hi w.drew (.slice none 0 0) [] (Nat.le_refl _) (h.up (Below.refl _ _).drew) ⟨rfl,Or.inl ⟨rfl,rfl⟩⟩ (by simp;omega)
  have HW1:Hid (∀w1 v1,GrowV w.drew w1 (.slice none 0 0) v1->w1.ownsRow w.heap.size 5 1 v1 ([]++S.flat).length (encY ([]++S.flat))->(convert 187 9 v1).run Tryz.prog w1=.ok (.string (txB S)) w1/\w1.cell? ⟨b,2,none⟩=some (.slice (some ⟨g,0,none⟩) texts.length cap)/\w1.cell? ⟨g,i,none⟩=some (.string ⟨#[]⟩)/\w1.frozen? ⟨g,i,none⟩=false /\
    (w1.setCell ⟨g,i,none⟩ (.string (txB S))).cell? ⟨b,2,none⟩=some (.slice (some ⟨g,0,none⟩) texts.length cap)/\(w1.setCell ⟨g,i,none⟩ (.string (txB S))).cell? ⟨g,i,none⟩=some (.string (txB S))/\TextP T0 w G b T rest items (w1.setCell ⟨g,i,none⟩ (.string (txB S)))):=by
   intro w1 v1 hg1 ho1;have hb1:Below w.heap.size w w1:=⟨hg1.gr.os,hg1.gr.tape,hg1.gr.output,hg1.gr.size,fun k hk=>hg1.gr.block k hk (fun e=>by cases e)⟩
   have hr1:=hr.up hb1;obtain⟨g',cap',e,_,hc',hz',hr2',fr2'⟩:=hr1.setT hil (txB S);injection e with e1 e2 e3;injection e1 with e1;injection e1 with e1;subst e1 e3;obtain⟨cs,hcs⟩:∃cs,(w1.setCell ⟨g,i,none⟩ (.string (txB S))).heap[g]? =some (.cells cs 9 (0,0)):=qfI hr2'.rt rfl
   have hown:=q3c hr2'.rt (i:=i) (by rw[List.length_set];exact hil) (.string (txB S))
   obtain⟨g2,cap2,e2,_,_,hc2,_⟩:=hown;injection e2 with e2 _ _;injection e2 with e2;injection e2 with e2;subst e2;refine⟨qen ho1 (q1V S hw),hr1.c2,by rw[hc',h0],hz',hr2'.c2,by rw[hc2];simp[hil],⟨h.t0,h.low,h.cov,texts.set i (txB S),⟨hp.nd,by rw[List.length_set];exact hp.tl,hp.few,hp.ok,fun s hs=>?_,vi,mp,_,hr2',hG⟩,fun n S' hn=>?_⟩,?_⟩
   ·rcases List.mem_or_eq_of_mem_set hs with hs|rfl
    ·exact hp.tok s hs
    ·unfold SOk;rw[q7A];omega
   ·by_cases e:n=i
    ·subst e
     have:=Rep.tree hi hn
     subst this;exact Or.inr (by simp[hil])
    ·rw[List.getElem?_set_ne (fun h=>e h.symm)]
     exact ht n S' hn
   ·exact((Fr.ofBelow hb1).trans fr2').alike (fun k hk=>(hG k).2 hk) (fun k hk=>(hG k).1 hk)
  have hz0:((⟨#[]⟩:ByteArray).toList==([]:List UInt8))=true:=by rw[ByteArray.toList_eq];rfl
  clear h hp ht hr hr2 fr2 hG hi hS hk hw hti h0 hglt hsz hfl;generalize txB S=s at *;generalize S.flat=fl at *;generalize texts.length=L at *;go_enter Tryz.func152,Tryz.ntmps152
  go_upto_region 40 with fail
  go_region_with (first
   | (go_at_call 161;(with_reducible refine hwr.mono ?_);rintro e w1 ⟨v1,rfl,hg1,ho1⟩;have hq:=HW1.out w1 v1 hg1 ho1;have q1:=hq.1;have q0:=hq.2.1;have q2:=hq.2.2.1;have q3:=hq.2.2.2.1)
   |fail)
  all_goals
   have q4:=hq.2.2.2.2.1;have q5:=hq.2.2.2.2.2.1;have HQ:Hid _:=hq.2.2.2.2.2.2;clear hwr hq q0 q1 q2 q3 hg1 ho1 HW1 c2 hc hz;generalize w1.setCell ⟨g,i,none⟩ (.string s)=w2 at *;go_wp2;go_ret
   exact⟨rfl,HQ.out⟩
 ·rw[hti]at h1
  injection h1 with h1;rw[h1]at hc
  have hne:((txB S).toList==([]:List UInt8))=false:=by
   rw[bqn];intro e;refine qja S ?_
   have:(txB S).toList=(txB S).data.toList:=by rw[ByteArray.toList_eq]
   rw[this]at e;have e2:(txB S).data=#[]:=by simpa using e
   exact congrArg ByteArray.mk e2
  have HQ:Hid (TextP T0 w G b T rest items w):=⟨h,Fr.ofBelow (Below.refl _ _)⟩;clear h hp ht hr hr2 fr2 hG hi hS hk hw hti h1;generalize txB S=s at *;go_enter Tryz.func152,Tryz.ntmps152
  go_wp2;go_ret
  exact⟨rfl,HQ.out⟩
theorem q9B{w:World}{ops:Array Oper}{o:Oper}{a:Act}{K:Act->World->Prop}{Q:Exit->Act->World->Prop}{E:Prop}(hw:Region.wanted o (yielded ops a.tmps)=true)(m x:Operand)
  (ho:o.op=.call { callee:=.builtin .delete,args:=#[m,x],argTypes:=#[123,162] }) (b n:Nat) (f:It->Option Nat) (y:It) (hm:a.eval m=.map (some b)) (hx:a.eval x=itV y)
  (h:NumOf w b n f) (hy:ItOk y) (hf:(f y).isSome=true)
  (hK:∀w',NumOf w' b (n-1) (fun z=>if z=y then none else f z)->w.grownBy w' (some b)->K (a.put o.dst (.tuple #[])) w'):
  if Region.wanted o (yielded ops a.tmps)=true then Oper.wp Tryz.prog o a w K Q else E:=by
 rw[if_pos hw];obtain⟨w',hr,h1,h2⟩:=h.drop hy hf o.type;unfold Oper.wp execOp;simp only[ho,resolve,invoke,builtin,Sem.run_bind,Sem.run_pure,Result.andThen_ok,List.map_toArray,List.map_cons,List.map_nil,hm,hx,hr]
 exact hK w' h1 h2
def outI (items:List It) (n i:Nat) (y:It):Option Nat:=(posI items y).bind fun j=>if n<=j/\j<n+i then none else some j
theorem qfF(items:List It)(n:Nat)(y:It):posI items y=outI items n 0 y:=by
 unfold outI
 cases posI items y with
 |none=>rfl
 |some j=>simp only[Option.bind_some];rw[if_neg (by omega)]
theorem qfE{items:List It}(hn:items.Nodup){n i:Nat}(h:n+i<items.length)(y:It):(if y=items[n+i] then none else outI items n i y)=outI items n (i+1) y:=by
 unfold outI;by_cases e:y=items[n+i]
 ·rw[if_pos e,(q2J hn (j:=n+i)).2 (by rw[e];exact lge h)]
  simp only[Option.bind_some]
  rw[if_pos (by omega)]
 ·rw[if_neg e]
  cases hp:posI items y with
  |none=>rfl
  |some j=>
   have hj:=(q2J hn).1 hp;have:j≠n+i:=fun he=>e (by subst he;rw[lge h]at hj;injection hj with hj;exact hj.symm)
   simp only[Option.bind_some]
   by_cases c:n<=j/\j<n+i
   ·rw[if_pos c,if_pos (by omega)]
   ·rw[if_neg c,if_neg (by omega)]
theorem qeS{items:List It}(hn:items.Nodup){n i:Nat}(h:n+i<items.length):(outI items n i items[n+i]).isSome=true:=by
 unfold outI;rw[(q2J hn (j:=n+i)).2 (List.getElem?_eq_getElem h)];simp only[Option.bind_some]
 rw[if_neg (by omega)]
 rfl
theorem qgQ{items:List It}(hn:items.Nodup){n:Nat}(h:n<=items.length)(y:It):outI items n (items.length-n) y=posI (items.take n) y:=by
 unfold outI
 cases hp:posI items y with
 |none=>
  rw[q1R]at hp;exact(q1R.2 (fun hy=>hp (List.mem_of_mem_take hy))).symm
 |some j=>
  have hj:=(q2J hn).1 hp;have hl:=qij hp;simp only[Option.bind_some]
  by_cases c:j<n
  ·rw[if_neg (by omega)]
   refine ((q2J (hn.sublist (List.take_sublist _ _))).2 ?_).symm
   rw[List.getElem?_take,if_pos c];exact hj
  ·rw[if_pos (by omega)]
   refine (q1R.2 fun hy=>?_).symm
   obtain⟨i,hi⟩:=List.mem_iff_getElem?.1 hy;rw[List.getElem?_take]at hi;by_cases ci:i<n
   ·rw[if_pos ci]at hi
    have:=q3V hn hi hj
    omega
   ·rw[if_neg ci]at hi;cases hi
theorem qio{w:World}{a:Option Addr}{n cap m:Nat}{items:List It}(h:w.ownsRow 0 162 4 (.slice a n cap) n (encI items))(hl:items.length=n)(hm:m<=n):
  ∃a',(∀w',(Instr.sliceAt 122 (.slice a n cap) (some (.int .i64 (m:Int))) none none).run Tryz.prog w'=.ok (.slice a' (n-m) (cap-m)) w') /\
   ∀k (x:It),items[m+k]? =some x->∃g o,(∀w',(Instr.indexAt 122 (.slice a' (n-m) (cap-m)) (.int .i64 (k:Int))).run Tryz.prog w'=.ok (.pointer (some ⟨g,o,none⟩)) w') /\
    ∀w':World,w'.ownsRow 0 162 4 (.slice a n cap) n (encI items)->w'.cell? ⟨g,o,none⟩=some (.int .u8 (x.op:Int))/\w'.cell? ⟨g,o+1,none⟩=some (.int .u8 (x.p:Int))/\w'.cell? ⟨g,o+2,none⟩=some (.int .i64 x.a)/\w'.cell? ⟨g,o+3,none⟩=some (.int .i64 x.b):=by
 rcases h.2 with⟨e,e0⟩|⟨g,cap',cur,e,_,hcell,hnc,_,hsz,htk⟩
 ·injection e with e1 _ e3
  subst e1 e3 e0;obtain⟨a',h1,_⟩:=cut_n (P:=Tryz.prog) Tryz.underlying122 q1L none 0 0 m hm nlr (fun _=>rfl)
  exact⟨a',h1,fun k x hk=>absurd (List.getElem?_eq_some_iff.1 hk).1 (by omega)⟩
 ·injection e with e1 _ e3
  subst e1 e3;obtain⟨a',h1,_,h3⟩:=cut_n (P:=Tryz.prog) Tryz.underlying122 q1L (some ⟨g,0,none⟩) n cap m hm hnc (fun e=>by cases e)
  refine⟨a',h1,fun k x hx=>?_⟩
  obtain⟨hk,rfl⟩:=List.getElem?_eq_some_iff.1 hx;have ha:=h3 (by omega) _ rfl
  rw[qg,Nat.zero_add]at ha;subst ha;have hkn:k<n-m:=by omega
  refine⟨g,4*(m+k),fun w'=>?_,fun w' ho=>?_⟩
  ·simp[Instr.indexAt,run_underlying Tryz.underlying122,asIntOf,q1c q1L,hkn,Result.andThen,go_sem,qg,Nat.mul_comm]
  ·rcases ho.2 with⟨e,e0⟩|⟨g',cap',cur',e,_,hcell',hnc',_,hsz',htk'⟩
   ·cases e
   ·injection e with e1 _ e3
    injection e1 with e1;injection e1 with e1 _ _;subst e1
    have key:∀j,j<n*4->w'.cell? ⟨g,j,none⟩=(encI items)[j]? := fun j hj=>by
     rw[<-htk',List.getElem?_take,if_pos hj];simp[World.cell?,hcell']
    obtain⟨q0,q1,q2,q3⟩:=q4Z items (m+k) hk;refine⟨?_,?_,?_,?_⟩
    ·rw[key _ (by omega)];exact q0
    ·rw[key _ (by omega)];exact q1
    ·rw[key _ (by omega)];exact q2
    ·rw[key _ (by omega)];exact q3
structure Cut (w wr:World) (t mb L i n:Nat) (a:Option Addr) (cap:Nat) (items:List It):Prop where
 num:NumOf wr mb (L-i) (outI items n i)
 gr:w.grownBy wr (some mb)
theorem Cut.blk{w wr:World}{t mb i n cap:Nat}{a:Option Addr}{items:List It}(h:TabR w t a items.length cap mb items)(c:Cut w wr t mb items.length i n a cap items):wr.heap[t]? =some (.cells #[tbV t,.slice a items.length cap,.map (some mb)] 205 (0,0))/\wr.ownsRow 0 162 4 (.slice a items.length cap) items.length (encI items):=by
 obtain⟨es,cl,hmap⟩:=h.num.isMap;have hmt:t≠mb:=fun e=>by rw[<-e,h.blk]at hmap;cases hmap
 have hnm:(Value.slice a items.length cap).ownBlock≠some mb:=q4L h.row hmap (fun cs e=>by cases e)
 have st:∀k,k<w.heap.size->k≠mb->wr.heap[k]? =w.heap[k]? := fun k hk hne=>c.gr.block k hk (fun e=>hne (by injection e))
 exact⟨(st t (aes h.blk).1 hmt).trans h.blk,qs h.row fun k hk=>st k (qS h.row k hk) (fun e=>hnm (e ▸ hk))⟩
theorem qhB{w wr:World}{F:Nat->Prop}{t mb n cap:Nat}{a:Option Addr}{items:List It}(hI:TabI w F t items)(h:TabR w t a items.length cap mb items)(hF:∀k,F k↔(k=t\/k=mb\/(Value.slice a items.length cap).ownBlock=some k))(hn:n<=items.length)
  (c:Cut w wr t mb items.length (items.length-n) n a cap items):TabI (wr.setCell ⟨t,1,none⟩ (.slice a n cap)) F t (items.take n)/\Fr w (wr.setCell ⟨t,1,none⟩ (.slice a n cap)) F F:=by
 obtain⟨h1,h2⟩:=c.blk h;obtain⟨es,cl,hmap⟩:=c.num.isMap;have hmt:mb≠t:=fun e=>by rw[e,h1]at hmap;cases hmap
 have hne:(Value.slice a items.length cap).ownBlock≠some t:=q4L h2 h1 (fun cs e=>by injection e with _ e _;exact absurd e (by decide))
 have hlen:(items.take n).length=n:=by simp;omega
 obtain⟨a',cap',e,_,_,_,h4,h5⟩:=q4M h2 hn;injection e with e1 _ e3;subst e1 e3;rw[qfg]at h4;refine⟨⟨hI.nd.sublist (List.take_sublist _ _),by have:=hI.few;omega,fun x hx=>hI.ok x (List.mem_of_mem_take hx),.slice a n cap,mb,?_,?_,?_,fun k=>?_⟩,?_⟩
 ·rw[heap_setCell_same wr t 1 _ _ _ h1];rfl
 ·rw[hlen]
  refine qs h4 fun k hk=>Below.heap_setCell _ _ _ _ ?_
  dsimp only
  rintro rfl
  rw[h5]at hk;exact hne hk
 ·rw[hlen]
  have:=c.num
  rw[show items.length-(items.length-n)=n by omega]at this
  exact(this.far (Below.heap_setCell _ _ _ _ (by dsimp only;exact hmt))).alike fun y _=>qgQ hI.nd hn y
 ·rw[h5];exact hF k
 ·refine⟨c.gr.os,c.gr.tape,c.gr.output,by have:=c.gr.size;simpa using this,fun k hk hf=>?_,fun _ hk=>Or.inl hk⟩
  have hf':=fun e=>hf ((hF k).2 e)
  exact(Below.heap_setCell _ _ _ _ (by dsimp only;exact fun e=>hf' (Or.inl e))).trans (c.gr.block k hk (fun e=>hf' (Or.inr (Or.inl (by injection e)))))
theorem qbt{w:World}{F:Nat->Prop}{t:Nat}{items:List It}(h:TabI w F t items)(n:Nat)(hn:n<=items.length):
  Calls Tryz.prog 147 #[.pointer (some ⟨t,0,none⟩),.int .i64 (n:Int)] w fun e w'=>e=.returned (.tuple #[])/\TabI w' F t (items.take n)/\Fr w w' F F:=by
 obtain⟨a,cap,mb,hr,hF⟩:=h.read;have c1:=hr.c1;obtain⟨a',hcut,hat⟩:=qio hr.row rfl hn;have hpre:=fun w'=>pre_n (P:=Tryz.prog) Tryz.underlying122 q1L a items.length cap n hn hr.hc hr.nn w'
 have HR:Hid _:=hr;have HF:Hid _:=hF;have HI:Hid _:=h;have HAT:Hid _:=hat;have HC0:Hid (Cut w w t mb items.length 0 n a cap items):=⟨hr.num.alike fun y _=>qfF items n y,⟨rfl,rfl,rfl,nlr,fun _ _ _=>rfl⟩⟩
 have HN:=hiq hn;have hfew:=h.few;clear h hr hF hat hn;generalize hL:items.length=L at *;have HL:=hiq hL;clear hL;go_enter Tryz.func147,Tryz.ntmps147
 go_wp2
 go_loopw [13] (fun i wr=>∃k:Nat,k<=L-n/\i=.int .i64 k/\Hid (Cut w wr t mb L k n a cap items)) (fun i _=>(L-n)-(intOf i).toNat)
 case atStart=>exact⟨0,Nat.zero_le _,rfl,HC0⟩
 case round=>
  obtain⟨k,hk,rfl,HC⟩:=hrel;clear HC0 c1;by_cases hlt:k<L-n
  ·have hkl:n+k<items.length:=by have:=HL.out;omega
   have hx:items[n+k]? =some items[n+k]:=lge hkl
   have HX:Hid (ItOk items[n+k]):=HI.out.ok _ (List.getElem_mem hkl);have HTH:Hid ((outI items n k items[n+k]).isSome=true):=qeS HI.out.nd hkl;have HNX:Hid (∀y,(if y=items[n+k] then none else outI items n k y)=outI items n (k+1) y):=fun y=>qfE HI.out.nd hkl y
   obtain⟨g,o,hio,hcs⟩:=HAT.out k _ hx;have HB:Hid _:=(show Cut w wr t mb items.length k n a cap items by rw[HL.out];exact HC.out).blk (by rw[HL.out];exact HR.out)
   rw[HL.out]at HB;obtain⟨q0,q1,q2,q3⟩:=hcs wr HB.out.2;generalize items[n+k]=x at *;obtain⟨op,p,xa,xb⟩:=x;dsimp only at q0 q1 q2 q3
   clear hx hkl hcs;have hb1:=qc wr (.cells #[.int .u8 (op:Int),.int .u8 (p:Int),.int .i64 xa,.int .i64 xb] 162);have c2:(wr.alloc (.cells #[.int .u8 (op:Int),.int .u8 (p:Int),.int .i64 xa,.int .i64 xb] 162)).cell? ⟨t,2,none⟩=some (.map (some mb)):=qn (qb HB.out.1 2) hb1;have hnum:NumOf (wr.alloc (.cells #[.int .u8 (op:Int),.int .u8 (p:Int),.int .i64 xa,.int .i64 xb] 162)).drew mb (L-k) (outI items n k):=HC.out.num.far (hb1.block mb HC.out.num.lt);have HGR:Hid (w.grownBy (wr.alloc (.cells #[.int .u8 (op:Int),.int .u8 (p:Int),.int .i64 xa,.int .i64 xb] 162)).drew (some mb)):=⟨HC.out.gr.os,HC.out.gr.tape,HC.out.gr.output,by have:=HC.out.gr.size;simp;omega,fun j hj hne=>(hb1.block j (by have:=HC.out.gr.size;omega)).trans (HC.out.gr.block j hj hne)⟩
   clear hb1 HB HC;go_wp2
   go_upto_region 15 with fail
   go_region_law ((refine q9B rfl _ _ rfl mb (L-k) (outI items n k) ⟨op,p,xa,xb⟩ rfl rfl hnum HX.out HTH.out ?_;intro w6 hn6 hg6))
   all_goals
    have HC6:Hid (Cut w w6 t mb L (k+1) n a cap items):=by
     refine⟨?_,⟨hg6.os.trans HGR.out.os,hg6.tape.trans HGR.out.tape,hg6.output.trans HGR.out.output,Nat.le_trans HGR.out.size hg6.size,fun j hj hne=>(hg6.block j (Nat.lt_of_lt_of_le hj HGR.out.size) hne).trans (HGR.out.block j hj hne)⟩⟩
     rw[show L-(k+1)=L-k-1 by omega]
     exact hn6.alike fun y _=>HNX.out y
    clear hnum c2 hn6 hg6 HGR;go_wp2
    go_roundw
    case rel=>exact⟨k+1,by omega,by go_num,HC6⟩
    case measure=>simp[intOf]<;>omega
  ·obtain rfl:k=L-n:=by omega
   have HC':Hid (Cut w wr t mb items.length (items.length-n) n a cap items):=by show Cut _ _ _ _ _ _ _ _ _ _;rw[HL.out];exact HC.out
   have HR':Hid (TabR w t a items.length cap mb items):=by show TabR _ _ _ _ _ _ _;rw[HL.out];exact HR.out
   have hb:=HC'.out.blk HR'.out;rw[HL.out]at hb;have c1:wr.cell? ⟨t,1,none⟩=some (.slice a L cap):=qb hb.1 1;have z1:wr.frozen? ⟨t,1,none⟩=false:=frozen_of_row wr _ 1 _ _ hb.1;have HFIN:Hid _:=qhB HI.out HR'.out (by rw[HL.out];exact HF.out) (by rw[HL.out];exact HN.out) HC'.out
   clear hb HC';go_wp2
   go_end0
   exact⟨rfl,HFIN.out⟩
def TabB (t bx:Nat) (w:World) (G:Nat->Prop) (items:List It):Prop :=
 ∃F,TabI w F t items/\w.heap[bx]? =some (.cells #[tbV t] 178 (0,0))/\¬F bx/\∀k,G k↔(F k\/k=bx)
theorem TabB.lt{t bx:Nat}{w:World}{G:Nat->Prop}{items:List It}(h:TabB t bx w G items):(∀k,G k->k<w.heap.size)/\items.length<=4096:=by
 obtain⟨F,h1,h2,_,h4⟩:=h;refine⟨fun k hk=>?_,h1.few⟩
 rcases (h4 k).1 hk with hk|rfl
 ·exact h1.lt k hk
 ·exact(aes h2).1
theorem TabB.far{t bx:Nat}{w w':World}{G:Nat->Prop}{items:List It}(h:TabB t bx w G items)(hb:∀k,G k->w'.heap[k]? =w.heap[k]?):TabB t bx w' G items:=by
 obtain⟨F,h1,h2,h3,h4⟩:=h;exact⟨F,h1.far (fun k hk=>hb k ((h4 k).2 (Or.inl hk))),(hb bx ((h4 bx).2 (Or.inr rfl))).trans h2,h3,h4⟩
theorem TabB.fr{t bx:Nat}{w w':World}{F F' G:Nat->Prop}{items:List It}(h2:w.heap[bx]? =some (.cells #[tbV t] 178 (0,0)))(h3:¬F bx)(h4:∀k,G k↔(F k\/k=bx))(hT:TabI w' F' t items)(fr:Fr w w' F F'):∃G',TabB t bx w' G' items/\Fr w w' G G':=by
 have hl:=(aes h2).1
 refine⟨fun k=>F' k\/k=bx,⟨F',hT,(fr.keep bx hl h3).trans h2,fr.out h3 hl,fun k=>Iff.rfl⟩,⟨fr.os,fr.tape,fr.output,fr.size,fun k hk hg=>fr.keep k hk (fun hf=>hg ((h4 k).2 (Or.inl hf))),fun k hk=>?_⟩⟩
 rcases hk with hk|hk
 ·rcases fr.foot k hk with h|h
  ·exact Or.inl ((h4 k).2 (Or.inl h))
  ·exact Or.inr h
 ·exact Or.inl ((h4 k).2 (Or.inr hk))
def FindC (S:World->(Nat->Prop)->List It->Prop) (fd:Fnd) (fid bx:Nat):Prop:=∀(w:World) (G:Nat->Prop) (items:List It) (x:It),ItOk x->S w G items->Calls Tryz.prog fid #[itV x,.pointer (some ⟨bx,0,none⟩)] w fun e w'=>
 (∃r,fd items x=some r/\e=.returned (.tuple #[.int .i64 (r.2:Int),.bool true])/\∃G',S w' G' r.1/\Fr w w' G G')\/(fd items x=none/\e=.returned (.tuple #[.int .i64 0,.bool false])/\∃G',S w' G' items/\Fr w w' G G')
theorem q8e(t bx:Nat):FindC (TabB t bx) kpF 145 bx:=by
 intro w G items x hx hS;obtain⟨F,h1,h2,h3,h4⟩:=hS;obtain⟨a,cap,mb,hr,_⟩:=h1.read;have hb:=qc w (itO x);have hr1:=hr.up hb;have c1:=hr1.c1;have c2:=hr1.c2;have cb:(w.alloc (itO x)).cell? ⟨bx,0,none⟩=some (.pointer (some ⟨t,0,none⟩)):=qn (qb h2 0) hb;have hlk:=fun m=>(show NumOf ((w.alloc (itO x)).drewN m) mb items.length (posI items) from hr1.num).look hx
 have HFIN:Hid (∀w',Below (w.alloc (itO x)).heap.size (w.alloc (itO x)) w'->∃G',TabB t bx w' G' items/\Fr w w' G G'):=fun w' hw=>TabB.fr h2 h3 h4 (h1.up (qd hb hw)) (Fr.same (qd hb hw))
 have HFIN2:Hid (∀(w1 w':World) (F':Nat->Prop),Below (w.alloc (itO x)).heap.size (w.alloc (itO x)) w1->TabI w' F' t (items++[x])->Fr w1 w' F F'->∃G',TabB t bx w' G' (items++[x])/\Fr w w' G G'):=fun w1 w' F' hw hT fr=>by
  have hw1:=qd hb hw;refine TabB.fr h2 h3 h4 hT ⟨fr.os.trans hw1.os,fr.tape.trans hw1.tape,fr.output.trans hw1.output,Nat.le_trans hw1.size fr.size,fun k hk hf=>(fr.keep k (Nat.lt_of_lt_of_le hk hw1.size) hf).trans (hw1.block k hk),fun k hk=>?_⟩
  rcases fr.foot k hk with h|h
  ·exact Or.inl h
  ·exact Or.inr (Nat.le_trans hw1.size h)
 have HI:Hid (∀w',Below (w.alloc (itO x)).heap.size (w.alloc (itO x)) w'->TabI w' F t items):=fun w' hw=>h1.up (qd hb hw)
 have HX:Hid _:=hx;clear h1 h2 h3 h4 hr hr1 hb hx
 cases hp:posI items x with
 |some j=>
  have HP:Hid (kpF items x=some (items,j)):=by
   show _=_
   unfold kpF;rw[show items.findIdx? (· = x)=some j from hp]
  rw[hp]at hlk;clear hp HFIN2;obtain⟨op,p,xa,xb⟩:=x;unfold itV at hlk;unfold itO at c1 c2 cb HFIN hlk;dsimp only[Option.getD,Option.isSome]at c1 c2 cb HFIN hlk
  unfold itV;dsimp only
  go_enter Tryz.func145,Tryz.ntmps145
  go_upto_region 15 with fail
  go_quiet (fail)
  go_wp2;go_ret2
  exact Or.inl ⟨_,HP.out,rfl,HFIN.out _ (below_drewN (Below.refl _ _) _)⟩
 |none=>
  rw[hp]at hlk;by_cases hl:items.length=4096
  ·have HP:Hid (kpF items x=none):=by
    show _=_
    unfold kpF;rw[show items.findIdx? (· = x)=none from hp];simp only
    rw[if_pos hl]
   have hl':((items.length:Int)==4096)=true:=by rw[beq_iff_eq];omega
   clear hp hl;obtain⟨op,p,xa,xb⟩:=x;unfold itV at hlk;unfold itO at c1 c2 cb HFIN hlk;dsimp only[Option.getD,Option.isSome]at c1 c2 cb HFIN hlk
   unfold itV;dsimp only
   go_enter Tryz.func145,Tryz.ntmps145
   go_upto_region 15 with fail
   go_quiet (fail)
   go_wp2;go_ret2
   exact Or.inr ⟨HP.out,rfl,HFIN.out _ (below_drewN (Below.refl _ _) _)⟩
  ·have HP:Hid (kpF items x=some (items++[x],items.length)):=by
    show _=_
    unfold kpF;rw[show items.findIdx? (· = x)=none from hp];simp only
    rw[if_neg hl]
   have hadd:∀w',Below (w.alloc (itO x)).heap.size (w.alloc (itO x)) w'->_:=fun w' hw=>qbr (HI.out w' hw) x HX.out (q1R.1 hp) (by have:=(HI.out w' hw).few;omega)
   have hl':((items.length:Int)==4096)=false:=by rw[bqn];omega
   clear hp hl HFIN;obtain⟨op,p,xa,xb⟩:=x;unfold itV at hlk hadd;unfold itO at c1 c2 cb HFIN2 hlk hadd;dsimp only[Option.getD,Option.isSome]at c1 c2 cb HFIN2 hlk hadd
   unfold itV;dsimp only
   go_enter Tryz.func145,Tryz.ntmps145
   go_upto_region 15 with fail
   go_quiet (fail)
   have hw1:=below_drewN (Below.refl (w.alloc (.cells #[.int .u8 (op:Int),.int .u8 (p:Int),.int .i64 xa,.int .i64 xb] 162)).heap.size (w.alloc (.cells #[.int .u8 (op:Int),.int .u8 (p:Int),.int .i64 xa,.int .i64 xb] 162))) nq;have hadd1:=hadd _ hw1;clear hadd
   go_wp2_with fail
   refine hadd1.mono ?_
   rintro e w2 ⟨rfl,F2,hT2,fr2⟩
   have HG:Hid _:=HFIN2.out _ _ _ hw1 hT2 fr2;clear hadd1 hT2 fr2 hw1;go_wp2;go_ret2
   exact Or.inl ⟨_,HP.out,rfl,HG.out⟩
def encM (ns:List Nat):List Value:=ns.map fun n:Nat=>Value.int .i64 (n:Int)
theorem qfi(ks:List Nat)(m:Nat):(encM ks).take (m*1)=encM (ks.take m):=by simp[encM,List.map_take]
theorem q3w:(Tryz.prog.info? 3).map (·.size)=some 1:=by kernel_rfl
theorem q5n:(Tryz.prog.info? 3).map (fun i=>(i.zero,i.size,i.bytes))=some (some (.int .i64 0),1,8):=by kernel_rfl
theorem q8t{w:World}{base L m:Nat}{v:Value}{ns:List Nat}(h:w.ownsRow base 3 1 v L (encM ns))(hm:m<=L):
  ∃a cap b,v=.slice a L cap/\(∀w',(Instr.sliceAt 29 (.slice a L cap) none (some (.int .i64 (m:Int))) none).run Tryz.prog w'=.ok (.slice a m cap) w')/\w.ownsRow base 3 1 (.slice a m cap) m (encM (ns.take m))/\(∀w',(Instr.sliceAt 29 (.slice a L cap) (some (.int .i64 (m:Int))) none none).run Tryz.prog w'=.ok (.slice b (L-m) (cap-m)) w')/\NsSl w b (L-m) (cap-m) (ns.drop m)/\(Value.slice a m cap).ownBlock=v.ownBlock:=by
 have hlen:ns.length=L:=by have:=h.1;simpa [encM] using this
 obtain⟨a,cap,rfl,h1,h2,h3,h4,h0⟩:=q4M h hm;rw[qfi]at h4;obtain⟨b,h5,h6,h7⟩:=cut_n (P:=Tryz.prog) (T:=29) Tryz.underlying29 q3w a L cap m hm h1 h3;refine⟨a,cap,b,rfl,pre_n Tryz.underlying29 q3w a L cap m hm h1 h3,h4,h5,?_,h0⟩
 have had:∀k,k<L-m->∃g cur,a=some ⟨g,0,none⟩/\w.heap[g]? =some (.cells cur 3 (0,0))/\cur.toList.take (L*1)=encM ns/\adOf b k=⟨g,m+k,none⟩:=fun k hk=>by
  rcases h.2 with⟨e,e0⟩|⟨g,cap',cur,e,_,hcell,_,_,_,htk⟩
  ·omega
  ·injection e with e1 _ _
   subst e1;refine⟨g,cur,rfl,hcell,htk,?_⟩
   rw[h7 (by omega) _ rfl]
   simp[adOf,qg]
 refine⟨by simp[hlen],by omega,by omega,fun n k w' hk hn=>?_,fun k hk=>?_,fun k hk=>?_,h6⟩
 ·exact q1a Tryz.underlying29 q3w (fun e=>by have:=h6 e;omega) k w' hk
 ·obtain⟨g,cur,_,hcell,htk,e⟩:=had k hk
  rw[e,qb hcell];have:cur.toList[m+k]? =(encM ns)[m+k]? := by rw[<-htk,List.getElem?_take,if_pos (by omega)]
  rw[<-Array.getElem?_toList,this];have hmk:m+k<ns.length:=by omega
  simp[encM,List.getD_eq_getElem?_getD,hmk]
 ·obtain⟨g,cur,_,hcell,_,e⟩:=had k hk
  rw[e];exact(aes hcell).1
structure NumSt (S:World->(Nat->Prop)->List It->Prop) (fd:Fnd) (w wr:World) (G G1:Nat->Prop) (items items1:List It) (a:Option Addr) (len cap:Nat) (ts:List Tk) (v:Value) (st:List Nat) (k:Nat):Prop where
 s:S wr G1 items1
 fr:Fr w wr G G1
 tk:TkSl wr a len cap ts
 ap:0<len->∀x,a=some x->¬G1 x.block
 row:wr.ownsRow w.heap.size 3 1 v st.length (encM st)
 off:∀k,v.ownBlock=some k->¬G1 k
 ns:nS fd (ts.take k) (items,[])=some (items1,st)
 lt:∀j∈st,j<items1.length
 pre:∃l,items1=items++l
 few:st.length<=k
def EntersT (F:FuncId):Prop:=∀args w,(callFunc F args).run Tryz.prog w=.ok (.enter F args) w
theorem qhU{op p:Nat}{ns:List Nat}{N:Nat}(h1:op<256)(h2:p<256)(hN:N<=4096)(h:∀j∈ns,j<N):ItOk (itemOf (op,p) ns):=by
 match ns,h with
 | [],_=>exact⟨h1,h2,by show (-1:Int)<=-1;omega,by show (-1:Int)<100000000;omega,by show (-1:Int)<=-1;omega,by show (-1:Int)<100000000;omega⟩
 | [x],h=>
  have:=h x (by simp)
  exact⟨h1,h2,by show (-1:Int)<=(x:Int);omega,by show (x:Int)<100000000;omega,by show (-1:Int)<=-1;omega,by show (-1:Int)<100000000;omega⟩
 |x::y::_,h=>
  have:=h x (by simp)
  have:=h y (by simp)
  exact⟨h1,h2,by show (-1:Int)<=(x:Int);omega,by show (x:Int)<100000000;omega,by show (-1:Int)<=(y:Int);omega,by show (y:Int)<100000000;omega⟩
theorem Fr.trans'{w w1 w2:World}{F F1 F2:Nat->Prop}(h:Fr w w1 F F1)(k:Fr w1 w2 F1 F2):Fr w w2 F F2 :=
 ⟨k.os.trans h.os,k.tape.trans h.tape,k.output.trans h.output,Nat.le_trans h.size k.size,fun j hj hf=>(k.keep j (Nat.lt_of_lt_of_le hj h.size) (fun h1=>by
  rcases h.foot j h1 with e|e
  ·exact hf e
  ·omega)).trans (h.keep j hj hf),fun j hj=>by
  rcases k.foot j hj with e|e
  ·exact h.foot j e
  ·exact Or.inr (Nat.le_trans h.size e)⟩
theorem FindC.uni{S:World->(Nat->Prop)->List It->Prop}{fd:Fnd}{fid bx:Nat}(h:FindC S fd fid bx)(w:World)(G:Nat->Prop)(items:List It)(x:It)(hx:ItOk x)(hS:S w G items):Calls Tryz.prog fid #[itV x,.pointer (some ⟨bx,0,none⟩)] w fun e w'=>
  ∃(j:Nat) (f:Bool),e=.returned (.tuple #[.int .i64 (j:Int),.bool f])/\((f=true/\∃items',fd items x=some (items',j)/\∃G',S w' G' items'/\Fr w w' G G')\/(f=false/\fd items x=none/\∃G',S w' G' items/\Fr w w' G G')) :=
 (h w G items x hx hS).mono fun e w' hq=>by
  rcases hq with⟨⟨r,j⟩,h1,h2,h3⟩|⟨h1,h2,h3⟩
  ·exact⟨j,true,h2,Or.inl ⟨rfl,r,h1,h3⟩⟩
  ·exact⟨0,false,h2,Or.inr ⟨rfl,h1,h3⟩⟩
theorem q79(S:World->(Nat->Prop)->List It->Prop)(fd:Fnd)(fid bx:Nat)(hE:EntersT fid)(hFd:FindC S fd fid bx)(hP:FdOk fd)
  (hlt:∀{w G items},S w G items->(∀k,G k->k<w.heap.size)/\items.length<=4096) (hfar:∀{w w' G items},S w G items->(∀k,G k->w'.heap[k]? =w.heap[k]?)->S w' G items)
  (w:World) (G:Nat->Prop) (items:List It) (a:Option Addr) (len cap:Nat) (ts:List Tk) (T:Tr) (hS:S w G items) (hT:TkSl w a len cap ts) (hA:0<len->∀x,a=some x->¬G x.block)
  (hl:0<len) (hg:GGood ts T) (hf:fewL false ts=true):
  Calls Tryz.prog 144 #[.slice a len cap,.func (.func fid) #[] #[.pointer (some ⟨bx,0,none⟩)]] w fun e w'=>∃G' items',S w' G' items'/\Fr w w' G G'/\(∃l,items'=items++l)/\(∃k st,nS fd (ts.take k) (items,[])=some (items',st)) /\
   ((∃j st,nS fd ts (items,[])=some (items',st++[j])/\e=.returned (.tuple #[.int .i64 (j:Int),.bool true]))\/(nS fd ts (items,[])=none/\e=.returned (.tuple #[.int .i64 0,.bool false]))):=by
 have HS0:Hid (NumSt S fd w w G G items items a len cap ts (.slice none 0 0) [] 0):=⟨hS,Fr.same (Below.refl _ _),hT,hA,⟨rfl,Or.inl ⟨rfl,rfl⟩⟩,fun k hk=>(by cases hk),rfl,fun j hj=>(by simp at hj),⟨[],by simp⟩,Nat.le_refl _⟩
 have HLEN:Hid (ts.length=len):=hT.hlen;have HT0:Hid _:=hT;have HA0:Hid _:=hA;have HG:Hid _:=hg;have hl2:len<=2048:=by have:=hg.few;have:=hT.hlen;omega
 have HF:Hid _:=hf;have HFD:Hid _:=hFd;have HLT:Hid (∀{w G items},S w G items->(∀k,G k->k<w.heap.size)/\items.length<=4096):=hlt;have HFAR:Hid (∀{w w' G items},S w G items->(∀k,G k->w'.heap[k]? =w.heap[k]?)->S w' G items):=hfar;have HP:Hid _:=hP;unfold EntersT at hE;clear hS hT hA hg hf hFd hlt hfar hP;go_enter Tryz.func144,Tryz.ntmps144
 go_wp2
 go_loopw [4,5,6,12] (fun i b v c wr=>∃k:Nat,k<=len/\c=.int .i64 k/\∃(j:Nat) (f:Bool),i=.int .i64 (j:Int)/\b=.bool f/\∃G1 items1 st,Hid (NumSt S fd w wr G G1 items items1 a len cap ts v st k)/\Hid (0<k->f=true/\∃st',st=st'++[j])) (fun _ _ _ c _=>len-(intOf c).toNat)
 case atStart=>exact⟨0,Nat.zero_le _,rfl,0,false,rfl,rfl,G,items,[],HS0,fun h=>absurd h (by omega)⟩
 case round=>
  obtain⟨k,hk,rfl,j,f,rfl,rfl,G1,items1,st,HN,HJ⟩:=hrel;clear HS0;have hfw:=HN.out.few;by_cases hlt:k<len
  ·have hxl:k<ts.length:=by have:=HLEN.out;omega
   obtain⟨g1,o1,s1,hi1,hx0,hx1,hg1,_⟩:=HN.out.tk.at Tryz.underlying22 q1G k hlt;have hidx:=fun w'=>hi1 len w' hlt
   clear hi1;have HNX:Hid (nS fd (ts.take (k+1)) (items,[])=nStep fd (items1,st) ts[k]):=qi7 fd hxl HN.out.ns;have HOFF:Hid (nStep fd (items1,st) ts[k]=none->nS fd ts (items,[])=none):=fun h=>qiX fd (k:=k+1) (HNX.out.trans h)
   have hdep:takC ts[k]<=st.length:=by
    have:=(HG.out.ok k hxl).2
    rw[<-qfw fd (ts.take k) (items,[]) (items1,st) [] rfl HN.out.ns]at this;exact this
   obtain⟨b,hfa⟩:=qfl hxl HF.out;have hok:=HN.out.tk.ok ts[k] (List.getElem_mem hxl);generalize ts[k]=q at *;obtain⟨op,p⟩:=q;dsimp only at hx0 hx1 HNX hfa hok
   obtain⟨htn,h23,n3,n9,n10,n13,n14,_⟩:=q62 hfa;have hc:=q1S htn;clear hfa htn;have hTk:=fun w'=>q8f op w' h23 n3 n9 n10
   rw[<-hc]at hTk;have hn2:takC (op,p)<=2:=by rw[hc];exact q6t op
   have HSTEP:Hid (nStep fd (items1,st) (op,p)=(fd items1 (itemOf (op,p) (st.drop (st.length-takC (op,p))))).map fun r=>(r.1,st.take (st.length-takC (op,p))++[r.2])):=rfl
   clear hc;generalize takC (op,p)=n at *;obtain⟨M,hM⟩:∃M,M=st.length-n:=⟨_,rfl⟩
   rw[<-hM]at HSTEP;obtain⟨av,cv,bv,rfl,hpre,hown,hcut,hns,hob⟩:=q8t HN.out.row (m:=M) (by omega)
   rw[show st.length-M=n by omega]at hcut hns
   have HO:Hid _:=hown;have HOB:Hid _:=hob;have HIX:Hid (ItOk (itemOf (op,p) (st.drop M))):=qhU hok.1 hok.2 (HLT.out HN.out.s).2 (fun j hj=>HN.out.lt j (List.mem_of_mem_drop hj))
   have hb1:=qc wr (.cells #[.int .u8 (op:Int),.int .u8 (p:Int)] 90);have hwr:IntKind.i64.wrap ((st.length:Int)-(n:Int))=(M:Int):=by rw[IntKind.wrap_i64];omega
   have hML:M<=st.length:=by omega
   have HIT:Hid (∀w',Below wr.heap.size wr w'->Calls Tryz.prog 158 #[.agg #[.int .u8 (op:Int),.int .u8 (p:Int)],.slice bv n (cv-M)] w' fun e w''=>e=.returned (itV (itemOf (op,p) (st.drop M)))/\Below w'.heap.size w' w''):=fun w' hb=>q78 op p bv n (cv-M) (st.drop M) w' (hns.up hb) hn2
   have HFI:Hid (∀w',Below wr.heap.size wr w'->S w' G1 items1):=fun w' hb=>HFAR.out HN.out.s fun k hk=>hb.block k ((HLT.out HN.out.s).1 k hk)
   clear hns hown hob hM
   go_wp2_with (go_at_call 157;refine (hTk _).mono ?_;rintro e w' ⟨rfl,rfl⟩)
   have ct0:(wr.alloc (.cells #[.int .u8 (op:Int),.int .u8 (p:Int)] 90)).cell? ⟨wr.heap.size,0,none⟩=some (.int .u8 (op:Int)):=qb (MapKept.heap_alloc wr _).1 0;have ct1:(wr.alloc (.cells #[.int .u8 (op:Int),.int .u8 (p:Int)] 90)).cell? ⟨wr.heap.size,1,none⟩=some (.int .u8 (p:Int)):=qb (MapKept.heap_alloc wr _).1 1;have hitem:=HIT.out (wr.alloc (.cells #[.int .u8 (op:Int),.int .u8 (p:Int)] 90)).drew hb1.drew;have HB1:Hid _:=hb1.drew;have hz1:(wr.alloc (.cells #[.int .u8 (op:Int),.int .u8 (p:Int)] 90)).heap.size=wr.heap.size+1:=by simp
   clear hb1;generalize st.drop M=dk at *;generalize itemOf (op,p) dk=x at *
   go_region_with (first
    | (go_at_call 158;(with_reducible refine hitem.mono ?_);rintro e w2 ⟨rfl,hb2⟩;have hfind:=FindC.uni HFD.out w2 G1 items1 x HIX.out (HFI.out w2 (qd HB1.out hb2)))
    | ((with_reducible refine hfind.mono ?_);rintro e w3 ⟨j3,f3,rfl,hw3⟩)
    |fail)
   all_goals
    have HB2:Hid (Below wr.heap.size wr w2):=qd HB1.out hb2;clear hitem hfind hb2 HB1 ct0 ct1 HIT HFI hE hcut hpre hidx hx0 hx1 hTk;rcases hw3 with⟨rfl,items2,hfd,G2,hS2,fr2⟩|⟨rfl,hfd,G2,hS2,fr2⟩
    ·have HSTEP2:Hid (nS fd (ts.take (k+1)) (items,[])=some (items2,st.take M++[j3])):=by
      show _=_
      rw[HNX.out,HSTEP.out,hfd];rfl
     have hoff1:∀q,(Value.slice av M cv).ownBlock=some q->¬G1 q:=fun q hq=>HN.out.off q (HOB.out ▸ hq)
     have HO3:Hid (w3.ownsRow w.heap.size 3 1 (.slice av M cv) M (encM (st.take M))):=fr2.own (q1b HO.out HB2.out) hoff1;have hlt1:=qS HO.out;have HOFF3:Hid (∀q,(Value.slice av M cv).ownBlock=some q->¬G2 q):=fun q hq=>fr2.out (hoff1 q hq) (Nat.lt_of_lt_of_le (hlt1 q hq) HB2.out.size)
     have HFR:Hid (Fr w w3 G G2):=HN.out.fr.trans' ((Fr.same HB2.out).trans' fr2);have HTK:Hid (TkSl w3 a len cap ts):=fr2.tks (HN.out.tk.up HB2.out) HN.out.ap
     have HAP:Hid (0<len->∀x,a=some x->¬G2 x.block):=fun h x hx=>by
      subst hx;have:=(HN.out.tk.up HB2.out).lt h
      exact fr2.out (HN.out.ap h x rfl) this
     have HS3:Hid _:=hS2;obtain⟨l2,hl2'⟩:=HP.out.pre hfd;have hj3:j3<items2.length:=HP.out.lt hfd
     have HPRE:Hid (∃l,items2=items++l):=by
      obtain⟨l,hl⟩:=HN.out.pre;exact⟨l++l2,by rw[show items2=items1++l2 from hl2',hl,List.append_assoc]⟩
     have HLL:Hid (∀j∈st.take M++[j3],j<items2.length):=fun j hj=>by
      rcases List.mem_append.1 hj with hj|hj
      ·have:=HN.out.lt j (List.mem_of_mem_take hj)
       rw[show items2=items1++l2 from hl2',List.length_append];omega
      ·simp at hj;omega
     have HTL:Hid ((st.take M).length=M):=by show _=_;simp;omega
     have hz3:=fr2.size;have hwz:=HN.out.fr.size;have hw2z:=HB2.out.size;clear hfd hS2 fr2 hoff1 hlt1 HNX HSTEP HOFF HN HJ HO HOB hl2' HIX HB2;generalize st.take M=tk at *;have hc4:(w3.alloc (.cells #[.int .i64 (j3:Int)] 3)).cell? ⟨w3.heap.size,0,none⟩=some (.int .i64 (j3:Int)):=qb (MapKept.heap_alloc w3 _).1 0;have HO4:Hid ((w3.alloc (.cells #[.int .i64 (j3:Int)] 3)).ownsRow w.heap.size 3 1 (.slice av M cv) M (encM tk)):=World.ownsRow.alloc HO3.out _;have hz4:w.heap.size<=(w3.alloc (.cells #[.int .i64 (j3:Int)] 3)).heap.size:=by simp;omega
     go_wp2_with (at_builtin;refine qf8 Tryz.underlying29 q5n rfl (by decide) rfl _ _ rfl w.heap.size _ M (encM tk) (.int .i64 (j3:Int)) w3.heap.size rfl rfl HO4.out hc4 rfl (by omega) hz4 ?_)
     intro v4 w4 hown4 hgr4 hloc4;have hbn:=qc w3 (.cells #[.int .i64 (j3:Int)] 3);have hge:=q3o HO3.out;have hG2:=(HLT.out HS3.out).1;have hs4:=hgr4.size;have hsn:=hbn.size;have HFR4:Hid (Fr w w4 G G2):=⟨hgr4.os.trans (hbn.os.trans HFR.out.os),hgr4.tape.trans (hbn.tape.trans HFR.out.tape),hgr4.output.trans (hbn.output.trans HFR.out.output),by omega,fun q hq hg=>(hgr4.block q (by omega) (fun e=>by have:=hge q e.symm;omega)).trans ((hbn.block q (by omega)).trans (HFR.out.keep q hq hg)),HFR.out.foot⟩
     have HNEW:Hid (NumSt S fd w w4 G G2 items items2 a len cap ts v4 (tk++[j3]) (k+1)):=by
      refine⟨HFAR.out HS3.out fun q hq=>(hgr4.block q (by have:=hG2 q hq;omega) (fun e=>HOFF3.out q e.symm hq)).trans (hbn.block q (hG2 q hq)),HFR4.out,HFR4.out.tks HT0.out HA0.out,HAP.out,?_,fun q hq hg=>?_,HSTEP2.out,HLL.out,HPRE.out,?_⟩
      ·rw[List.length_append,HTL.out]
       unfold encM at hown4 ⊢;rw[List.map_append];exact hown4
      ·rcases hloc4 with e|e
       ·exact HOFF3.out q (e ▸ hq) hg
       ·rw[e]at hq;injection hq with hq;have:=hG2 q hg;omega
      ·rw[List.length_append,HTL.out];simp;omega
     clear hown4 hgr4 hloc4 hc4 HO4 HO3 hbn hge hG2;go_wp2
     go_roundw
     case rel=>exact⟨k+1,by omega,by go_num,j3,true,rfl,rfl,G2,items2,tk++[j3],HNEW,fun _=>⟨rfl,tk,rfl⟩⟩
     case measure=>simp[intOf]<;>omega
    ·have HNO:Hid (nS fd ts (items,[])=none):=HOFF.out (by rw[HSTEP.out,hfd];rfl)
     have HFR:Hid (Fr w w3 G G2):=HN.out.fr.trans' ((Fr.same HB2.out).trans' fr2);have HS3:Hid _:=hS2;have HPRE:Hid _:=HN.out.pre;have HSO:Hid _:=HN.out.ns;clear hfd hS2 fr2 HNX HSTEP HOFF HN HJ HO HOB HIX HB2;go_wp2;go_ret2
     exact⟨G2,items1,HS3.out,HFR.out,HPRE.out,⟨_,_,HSO.out⟩,Or.inr ⟨HNO.out,rfl⟩⟩
  ·obtain rfl:k=len:=by omega
   obtain⟨rfl,st',rfl⟩:=HJ.out hl
   have HYES:Hid (nS fd ts (items,[])=some (items1,st'++[j])):=by
    have:=HN.out.ns
    rw[List.take_of_length_le (by have:=HLEN.out;omega)]at this
    exact this
   have HFR:Hid _:=HN.out.fr;have HS3:Hid _:=HN.out.s;have HPRE:Hid _:=HN.out.pre;have HSO:Hid _:=HN.out.ns;clear HN HJ hfw;go_wp2;go_ret2
   exact⟨G1,items1,HS3.out,HFR.out,HPRE.out,⟨_,_,HSO.out⟩,Or.inl ⟨j,st',HYES.out,rfl⟩⟩
def TabT (w:World) (F:Nat->Prop) (t:Nat) (items:List It):Prop:=TabI w F t items/\TabIs items
theorem qgs:∀T:Tr,0<T.flat.length
 | .leaf _=>by simp[Tr.flat]
 | .un _ _=>by simp[Tr.flat]
 | .bin _ _ _=>by simp[Tr.flat];omega
structure Chkd (ts:List Tk):Prop where
 pos:0<ts.length
 few:fewL false ts=true
 good:∃T,GGood ts T
theorem chkd{ts:List Tk}(h:chkE ts=0):Chkd ts:=by
 obtain⟨hl,hk⟩:=q34.1 h;have hf:=((q4c ts).1 hk).1;obtain⟨T,hW,_,_,rfl⟩:=hk;exact⟨qgs T,hf,T,ggood hW hl⟩
theorem qhf{w w':World}{F:Nat->Prop}{t:Nat}{items:List It}(h:TabI w F t items)(hb:Below (w.alloc (.cells #[tbV t] 178)).heap.size (w.alloc (.cells #[tbV t] 178)) w'):TabB t w.heap.size w' (fun k=>F k\/k=w.heap.size) items:=by
 have hb1:=qc w (.cells #[tbV t] 178);refine⟨F,h.up (qd hb1 hb),(hb.block _ (by simp)).trans (MapKept.heap_alloc w _).1,fun hf=>?_,fun k=>Iff.rfl⟩
 have:=h.lt _ hf
 omega
theorem qcX{w w1 w2:World}{F G':Nat->Prop}{t:Nat}{items:List It}(hb:Below w.heap.size w w1)(hB:TabB t w.heap.size w2 G' items)(fr:Fr w1 w2 (fun k=>F k\/k=w.heap.size) G'):∃F',TabI w2 F' t items/\Fr w w2 F F':=by
 obtain⟨F',h1,_,_,h4⟩:=hB;refine⟨F',h1,fr.os.trans hb.os,fr.tape.trans hb.tape,fr.output.trans hb.output,Nat.le_trans hb.size fr.size,fun k hk hf=>(fr.keep k (Nat.lt_of_lt_of_le hk hb.size) (fun h=>?_)).trans (hb.block k hk),fun k hk=>?_⟩
 ·rcases h with h|h
  ·exact hf h
  ·omega
 ·rcases fr.foot k ((h4 k).2 (Or.inl hk)) with (h|h)|h
  ·exact Or.inl h
  ·exact Or.inr (by omega)
  ·exact Or.inr (Nat.le_trans hb.size h)
theorem q8X:EntersT 145:=fun _ _=>rfl
theorem qgE{items items':List It}{ts:List Tk}{st:List Nat}{j:Nat}(hl:items.length<=4096)(hc:chkE ts=0)(h:nS kpF ts (items,[])=some (items',st++[j])):keepE items ts=0/\keepI items ts=items'/\keepN items ts=j:=by
 rw[q9V ts (items,[]) hl]at h;by_cases c:(tkS ts (items,[])).1.length<=4096
 ·rw[if_pos c]at h
  injection h with h;have e1:kI items ts=items':=by unfold kI;rw[h]
  have e2:kN items ts=j:=by unfold kN;rw[h];simp
  have e0:keepE items ts=0:=by
   unfold keepE;rw[if_neg (by omega),if_neg (by unfold kI;omega)]
  exact⟨e0,by unfold keepI;rw[if_pos e0,e1],by unfold keepN;rw[if_pos e0,e2]⟩
 ·rw[if_neg c]at h;cases h
theorem qhV{items:List It}{ts:List Tk}(hl:items.length<=4096)(hc:chkE ts=0)(h:nS kpF ts (items,[])=none):keepE items ts=3/\keepI items ts=items/\keepN items ts=0:=by
 rw[q9V ts (items,[]) hl]at h;by_cases c:(tkS ts (items,[])).1.length<=4096
 ·rw[if_pos c]at h;cases h
 ·have e0:keepE items ts=3:=by
   unfold keepE;rw[if_neg (by omega),if_pos (by unfold kI;omega)]
  exact⟨e0,by unfold keepI;rw[if_neg (by omega)],by unfold keepN;rw[if_neg (by omega)]⟩
theorem qcE{items:List It}{ts:List Tk}(hc:chkE ts≠0):keepE items ts=chkE ts/\keepI items ts=items/\keepN items ts=0:=by
 have e0:keepE items ts=chkE ts:=by unfold keepE;rw[if_pos hc]
 exact⟨e0,by unfold keepI;rw[if_neg (by omega)],by unfold keepN;rw[if_neg (by omega)]⟩
theorem Fr.self{w w':World}{F:Nat->Prop}{t:Nat}{items:List It}(h:TabT w F t items)(hb:Below w.heap.size w w'):∃F',TabT w' F' t items/\Fr w w' F F':=⟨F,⟨h.1.up hb,h.2⟩,Fr.same hb⟩
theorem q4F{w:World}{F:Nat->Prop}{t:Nat}{items:List It}(a:Option Addr)(len cap:Nat)(ts:List Tk)(h:TabT w F t items)(hT:TkSl w a len cap ts)(hA:0<len->∀x,a=some x->¬F x.block):
  Calls Tryz.prog 119 #[.pointer (some ⟨t,0,none⟩),.slice a len cap] w fun e w'=>e=.returned (.tuple #[.int .i64 (keepN items ts:Int),.int .i64 (keepE items ts:Int)])/\∃F',TabT w' F' t (keepI items ts)/\Fr w w' F F':=by
 have hb1:=qc w (.cells #[tbV t] 178);obtain⟨aa,ca,mb,hr,_⟩:=(h.1.up hb1).read;have hm:=q3s hr;have HI:Hid _:=h;have hck:=q2M a len cap ts (w.alloc (.cells #[tbV t] 178)) (hT.up hb1);have cb:∀w',Below (w.alloc (.cells #[tbV t] 178)).heap.size (w.alloc (.cells #[tbV t] 178)) w'->w'.cell? ⟨w.heap.size,0,none⟩=some (.pointer (some ⟨t,0,none⟩)):=fun w' hb=>qn (qb (mha w _).1 0) hb
 have cb0:=cb _ (Below.refl _ _);by_cases hc:chkE ts=0
 ·have HC:Hid _:=hc
  have hck':=chkd hc;have HCK:Hid _:=hck';rw[hc]at hck;have HT:Hid _:=hT;have HA:Hid _:=hA;have HCB:Hid _:=cb;clear hT hA h hr cb hc hck' hb1;unfold tbV at hm hck cb0 HCB;go_enter Tryz.func119,Tryz.ntmps119
  go_wp2_with fail
  refine hm.mono ?_
  rintro e w1 ⟨rfl,hw1⟩
  obtain rfl:=hw1.symm
  go_wp2_with fail
  refine hck.mono ?_
  rintro e w2 ⟨rfl,hb2⟩
  have HB2:Hid (Below w.heap.size w w2):=qd (qc w _) hb2;have cb2:=HCB.out w2 hb2;obtain⟨a2,k2,m2,hr2,_⟩:=(HI.out.1.up HB2.out).read;have c1:=hr2.c1;obtain⟨T,hgood⟩:=HCK.out.good
  have hnum:=q79 (TabB t w.heap.size) kpF 145 w.heap.size q8X (q8e t w.heap.size) qiR TabB.lt TabB.far w2 (fun k=>F k\/k=w.heap.size) items a len cap ts T (qhf HI.out.1 hb2) (HT.out.up HB2.out) (fun hp x hx hg=>by
   rcases hg with hg|hg
   ·exact HA.out hp x hx hg
   ·subst hx;have:=HT.out.lt hp;omega) (by have:=HCK.out.pos;have:=HT.out.hlen;omega) hgood HCK.out.few
  clear hm hck hr2 hb2 cb0 HCB hgood
  go_wp2_with fail
  refine hnum.mono ?_
  rintro e w3 ⟨G3,items3,hB3,fr3,⟨l3,hl3⟩,⟨q3,st3,hq3⟩,(⟨j,st,hns,rfl⟩|⟨hns,rfl⟩)⟩
  ·obtain⟨k1,k2,k3⟩:=qgE HI.out.1.few HC.out hns
   have HK:Hid _:=And.intro k1 (And.intro k2 k3);obtain⟨F3,hI3,hf3⟩:=qcX HB2.out hB3 fr3;have HF:Hid _:=And.intro hI3 hf3;have HIS:Hid (TabIs (keepI items ts)):=(kept HI.out.2 k1).is;clear hnum hB3 fr3 hl3 hq3 hns k1 k2 k3 hI3 hf3 c1 cb2;go_wp2;go_ret2
   rw[HK.out.1,HK.out.2.2];exact⟨rfl,F3,⟨by rw[HK.out.2.1];exact HF.out.1,HIS.out⟩,HF.out.2⟩
  ·have HK:Hid _:=qhV HI.out.1.few HC.out hns
   obtain⟨F3,hI3,hf3⟩:=qcX HB2.out hB3 fr3;have HF:Hid _:=hf3
   have cb3:w3.cell? ⟨w.heap.size,0,none⟩=some (.pointer (some ⟨t,0,none⟩)):=by
    obtain⟨F',_,h2,_⟩:=hB3;exact qb h2 0
   have hcut:=qbt hI3 items.length (by rw[hl3];simp)
   rw[show items3.take items.length=items by rw[hl3];simp]at hcut
   clear hnum hB3 fr3 hl3 hq3 hns hI3 hf3 c1 cb2
   go_wp2_with fail
   refine hcut.mono ?_
   rintro e w4 ⟨rfl,hI4,fr4⟩
   have HI4:Hid _:=And.intro hI4 fr4;clear hcut hI4 fr4;go_wp2;go_ret2
   rw[HK.out.1,HK.out.2.2,HK.out.2.1];exact⟨rfl,F3,⟨HI4.out.1,HI.out.2⟩,HF.out.trans' HI4.out.2⟩
 ·have HK:Hid _:=qcE (items:=items) hc
  have hc':¬(chkE ts:Int)=0:=by omega
  have hc2:((chkE ts:Int)==0)=false:=by rw[bqn];exact hc'
  clear hT hA h hr cb hb1 hc;unfold tbV at hm hck cb0;generalize chkE ts=E at *;go_enter Tryz.func119,Tryz.ntmps119
  go_wp2_with fail
  refine hm.mono ?_
  rintro e w1 ⟨rfl,hw1⟩
  obtain rfl:=hw1.symm
  go_wp2_with fail
  refine hck.mono ?_
  rintro e w2 ⟨rfl,hb2⟩
  have HB2:Hid (Below w.heap.size w w2):=qd (qc w _) hb2;clear hm hck hb2 cb0;go_wp2;go_ret2
  rw[HK.out.1,HK.out.2.2,HK.out.2.1];exact⟨rfl,Fr.self HI.out HB2.out⟩
structure MidG (w w6:World) (g n g5 L c5 mb:Nat) (N:List Gd) (x:Gd) (v:Value):Prop where
 blk:w6.heap[g]? =some (stO g n (.slice (some ⟨g5,0,none⟩) (L+1) c5) mb)
 row:w6.ownsRow 0 57 3 (.slice (some ⟨g5,0,none⟩) (L+1) c5) (L+1) (encGd (N++[x]))
 num:NumG w6 mb L (posG N)
 os:w6.os=w.os
 tape:w6.tape=w.tape
 output:w6.output=w.output
 size:w.heap.size<=w6.heap.size
 keep:∀k,k<w.heap.size->k≠g->v.ownBlock≠some k->w6.heap[k]? =w.heap[k]?
 loc:v.ownBlock=some g5\/w.heap.size<=g5
theorem qi5{w w5:World}{g n cap mb:Nat}{a:Option Addr}{N:List Gd}(h:StRG w g n a N.length cap mb N)(x:Gd){g5 c5:Nat}
  (hg:(w.alloc (ndO x)).drew.grownBy w5 (Value.slice a N.length cap).ownBlock) (ho:w5.ownsRow 0 57 3 (.slice (some ⟨g5,0,none⟩) (N.length+1) c5) (N.length+1) (encGd (N++[x])))
  (hl:(Value.slice a N.length cap).ownBlock=some g5\/g5=(w.alloc (ndO x)).drew.heap.size):
  w5.heap[g]? =some (stO g n (.slice a N.length cap) mb)/\MidG w (w5.setCell ⟨g,2,none⟩ (.slice (some ⟨g5,0,none⟩) (N.length+1) c5)) g n g5 N.length c5 mb N x (.slice a N.length cap):=by
 have hb1:=qc w (ndO x);have hgl:=(aes h.blk).1
 have hne:(Value.slice a N.length cap).ownBlock≠some g:=q4K h.row h.blk (fun cs e=>by injection e with _ e _;exact absurd e (by decide))
 obtain⟨es,cl,hmap⟩:=h.num.isMap;have hnm:(Value.slice a N.length cap).ownBlock≠some mb:=q4K h.row hmap (fun cs e=>by cases e)
 have hmt:mb≠g:=fun e=>by rw[e,h.blk]at hmap;cases hmap
 have hz:(w.alloc (ndO x)).drew.heap.size=w.heap.size+1:=by simp
 have st:∀k,k<w.heap.size->(Value.slice a N.length cap).ownBlock≠some k->w5.heap[k]? =w.heap[k]? := fun k hk hn=>(hg.block k (by omega) (fun e=>hn e.symm)).trans (hb1.block k hk)
 have h5:=(st g hgl hne).trans h.blk;have hs5:=hg.size;refine⟨h5,⟨?_,?_,?_,hg.os,hg.tape,hg.output,?_,fun k hk hkt hkn=>?_,?_⟩⟩
 ·unfold stO at h5 ⊢
  rw[heap_setCell_same w5 g 2 _ _ _ h5];rfl
 ·refine q3W ho fun k hk=>Below.heap_setCell _ _ _ _ ?_
  dsimp only
  rintro rfl
  simp[Value.ownBlock]at hk
  subst hk;rcases hl with e|e
  ·exact hne e
  ·omega
 ·exact h.num.far ((Below.heap_setCell _ _ _ _ (by dsimp only;exact hmt)).trans (st mb h.num.lt hnm))
 ·simp;omega
 ·exact(Below.heap_setCell _ _ _ _ (by dsimp only;exact hkt)).trans (st k hk hkn)
 ·rcases hl with e|e
  ·exact .inl e
  ·right;omega
theorem qfQ{w w6 w7:World}{F:Nat->Prop}{g n cap mb:Nat}{a:Option Addr}{N:List Gd}(h:StG w F g n N)(hF:∀k,F k↔(k=g\/k=mb\/(Value.slice a N.length cap).ownBlock=some k)){x:Gd}(hx:GdOk x)(hn:x ∉ N)
  {g5 c5:Nat} (m:MidG w w6 g n g5 N.length c5 mb N x (.slice a N.length cap)) (hn7:NumG w7 mb (N.length+1) (fun y=>if y=x then some N.length else posG N y)) (hg:w6.drew.grownBy w7 (some mb)):
  ∃F',StG w7 F' g n (N++[x])/\Fr w w7 F F':=by
 have hsz:=m.size;have hs7:=hg.size;have hs7':w6.heap.size<=w7.heap.size:=hs7;obtain⟨es,cl,hmap⟩:=m.num.isMap;have hmt:g≠mb:=fun e=>by rw[<-e,m.blk]at hmap;cases hmap
 have hnm:(Value.slice (some ⟨g5,0,none⟩) (N.length+1) c5).ownBlock≠some mb:=q4K m.row hmap (fun cs e=>by cases e)
 have hgl:g<w6.heap.size:=(aes m.blk).1
 have st:∀k,k<w6.heap.size->k≠mb->w7.heap[k]? =w6.heap[k]? := fun k hk hne=>hg.block k hk (fun e=>hne (by injection e))
 refine⟨fun k=>k=g\/k=mb\/(Value.slice (some ⟨g5,0,none⟩) (N.length+1) c5).ownBlock=some k,⟨?_,?_,.slice (some ⟨g5,0,none⟩) (N.length+1) c5,mb,(st g hgl hmt).trans m.blk,?_,?_,fun k=>Iff.rfl⟩,?_⟩
 ·exact List.nodup_append.2 ⟨h.nd,by simp,fun a ha b hb=>by simp at hb;subst hb;exact fun e=>hn (e ▸ ha)⟩
 ·intro y hy
  rcases List.mem_append.1 hy with hy|hy
  ·exact h.ok y hy
  ·simp at hy;subst hy;exact hx
 ·rw[List.length_append]
  exact q3W m.row fun k hk=>st k (m.row.lt k hk).2 (fun e=>hnm (e ▸ hk))
 ·rw[List.length_append]
  exact hn7.alike fun y _=>qfR hn y
 ·refine⟨hg.os.trans m.os,hg.tape.trans m.tape,hg.output.trans m.output,by omega,fun k hk hf=>?_,fun k hk=>?_⟩
  ·have hf':=fun e=>hf ((hF k).2 e)
   exact(st k (by omega) (fun e=>hf' (Or.inr (Or.inl e)))).trans (m.keep k hk (fun e=>hf' (Or.inl e)) (fun e=>hf' (Or.inr (Or.inr e))))
  ·rcases hk with rfl|rfl|hk
   ·exact Or.inl ((hF k).2 (Or.inl rfl))
   ·exact Or.inl ((hF k).2 (Or.inr (Or.inl rfl)))
   ·simp[Value.ownBlock]at hk
    subst hk;rcases m.loc with e|e
    ·exact Or.inl ((hF _).2 (Or.inr (Or.inr e)))
    ·exact Or.inr e
def PlR (g n:Nat) (N:List Gd) (x:Gd) (F:Nat->Prop) (w:World) (e:Ending) (w':World):Prop:=e=.returned (.int .i64 (N.idxOf x:Int))/\∃F',StG w' F' g n (if x∈N then N else N++[x])/\Fr w w' F F'
theorem q7N{w:World}{F:Nat->Prop}{g n:Nat}{N:List Gd}(h:StG w F g n N)(x:Gd)(hx:GdOk x)(hN:N.length<=1000000):
  Calls Tryz.prog 136 #[.pointer (some ⟨g,0,none⟩),ndV x] w (PlR g n N x F w):=by
 obtain⟨a,cap,mb,hr,hF⟩:=h.read;have hb1:=qc w (ndO x);have hr1:=hr.up hb1;have c3:=hr1.c3;have hlk:=fun m=>(show NumG ((w.alloc (ndO x)).drewN m) mb N.length (posG N) from hr1.num).look hx
 have HB1:Hid _:=hb1;have HR:Hid _:=hr;have HF:Hid _:=hF;have HI:Hid _:=h;have HX:Hid _:=hx;have hbx:=(mha w (ndO x)).1;have HBX:Hid _:=hbx;by_cases hm:x∈N
 ·have HE:Hid (∀nq,PlR g n N x F w (.returned (.int .i64 (N.idxOf x:Int))) ((w.alloc (ndO x)).drewN nq)):=fun nq=>by
   refine⟨rfl,F,?_,Fr.ofBelow (below_drewN hb1 nq)⟩
   rw[if_pos hm];exact h.up (below_drewN hb1 nq)
  rw[q2n hm]at hlk;generalize PlR g n N x F w=Q at *;generalize N.idxOf x=j at *;clear h hr hr1 hF hx hb1 hbx hm HB1 HR HF HI HX HBX;obtain⟨P,lo,hi⟩:=x;unfold ndV at hlk;unfold ndO at c3 HE hlk;dsimp only[Option.getD,Option.isSome]at c3 HE hlk
  unfold ndV;dsimp only
  go_enter Tryz.func136,Tryz.ntmps136
  go_upto_region 15 with fail
  go_quiet (fail)
  go_wp2;exact HE.out _
 ·have HNM:Hid _:=hm
  have HQ0:Hid (∀e w',(e=.returned (.int .i64 (N.length:Int))/\∃F',StG w' F' g n (N++[x])/\Fr w w' F F')->PlR g n N x F w e w'):=fun e w' h=>by
   unfold PlR;rw[q9J hm,if_neg hm];exact h
  rw[q2g hm]at hlk;generalize PlR g n N x F w=Q at *;clear h hr hr1 hF hx hb1 hbx hm;obtain⟨P,lo,hi⟩:=x;unfold ndV at hlk;unfold ndO at c3 hlk HB1 HBX;dsimp only[Option.getD,Option.isSome]at c3 hlk HB1 HBX
  unfold ndV;dsimp only
  go_enter Tryz.func136,Tryz.ntmps136
  go_upto_region 15 with fail
  go_quiet (fail)
  have HBq:Hid _:=below_drewN HB1.out nq;have hbq:((w.alloc (.cells #[.int .i64 P,.int .i64 lo,.int .i64 hi] 57 (0,0))).drewN nq).heap[w.heap.size]? =some (.cells #[.int .i64 P,.int .i64 lo,.int .i64 hi] 57 (0,0)):=by simpa using HBX.out
  have HBXq:Hid _:=hbq;clear hlk c3 hbq HB1 HBX;generalize (w.alloc (.cells #[.int .i64 P,.int .i64 lo,.int .i64 hi] 57 (0,0))).drewN nq=w1 at *;have hr1:=HR.out.up HBq.out;have c2:=hr1.c2;have b0:w1.cell? ⟨w.heap.size,0,none⟩=some (.int .i64 P):=qb HBXq.out 0;have b1:w1.cell? ⟨w.heap.size,1,none⟩=some (.int .i64 lo):=qb HBXq.out 1;have b2:w1.cell? ⟨w.heap.size,2,none⟩=some (.int .i64 hi):=qb HBXq.out 2;have hO:(w1.alloc (.cells #[.int .i64 P,.int .i64 lo,.int .i64 hi] 57 (0,0))).drew.ownsRow 0 57 3 (.slice a N.length cap) N.length (encGd N):=World.ownsRow.alloc hr1.row _;have hB:(w1.alloc (.cells #[.int .i64 P,.int .i64 lo,.int .i64 hi] 57 (0,0))).drew.heap[w1.heap.size]? =some (ndO (P,lo,hi)):=(mha w1 _).1;have c2b:(w1.alloc (.cells #[.int .i64 P,.int .i64 lo,.int .i64 hi] 57 (0,0))).cell? ⟨g,2,none⟩=some (.slice a N.length cap):=qn c2 (qc w1 _);have HM:Hid _:=fun g5 c5 w5 q1 q2 q3=>qi5 (w5:=w5) hr1 (P,lo,hi) (g5:=g5) (c5:=c5) q1 q2 q3
  have HNE:Hid ((Value.slice a N.length cap).ownBlock≠some w.heap.size):=fun e=>by have:=(HR.out.row.lt _ e).2;omega
  have HI1:Hid _:=HI.out.up HBq.out;unfold ndO at HM;clear hr1;generalize hL:N.length=L at *;have HL:=hiq hL;clear hL
  go_upto_region 15 with fail
  go_region_law ((refine qbq rfl _ _ rfl 0 (.slice a L cap) L N (P,lo,hi) w1.heap.size rfl rfl hO hB (by omega) (Nat.zero_le _) ?_;intro g5 c5 w5 hown5 hgr5 hloc5;have m5:=HM.out g5 c5 w5 hgr5 hown5 hloc5;have c5':w5.cell? ⟨g,2,none⟩=some (.slice a L cap):=qb m5.1 2;have z5:w5.frozen? ⟨g,2,none⟩=false:=frozen_of_row w5 _ 2 _ _ m5.1))
  all_goals
   have HM6:Hid _:=m5.2;clear hO hB c2 c2b b0 b1 b2 c5' z5 m5 hown5 hgr5 hloc5;generalize w5.setCell ⟨g,2,none⟩ (.slice (some ⟨g5,0,none⟩) (L+1) c5)=w6 at *;have t3:w6.cell? ⟨g,3,none⟩=some (.map (some mb)):=qb HM6.out.blk 3;have hbx6:=(HM6.out.keep w.heap.size (World.block_lt_of_cell? _ _ (qb HBXq.out 0)) (fun e=>by have:=HI.out.lt g ((HF.out g).2 (.inl rfl));omega) HNE.out).trans HBXq.out
   have b0:w6.cell? ⟨w.heap.size,0,none⟩=some (.int .i64 P):=qb hbx6 0;have b1:w6.cell? ⟨w.heap.size,1,none⟩=some (.int .i64 lo):=qb hbx6 1;have b2:w6.cell? ⟨w.heap.size,2,none⟩=some (.int .i64 hi):=qb hbx6 2;obtain⟨w7,hrun,hn7,hg7⟩:=(show NumG w6.drew mb L (posG N) from HM6.out.num).put (by omega) (x:=(P,lo,hi)) HX.out (q2g HNM.out) L (by omega)
   unfold ndV at hrun;dsimp only at hrun
   have HN7:Hid _:=hn7;have HG7:Hid _:=hg7;clear hn7 hg7 hbx6
   go_upto_region 15 with fail
   go_region
   all_goals
    clear hrun t3 b0 b1 b2
    have HE:Hid (Q (.returned (.int .i64 (L:Int))) w7):=by
     have e:=HL.out;subst e;obtain⟨F',q1,q2⟩:=qfQ (x:=(P,lo,hi)) HI1.out HF.out HX.out HNM.out HM6.out HN7.out HG7.out;exact HQ0.out _ _ ⟨rfl,F',q1,(Fr.ofBelow HBq.out).trans q2⟩
    clear HQ0;go_wp2;exact HE.out
theorem q2h{P:Program}{e:TypeId}{s:Nat}(h:(P.info? e).map (·.size)=some s)(w:World):(sizeOf e).run P w=.ok s w:=by
 cases hq:P.info? e with
 |none=>simp[hq]at h
 |some i=>simp[hq]at h;simp[sizeOf,typeInfo,hq,h]
theorem qfd{P:Program}{T e:TypeId}{s:Nat}(hu:P.underlying T=some (.slice e))(hs:(P.info? e).map (·.size)=some s)(a:Option Addr)(n cap lo:Nat)(hl:lo<=n)(hc:n<=cap)(hn:a=none->cap=0):
  ∃a',(∀w,(Instr.sliceAt T (.slice a n cap) (some (.int .i64 (lo:Int))) none none).run P w=.ok (.slice a' (n-lo) (cap-lo)) w)/\(a'=none->cap-lo=0)/\(lo<n->∀x,a=some x->a'=some (x.add (lo*s))):=by
 cases a with
 |none=>
  have:=hn rfl
  subst this;obtain rfl:n=0:=by omega
  obtain rfl:lo=0:=by omega
  exact⟨none,fun w=>by simp[Instr.sliceAt,Instr.slice,run_underlying hu,q2h hs,go_sem],fun _=>rfl,fun hk=>absurd hk (by omega)⟩
 |some x=>
  by_cases hz:cap=lo
  ·refine⟨some x,fun w=>?_,(fun h=>by cases h),fun hk=>absurd hk (by omega)⟩
   have hz2:cap-lo=0:=by omega
   simp[Instr.sliceAt,Instr.slice,run_underlying hu,q2h hs,go_sem,hl,hz2]
   exact fun h=>absurd hz h
  ·refine⟨some (x.add (lo*s)),fun w=>?_,(fun h=>by cases h),fun _ y hy=>by injection hy with hy;rw[hy]⟩
   simp[Instr.sliceAt,Instr.slice,run_underlying hu,q2h hs,go_sem,hl]
   exact fun h=>absurd h hz
theorem qj6{P:Program}{T e:TypeId}{s:Nat}(hu:P.underlying T=some (.slice e))(hs:(P.info? e).map (·.size)=some s)(a:Option Addr)(n cap m:Nat)(hl:m<=n)(hc:n<=cap)(hn:a=none->cap=0)(w:World):
  (Instr.sliceAt T (.slice a n cap) none (some (.int .i64 (m:Int))) none).run P w=.ok (.slice a m cap) w:=by
 cases a with
 |none=>
  have:=hn rfl
  subst this;obtain rfl:n=0:=by omega
  obtain rfl:m=0:=by omega
  simp[Instr.sliceAt,Instr.slice,run_underlying hu,q2h hs,go_sem]
 |some x=>
  have hmc:m<=cap:=by omega
  simp[Instr.sliceAt,Instr.slice,run_underlying hu,q2h hs,go_sem,hmc]
theorem qgS{w:World}{base e size n m:Nat}{v:Value}{xs:List Value}(h:w.ownsRow base e size v n xs)(hm:m<=n):
  ∃a cap,v=.slice a n cap/\n<=cap/\cap<=maxLen/\(a=none->cap=0)/\w.ownsRow base e size (.slice a m cap) m (xs.take (m*size))/\(Value.slice a m cap).ownBlock=v.ownBlock:=by
 obtain⟨hl,h⟩:=h;have hms:m*size<=n*size:=Nat.mul_le_mul_right _ hm;rcases h with⟨rfl,rfl⟩|⟨g,cap,cur,rfl,hg,hcell,hnc,hcm,hsz,htk⟩
 ·obtain rfl:m=0:=by omega
  exact⟨none,0,rfl,Nat.le_refl _,Nat.zero_le _,fun _=>rfl,⟨by simp,Or.inl ⟨rfl,rfl⟩⟩,rfl⟩
 ·refine⟨some ⟨g,0,none⟩,cap,rfl,hnc,hcm,fun h=>(by cases h),⟨by simp;omega,Or.inr ⟨g,cap,cur,rfl,hg,hcell,by omega,hcm,hsz,?_⟩⟩,rfl⟩
  rw[<-htk,List.take_take,Nat.min_eq_left hms]
theorem qex(l:List Gd)(n:Nat):(encGd l).take (n*3)=encGd (l.take n):=by
 by_cases h:n<=l.length
 ·have e:encGd l=encGd (l.take n)++encGd (l.drop n):=by rw[<-q3O,List.take_append_drop]
  have hl:(encGd (l.take n)).length=n*3:=by rw[q2A,List.length_take,Nat.min_eq_left h]
  rw[e,<-hl,List.take_left]
 ·rw[List.take_of_length_le (by rw[q2A];omega),List.take_of_length_le (by omega)]
def MkRG (g m:Nat) (w:World) (e:Ending) (w':World):Prop:=∃bx bn,e=.returned (.func (.func 134) #[] #[.pointer (some ⟨bx,0,none⟩),.pointer (some ⟨bn,0,none⟩)])/\Below w.heap.size w w'/\w.heap.size<=bx/\w.heap.size<=bn /\
 w'.heap[bx]? =some (.cells #[.pointer (some ⟨g,0,none⟩)] 75 (0,0))/\w'.heap[bn]? =some (.cells #[.int .i64 (m:Int)] 3 (0,0))
theorem q8Z{w:World}{F:Nat->Prop}{g n:Nat}{N:List Gd}(h:StG w F g n N):Calls Tryz.prog 100 #[.pointer (some ⟨g,0,none⟩)] w (MkRG g N.length w):=by
 obtain⟨a,cap,mb,hr,_⟩:=h.read;have hb1:=qc w (.cells #[.pointer (some ⟨g,0,none⟩)] 75 (0,0));have c2:=(hr.up hb1).c2;have e1:=(MapKept.heap_alloc w (.cells #[.pointer (some ⟨g,0,none⟩)] 75 (0,0))).1;have cb:=qb e1 0;simp only[List.getElem?_toArray,List.getElem?_cons_zero]at cb
 have HE:Hid (MkRG g N.length w (.returned (.func (.func 134) #[] #[.pointer (some ⟨w.heap.size,0,none⟩),.pointer (some ⟨w.heap.size+1,0,none⟩)])) ((w.alloc (.cells #[.pointer (some ⟨g,0,none⟩)] 75 (0,0))).alloc (.cells #[.int .i64 (N.length:Int)] 3 (0,0)))):=by
  have hb2:=qc (w.alloc (.cells #[.pointer (some ⟨g,0,none⟩)] 75 (0,0))) (.cells #[.int .i64 (N.length:Int)] 3 (0,0));refine⟨_,_,rfl,qd hb1 hb2,Nat.le_refl _,Nat.le_succ _,(hb2.block _ (by simp)).trans e1,?_⟩
  have:=(mha (w.alloc (.cells #[.pointer (some ⟨g,0,none⟩)] 75 (0,0))) (.cells #[.int .i64 (N.length:Int)] 3 (0,0))).1
  simpa using this
 generalize MkRG g N.length w=Q at *;clear h hr hb1 e1;go_enter Tryz.func100,Tryz.ntmps100
 go_wp2;exact HE.out
theorem qiY{w:World}{a:Option Addr}{n cap m:Nat}{N:List Gd}(h:w.ownsRow 0 57 3 (.slice a n cap) n (encGd N))(hl:N.length=n)(hm:m<=n):
  ∃a',(∀w',(Instr.sliceAt 30 (.slice a n cap) (some (.int .i64 (m:Int))) none none).run Tryz.prog w'=.ok (.slice a' (n-m) (cap-m)) w') /\
   ∀k (x:Gd),N[m+k]? =some x->∃g o,(∀w',(Instr.indexAt 30 (.slice a' (n-m) (cap-m)) (.int .i64 (k:Int))).run Tryz.prog w'=.ok (.pointer (some ⟨g,o,none⟩)) w') /\
    ∀w':World,w'.ownsRow 0 57 3 (.slice a n cap) n (encGd N)->w'.cell? ⟨g,o,none⟩=some (.int .i64 x.1)/\w'.cell? ⟨g,o+1,none⟩=some (.int .i64 x.2.1)/\w'.cell? ⟨g,o+2,none⟩=some (.int .i64 x.2.2):=by
 rcases h.2 with⟨e,e0⟩|⟨g,cap',cur,e,_,hcell,hnc,_,hsz,htk⟩
 ·injection e with e1 _ e3
  subst e1 e3 e0;obtain⟨a',h1,_⟩:=qfd (P:=Tryz.prog) Tryz.underlying30 q1v none 0 0 m hm nlr (fun _=>rfl)
  exact⟨a',h1,fun k x hk=>absurd (List.getElem?_eq_some_iff.1 hk).1 (by omega)⟩
 ·injection e with e1 _ e3
  subst e1 e3;obtain⟨a',h1,_,h3⟩:=qfd (P:=Tryz.prog) Tryz.underlying30 q1v (some ⟨g,0,none⟩) n cap m hm hnc (fun e=>by cases e)
  refine⟨a',h1,fun k x hx=>?_⟩
  obtain⟨hk,rfl⟩:=List.getElem?_eq_some_iff.1 hx;have ha:=h3 (by omega) _ rfl
  rw[qg,Nat.zero_add]at ha;subst ha;have hkn:k<n-m:=by omega
  refine⟨g,3*(m+k),fun w'=>?_,fun w' ho=>?_⟩
  ·simp[Instr.indexAt,run_underlying Tryz.underlying30,asIntOf,q4n q1v,hkn,Result.andThen,go_sem,qg,Nat.mul_comm]
  ·rcases ho.2 with⟨e,e0⟩|⟨g',cap',cur',e,_,hcell',hnc',_,hsz',htk'⟩
   ·cases e
   ·injection e with e1 _ e3
    injection e1 with e1;injection e1 with e1 _ _;subst e1
    have key:∀j,j<n*3->w'.cell? ⟨g,j,none⟩=(encGd N)[j]? := fun j hj=>by
     rw[<-htk',List.getElem?_take,if_pos hj];simp[World.cell?,hcell']
    obtain⟨q0,q1,q2⟩:=q1p N (m+k) hk;refine⟨?_,?_,?_⟩
    ·rw[key _ (by omega)];exact q0
    ·rw[key _ (by omega)];exact q1
    ·rw[key _ (by omega)];exact q2
theorem q8c{w:World}{ops:Array Oper}{o:Oper}{a:Act}{K:Act->World->Prop}{Q:Exit->Act->World->Prop}{E:Prop}(hw:Region.wanted o (yielded ops a.tmps)=true)(m x:Operand)
  (ho:o.op=.call { callee:=.builtin .delete,args:=#[m,x],argTypes:=#[104,57] }) (b n:Nat) (f:Gd->Option Nat) (y:Gd) (hm:a.eval m=.map (some b)) (hx:a.eval x=ndV y)
  (h:NumG w b n f) (hy:GdOk y) (hf:(f y).isSome=true)
  (hK:∀w',NumG w' b (n-1) (fun z=>if z=y then none else f z)->w.grownBy w' (some b)->K (a.put o.dst (.tuple #[])) w'):
  if Region.wanted o (yielded ops a.tmps)=true then Oper.wp Tryz.prog o a w K Q else E:=by
 rw[if_pos hw];obtain⟨w',hr,h1,h2⟩:=h.drop hy hf o.type;unfold Oper.wp execOp;simp only[ho,resolve,invoke,builtin,Sem.run_bind,Sem.run_pure,Result.andThen_ok,List.map_toArray,List.map_cons,List.map_nil,hm,hx,hr]
 exact hK w' h1 h2
structure CutG (w wr:World) (mb L i n:Nat) (N:List Gd):Prop where
 num:NumG wr mb (L-i) (outG N n i)
 gr:w.grownBy wr (some mb)
theorem CutG.blk{w wr:World}{g n mb i m cap:Nat}{a:Option Addr}{N:List Gd}(h:StRG w g n a N.length cap mb N)(c:CutG w wr mb N.length i m N):wr.heap[g]? =some (stO g n (.slice a N.length cap) mb)/\wr.ownsRow 0 57 3 (.slice a N.length cap) N.length (encGd N):=by
 obtain⟨es,cl,hmap⟩:=h.num.isMap;have hmt:g≠mb:=fun e=>by rw[<-e,h.blk]at hmap;cases hmap
 have hnm:(Value.slice a N.length cap).ownBlock≠some mb:=q4K h.row hmap (fun cs e=>by cases e)
 have st:∀k,k<w.heap.size->k≠mb->wr.heap[k]? =w.heap[k]? := fun k hk hne=>c.gr.block k hk (fun e=>hne (by injection e))
 exact⟨(st g (aes h.blk).1 hmt).trans h.blk,q3W h.row fun k hk=>st k (h.row.lt k hk).2 (fun e=>hnm (e ▸ hk))⟩
theorem qgi{w wr:World}{F:Nat->Prop}{g n mb m cap:Nat}{a:Option Addr}{N:List Gd}(hI:StG w F g n N)(h:StRG w g n a N.length cap mb N)(hF:∀k,F k↔(k=g\/k=mb\/(Value.slice a N.length cap).ownBlock=some k))(hn:m<=N.length)
  (c:CutG w wr mb N.length (N.length-m) m N):StG (wr.setCell ⟨g,2,none⟩ (.slice a m cap)) F g n (N.take m)/\Fr w (wr.setCell ⟨g,2,none⟩ (.slice a m cap)) F F:=by
 obtain⟨h1,h2⟩:=c.blk h;obtain⟨es,cl,hmap⟩:=c.num.isMap;have hmt:mb≠g:=fun e=>by rw[e,h1]at hmap;cases hmap
 have hne:(Value.slice a N.length cap).ownBlock≠some g:=q4K h2 h1 (fun cs e=>by injection e with _ e _;exact absurd e (by decide))
 have hlen:(N.take m).length=m:=by simp;omega
 obtain⟨a',cap',e,_,_,_,h4,h5⟩:=qgS h2 hn;injection e with e1 _ e3;subst e1 e3;rw[qex]at h4;refine⟨⟨hI.nd.sublist (List.take_sublist _ _),fun x hx=>hI.ok x (List.mem_of_mem_take hx),.slice a m cap,mb,?_,?_,?_,fun k=>?_⟩,?_⟩
 ·unfold stO at h1 ⊢
  rw[heap_setCell_same wr g 2 _ _ _ h1];rfl
 ·rw[hlen]
  refine q3W h4 fun k hk=>Below.heap_setCell _ _ _ _ ?_
  dsimp only
  rintro rfl
  rw[h5]at hk;exact hne hk
 ·rw[hlen]
  have:=c.num
  rw[show N.length-(N.length-m)=m by omega]at this
  exact(this.far (Below.heap_setCell _ _ _ _ (by dsimp only;exact hmt))).alike fun y _=>qgP hI.nd hn y
 ·rw[h5];exact hF k
 ·refine⟨c.gr.os,c.gr.tape,c.gr.output,by have:=c.gr.size;simpa using this,fun k hk hf=>?_,fun _ hk=>Or.inl hk⟩
  have hf':=fun e=>hf ((hF k).2 e)
  exact(Below.heap_setCell _ _ _ _ (by dsimp only;exact fun e=>hf' (Or.inl e))).trans (c.gr.block k hk (fun e=>hf' (Or.inr (Or.inl (by injection e)))))
theorem q93{w:World}{F:Nat->Prop}{g n:Nat}{N:List Gd}(h:StG w F g n N)(m:Nat)(hn:m<=N.length)(bx bn:Nat)(hN:N.length<=1000000)
  (hbx:w.heap[bx]? =some (.cells #[.pointer (some ⟨g,0,none⟩)] 75 (0,0))) (hbn:w.heap[bn]? =some (.cells #[.int .i64 (m:Int)] 3 (0,0))) (hfx:¬F bx) (hfn:¬F bn):
  Calls Tryz.prog 134 #[.pointer (some ⟨bx,0,none⟩),.pointer (some ⟨bn,0,none⟩)] w fun e w'=>e=.returned (.tuple #[])/\StG w' F g n (N.take m)/\Fr w w' F F:=by
 obtain⟨a,cap,mb,hr,hF⟩:=h.read;have c2:=hr.c2;have x0:w.cell? ⟨bx,0,none⟩=some (.pointer (some ⟨g,0,none⟩)):=qb hbx 0;have n0:w.cell? ⟨bn,0,none⟩=some (.int .i64 (m:Int)):=qb hbn 0;obtain⟨a',hcut,hat⟩:=qiY hr.row rfl hn;have hpre:=fun w'=>qj6 (P:=Tryz.prog) Tryz.underlying30 q1v a N.length cap m hn hr.hc hr.nn w'
 have HR:Hid _:=hr;have HF:Hid _:=hF;have HI:Hid _:=h;have HAT:Hid _:=hat;have HC0:Hid (CutG w w mb N.length 0 m N):=⟨hr.num.alike fun y _=>qav N m y,⟨rfl,rfl,rfl,nlr,fun _ _ _=>rfl⟩⟩
 have HC1:Hid (∀nq,CutG w (w.drewN nq) mb N.length 0 m N):=fun nq=>⟨(show NumG (w.drewN nq) mb N.length (posG N) from hr.num).alike fun y _=>qav N m y,⟨rfl,rfl,rfl,nlr,fun _ _ _=>rfl⟩⟩
 have HN:=hiq hn
 have HBX:Hid (∀wr,w.grownBy wr (some mb)->wr.cell? ⟨bx,0,none⟩=some (.pointer (some ⟨g,0,none⟩))/\wr.cell? ⟨bn,0,none⟩=some (.int .i64 (m:Int))):=fun wr hg=>by
  have h1:bx≠mb:=fun e=>hfx ((hF bx).2 (.inr (.inl e)))
  have h2:bn≠mb:=fun e=>hfn ((hF bn).2 (.inr (.inl e)))
  exact⟨q1B x0 hg (fun e=>h1 (by injection e)),q1B n0 hg (fun e=>h2 (by injection e))⟩
 clear h hr hF hat hn hbx hbn hfx hfn;generalize hL:N.length=L at *;have HL:=hiq hL;clear hL;go_enter Tryz.func134,Tryz.ntmps134
 go_upto_region 15 with fail
 go_quiet (fail)
 have HC2:Hid _:=HC1.out nq;clear HC1;generalize w.drewN nq=w0 at *;go_wp2
 go_loopw [11] (fun i wr=>∃k:Nat,k<=L-m/\i=.int .i64 k/\Hid (CutG w wr mb L k m N)) (fun i _=>(L-m)-(intOf i).toNat)
 case atStart=>exact⟨0,Nat.zero_le _,rfl,HC2⟩
 case round=>
  obtain⟨k,hk,rfl,HC⟩:=hrel;clear HC0 HC2 c2 x0 n0;by_cases hlt:k<L-m
  ·have hkl:m+k<N.length:=by have:=HL.out;omega
   have hx:N[m+k]? =some N[m+k]:=lge hkl
   have HX:Hid (GdOk N[m+k]):=HI.out.ok _ (List.getElem_mem hkl);have HTH:Hid ((outG N m k N[m+k]).isSome=true):=qeR HI.out.nd hx;have HNX:Hid (∀y,(if y=N[m+k] then none else outG N m k y)=outG N m (k+1) y):=fun y=>qfD HI.out.nd hx y
   obtain⟨g1,o1,hio,hcs⟩:=HAT.out k _ hx;have HB:Hid _:=(show CutG w wr mb N.length k m N by rw[HL.out];exact HC.out).blk (by rw[HL.out];exact HR.out)
   rw[HL.out]at HB;obtain⟨q0,q1,q2⟩:=hcs wr HB.out.2;obtain⟨x0,_⟩:=HBX.out wr HC.out.gr;generalize N[m+k]=x at *;obtain⟨P,lo,hi⟩:=x;dsimp only at q0 q1 q2
   clear hx hkl hcs;have hb1:=qc wr (.cells #[.int .i64 P,.int .i64 lo,.int .i64 hi] 57);have c3:(wr.alloc (.cells #[.int .i64 P,.int .i64 lo,.int .i64 hi] 57)).cell? ⟨g,3,none⟩=some (.map (some mb)):=qn (qb HB.out.1 3) hb1;have x0b:=qn x0 hb1;have hnum:NumG (wr.alloc (.cells #[.int .i64 P,.int .i64 lo,.int .i64 hi] 57)).drew mb (L-k) (outG N m k):=HC.out.num.far (hb1.block mb HC.out.num.lt);have HGR:Hid (w.grownBy (wr.alloc (.cells #[.int .i64 P,.int .i64 lo,.int .i64 hi] 57)).drew (some mb)):=⟨HC.out.gr.os,HC.out.gr.tape,HC.out.gr.output,by have:=HC.out.gr.size;simp;omega,fun j hj hne=>(hb1.block j (by have:=HC.out.gr.size;omega)).trans (HC.out.gr.block j hj hne)⟩
   clear hb1 HB HC;go_wp2
   go_upto_region 15 with fail
   go_region_law ((refine q8c rfl _ _ rfl mb (L-k) (outG N m k) (P,lo,hi) rfl rfl hnum HX.out HTH.out ?_;intro w6 hn6 hg6))
   all_goals
    have HC6:Hid (CutG w w6 mb L (k+1) m N):=by
     refine⟨?_,⟨hg6.os.trans HGR.out.os,hg6.tape.trans HGR.out.tape,hg6.output.trans HGR.out.output,Nat.le_trans HGR.out.size hg6.size,fun j hj hne=>(hg6.block j (Nat.lt_of_lt_of_le hj HGR.out.size) hne).trans (HGR.out.block j hj hne)⟩⟩
     rw[show L-(k+1)=L-k-1 by omega]
     exact hn6.alike fun y _=>HNX.out y
    clear hnum c3 x0b hn6 hg6 HGR;go_wp2
    go_roundw
    case rel=>exact⟨k+1,by omega,by go_num,HC6⟩
    case measure=>simp[intOf]<;>omega
  ·obtain rfl:k=L-m:=by omega
   have HC':Hid (CutG w wr mb N.length (N.length-m) m N):=by show CutG _ _ _ _ _ _ _;rw[HL.out];exact HC.out
   have HR':Hid (StRG w g n a N.length cap mb N):=by show StRG _ _ _ _ _ _ _ _;rw[HL.out];exact HR.out
   have hb:=HC'.out.blk HR'.out;rw[HL.out]at hb;obtain⟨x0,n0⟩:=HBX.out wr HC.out.gr;have c2:wr.cell? ⟨g,2,none⟩=some (.slice a L cap):=qb hb.1 2;have z2:wr.frozen? ⟨g,2,none⟩=false:=frozen_of_row wr _ 2 _ _ hb.1;have HFIN:Hid _:=qgi HI.out HR'.out (by rw[HL.out];exact HF.out) (by rw[HL.out];exact HN.out) HC'.out
   clear hb HC'
   go_upto_region 15 with fail
   go_region
   all_goals
    clear hcut hpre x0 n0 c2 z2 HBX HAT;go_wp2
    go_end0
    exact⟨rfl,HFIN.out.1.up (Below.refl _ _).drew,HFIN.out.2.trans (Fr.ofBelow (Below.refl _ _).drew)⟩
def DeR (g n:Nat) (r:Int×List Gd) (F:Nat->Prop) (w:World) (e:Ending) (w':World):Prop:=e=.returned (.int .i64 r.1)/\∃F',StG w' F' g n r.2/\Fr w w' F F'
theorem q6Q(g n:Nat):∀(k M:Nat) (p:Int) (l:List Nat) (a:Option Addr) (c:Nat) (N:List Gd) (F:Nat->Prop) (w:World),M=2 ^ k->0<=p->p+k<=8->l.length=M->(∀v∈l,v<=1048575)->ZSl w a M c (l.map Int.ofNat)->(∀j,j<M->¬F (adOf a j).block)->StG w F g n N->N.length+M<=100000 ->
  Calls Tryz.prog 101 #[.pointer (some ⟨g,0,none⟩),.int .i64 p,.slice a M c] w (DeR g n (adM k p (fnL l) N) F w):=by
 intro k
 induction k with
 |zero=>
  intro M p l a c N F w hM hp0 hp8 hl hv hS hF hR hN;obtain rfl:M=1:=by simpa using hM
  have hce:=hS.cell 0 (by omega)
  have hidx:∀w',(Instr.indexAt 29 (.slice a 1 c) (.int .i64 0)).run Tryz.prog w'=.ok (.pointer (some (adOf a 0))) w':=fun w'=>by simpa using hS.idx 1 0 w' (by omega) (Nat.le_refl _)
  have hz:(l.map Int.ofNat).getD 0 0=((fnL l 0:Nat):Int):=by
   simp only[fnL,List.getD_eq_getElem?_getD,List.getElem?_map]
   rcases l[0]? with _|x<;>rfl
  have hb:fnL l 0<=1048575:=by
   simp only[fnL,List.getD_eq_getElem?_getD,List.getElem?_eq_getElem (show 0<l.length by omega),Option.getD_some]
   exact hv _ (List.getElem_mem _)
  rw[hz]at hce;have HE:Hid (DeR g n (adM 0 p (fnL l) N) F w (.returned (.int .i64 (-1-((fnL l 0:Nat):Int)))) w):=⟨rfl,F,hR,Fr.ofBelow (Below.refl _ _)⟩;generalize DeR g n (adM 0 p (fnL l) N) F w=Q at *;clear hz hR hF hS;generalize fnL l 0=z at *;have jo:=fun w=>q5l (z:Int) w ⟨by omega,by omega⟩
  generalize adOf a 0=ad at *;obtain⟨ga,oa,sa⟩:=ad;go_enter Tryz.func101,Tryz.ntmps101
  go_wp2_with (go_at_call 57;refine (jo _).mono ?_;rintro e w' ⟨rfl,hw1⟩;obtain rfl:=hw1.symm)
  exact HE.out
 |succ k ih=>
  intro M p l a c N F w hM hp0 hp8 hl hv hS hF hR hN;obtain⟨h,hh⟩:∃h,h=2 ^ k:=⟨_,rfl⟩
  have h1:1<=h:=by rw[hh];exact Nat.one_le_two_pow
  have hMh:M=2*h:=by rw[hM,hh,Nat.pow_succ];omega
  have hlen:=qcq l h (by omega)
  obtain⟨Q,eQ⟩:∃Q,Q=DeR g n (adM (k+1) p (fnL l) N) F w:=⟨_,rfl⟩
  have HQ:Hid (∀e w',DeR g n (adM (k+1) p (fnL l) N) F w e w'->Q e w'):=fun e w' h=>by rw[eQ];exact h
  rw[<-eQ];have HH:Hid _:=hh;have HR:Hid _:=hR;have HMh:Hid _:=hMh;have HLn:Hid _:=hlen;have HV0:Hid _:=hv;have HNl:Hid _:=hN;have hM1:1<M:=by omega
  have hM9:M<=100000:=by omega
  have dm:((M:Int)==1)=false:=by simp;omega
  have jh:=q6R l h M a c w hMh hl hM9 hS;clear eQ hM hh hS hR hF hMh hlen hl hv hN;go_enter Tryz.func101,Tryz.ntmps101
  go_wp2_with fail
  refine jh.mono ?_
  rintro e wr ⟨la,lc,ha,hc,rfl,hb9,hLS,hHS,hLb,hHb⟩
  have hR9:=HR.out.up hb9;have HFlt:Hid (∀x,F x->x<w.heap.size):=fun x hx=>HR.out.lt x hx
  have hp1:(0:Int)<=p+1:=by omega
  have jA:=ih h (p+1) (evL l) la lc N F wr HH.out hp1 (by omega) HLn.out.1 (fun v hv=>HV0.out v ((q3Q l).1 v hv)) hLS (fun x hx hf=>by have:=HFlt.out _ hf;have:=hLb x hx;omega) hR9 (by have:=HNl.out;have:=HMh.out;omega)
  rcases e1:adM k (p+1) (fnL (evL l)) N with⟨ra,N1⟩
  rw[e1]at jA
  have HjB:Hid (∀w1 F1,StG w1 F1 g n N1->Fr wr w1 F F1->Calls Tryz.prog 101 #[.pointer (some ⟨g,0,none⟩),.int .i64 (p+1),.slice ha h hc] w1 (DeR g n (adM k (p+1) (fnL (odL l)) N1) F1 w1)):=fun w1 F1 q1 q2=>by
   have hpl:=(q3N k (p+1) (fnL (evL l)) N).2;rw[e1]at hpl;dsimp only at hpl
   have hnf:∀x,x<h->¬F (adOf ha x).block:=fun x hx hf=>by have:=HFlt.out _ hf;have:=hHb x hx;omega
   exact ih h (p+1) (odL l) ha hc N1 F1 w1 HH.out hp1 (by omega) HLn.out.2 (fun v hv=>HV0.out v ((q3Q l).2 v hv)) (q2.intSl hHS hnf) (fun x hx=>q2.out (hnf x hx) (hHS.blk x hx)) q1 (by have:=HNl.out;have:=HMh.out;have:=HH.out;omega)
  have HFr0:Hid (∀w1 F1,Fr wr w1 F F1->Fr w w1 F F1):=fun w1 F1 q=>(Fr.ofBelow hb9).trans q
  have He1:Hid _:=e1;clear hLS hLb hHS hHb hb9 hR9 ih e1 jh
  go_wp2_with fail
  refine jA.mono ?_
  rintro e w1 ⟨rfl,F1,hR1,hF1⟩
  have HF1:Hid _:=HFr0.out w1 F1 hF1;have jB:=HjB.out w1 F1 hR1 hF1;clear jA HjB HFr0 hF1 hR1;rcases e2:adM k (p+1) (fnL (odL l)) N1 with⟨rb,N2⟩
  rw[e2]at jB;have Had:Hid _:=qes k p l N He1.out e2;have He2:Hid _:=e2;clear e2
  go_wp2_with fail
  refine jB.mono ?_
  rintro e w2 ⟨rfl,F2,hR2,hF2⟩
  have HF2:Hid (Fr w w2 F F2):=HF1.out.trans hF2;have HR2:Hid _:=hR2;clear jB hF2 HF1 hR2;dsimp only
  by_cases hab:ra=rb
  ·have HX:Hid (Q (.returned (.int .i64 ra)) w2):=HQ.out _ _ (by rw[Had.out,if_pos hab];exact⟨rfl,F2,HR2.out,HF2.out⟩)
   have d3:(ra==rb)=true:=by simpa using hab
   clear hab HQ;go_wp2;exact HX.out
  ·have d3:(ra==rb)=false:=by simpa using hab
   have hev:=HLn.out;have hpA:=q3N k (p+1) (fnL (evL l)) N;rw[He1.out]at hpA;have hpB:=q3N k (p+1) (fnL (odL l)) N1;rw[He2.out]at hpB;have hbA:=q8h k (p+1) (fnL (evL l)) N 1048575 (fun i hi=>Nat.le_of_lt_succ (qcu (fun v hv=>Nat.lt_succ_of_le (HV0.out v ((q3Q l).1 v hv))) (by rw[hev.1,HH.out];exact hi)))
   rw[He1.out]at hbA;have hbB:=q8h k (p+1) (fnL (odL l)) N1 1048575 (fun i hi=>Nat.le_of_lt_succ (qcu (fun v hv=>Nat.lt_succ_of_le (HV0.out v ((q3Q l).2 v hv))) (by rw[hev.2,HH.out];exact hi)))
   rw[He2.out]at hbB;dsimp only at hpA hpB hbA hbB
   have hN9:N2.length<=100000:=by have:=HNl.out;have:=HMh.out;have:=HH.out;omega
   have hlB:=hpB.1.length_le;have hY:GdOk (p,ra,rb):=⟨⟨by omega,by omega⟩,⟨by dsimp only;omega,by dsimp only;omega⟩,⟨by dsimp only;omega,by dsimp only;omega⟩⟩
   have hR2:StG w2 F2 g n N2:=HR2.out;have jP:=q7N hR2 (p,ra,rb) hY (by omega)
   clear hR2;unfold ndV at jP;dsimp only at jP
   have HX:Hid (∀e w',PlR g n N2 (p,ra,rb) F2 w2 e w'->∃z:Int,e=.returned (.int .i64 z)/\Q e w'):=fun e w' q=>by
    obtain⟨q1,F',q2,q3⟩:=q;refine⟨_,q1,HQ.out _ _ ?_⟩
    rw[Had.out,if_neg hab];exact⟨q1,F',q2,HF2.out.trans q3⟩
   clear HQ Had He1 He2 hpA hpB hbA hbB hlB hN9 hev hab hY
   go_wp2_with fail
   refine jP.mono ?_
   intro e w3 hq;obtain⟨z,rfl,hQ3⟩:=HX.out e w3 hq;have HE:Hid _:=hQ3;clear hq hQ3 HX jP;go_wp2;exact HE.out
theorem qg3{N N':List Gd}(h:N <+: N'):N'.take N.length=N:=by obtain⟨t,rfl⟩:=h;simp
def SAR (g n:Nat) (r:(Int×Int)×List Gd) (F:Nat->Prop) (w:World) (e:Ending) (w':World):Prop:=e=.returned (.tuple #[.int .i64 r.1.1,.int .i64 r.1.2])/\∃F',StG w' F' g n r.2/\Fr w w' F F'
theorem qbn(g n:Nat)(hn:n<=8)(zs:List Int)(a:Option Addr)(len c:Nat)(N:List Gd)(F:Nat->Prop)(w:World)(hS:ZSl w a len c zs)(hF:∀j,j<len->¬F (adOf a j).block)(hR:StG w F g n N)(hN:N.length<=4096):
  Calls Tryz.prog 71 #[.pointer (some ⟨g,0,none⟩),.slice a len c] w (SAR g n (addG n N zs) F w):=by
 obtain⟨Q,eQ⟩:∃Q,Q=SAR g n (addG n N zs) F w:=⟨_,rfl⟩
 have HQ:Hid (∀e w',SAR g n (addG n N zs) F w e w'->Q e w'):=fun e w' h=>by rw[eQ];exact h
 rw[<-eQ];clear eQ;have HL:Hid (zs.length=len):=hS.hlen;have hbd:=Nat.le_trans hS.hcap hS.bd;unfold maxLen at hbd;obtain⟨aN,cN,mb,hr,_⟩:=hR.read;have c1:=hr.c1;have hmd:=q5y hr;have jt:=fun w' (hb:Below w.heap.size w w')=>q6x a len c zs w' (hS.up hb)
 have hmin:min n 64=n:=by omega
 have hsh:=qiv n hn;have hM:2 ^ n<=256:=Nat.pow_le_pow_right (by decide) hn
 have HArg:Hid ((zs.length≠2 ^ n\/¬∀v∈zs,0<=v/\v<=1048575)->Q (.returned (.tuple #[.int .i64 0,.int .i64 2])) w):=fun h=>HQ.out _ _ (by rw[qgd h];exact⟨rfl,F,hR,Fr.ofBelow (Below.refl _ _)⟩)
 by_cases hl:len=2 ^ n
 ·have HMM:=hiq hl
  rw[<-hl]at hsh hM;clear hl;have dl:((len:Int) != (len:Int))=false:=by simp
  have jt:=jt w (Below.refl _ _);by_cases hv:∀v∈zs,0<=v/\v<=1048575
  ·rw[decide_eq_true hv]at jt
   rcases e1:adM n 0 (fnL (zs.map Int.toNat)) N with⟨r,N'⟩
   have HQ2:Hid (∀e w',SAR g n (if 4096<N'.length then ((0,11),N) else ((r,0),N')) F w e w'->Q e w'):=fun e w' q=>HQ.out e w' (by rw[qhv (by rw[HL.out];exact HMM.out) hv e1];exact q)
   have jm:=q8Z hR
   have HjA:Hid (∀w3,Below w.heap.size w w3->Calls Tryz.prog 101 #[.pointer (some ⟨g,0,none⟩),.int .i64 0,.slice a len c] w3 (DeR g n (r,N') F w3)):=fun w3 hb=>by
    have:=q6Q g n n len 0 (zs.map Int.toNat) a c N F w3 HMM.out (by omega) (by omega) (by rw[List.length_map];exact HL.out) (fun v hv'=>by
     obtain⟨u,hu,rfl⟩:=List.mem_map.1 hv';have:=hv u hu;omega) (by rw[qf1 hv];exact hS.up hb) hF (hR.up hb) (by omega)
    rw[e1]at this;exact this
   have hpre:=q3N n 0 (fnL (zs.map Int.toNat)) N;rw[e1]at hpre;dsimp only at hpre
   have hL2:N'.length<=100000:=by have:=HMM.out;omega
   have Hpre:Hid (N <+: N'):=hpre.1;have Hple:Hid (N.length<=N'.length):=hpre.1.length_le;have HR:Hid _:=hR;have HN':Hid (N'.length<=1000000):=by show _<=_;omega
   clear HArg HQ e1 hv hS hF hR hr hpre;go_enter Tryz.func71,Tryz.ntmps71
   go_wp2_with (first
    | (go_at_call 74;(with_reducible refine hmd.mono ?_);rintro e w' ⟨rfl,hw1⟩;obtain rfl:=hw1.symm)
    | (go_at_call 99;(with_reducible refine jt.mono ?_);rintro e w' ⟨rfl,hw1⟩;obtain rfl:=hw1.symm)
    |fail)
   refine jm.mono ?_
   rintro e w3 ⟨bx,bn,rfl,hb3,hx3,hn3,ex3,en3⟩
   have jA:=HjA.out w3 hb3;have HB3:Hid _:=hb3;have Hex:Hid _:=ex3;have Hen:Hid _:=en3;have Hnx:Hid (¬F bx/\¬F bn):=⟨fun h=>by have:=HR.out.lt _ h;omega,fun h=>by have:=HR.out.lt _ h;omega⟩
   clear jm HjA hb3 hx3 hn3 ex3 en3 hmd jt c1
   go_wp2_with fail
   refine jA.mono ?_
   rintro e w4 ⟨rfl,F4,hR4,hF4⟩
   dsimp only at hR4
   have HF4:Hid (Fr w w4 F F4):=(Fr.ofBelow HB3.out).trans hF4;obtain⟨a4,c4,mb4,hr4,_⟩:=hR4.read;have t2:=hr4.c2;have hlx:=(aes Hex.out).1
   have hln:=(aes Hen.out).1
   have ex4:=(hF4.keep bx hlx Hnx.out.1).trans Hex.out;have en4:=(hF4.keep bn hln Hnx.out.2).trans Hen.out;by_cases h4:4096<N'.length
   ·have jU:=q93 hR4 N.length Hple.out bx bn HN'.out ex4 en4 (hF4.out Hnx.out.1 hlx) (hF4.out Hnx.out.2 hln)
    rw[qg3 Hpre.out]at jU;have HE:Hid (∀w5,StG w5 F4 g n N->Fr w4 w5 F4 F4->Q (.returned (.tuple #[.int .i64 0,.int .i64 11])) w5):=fun w5 q1 q2=>HQ2.out _ _ (by rw[if_pos h4];exact⟨rfl,F4,q1,HF4.out.trans q2⟩)
    clear HQ2 HF4 hF4 hR4 hr4 ex4 en4 hlx hln jA Hex Hen Hpre HN';generalize N'.length=L4 at *
    go_wp2_with fail
    refine jU.mono ?_
    rintro e w5 ⟨rfl,q1,q2⟩
    have HE5:Hid _:=HE.out w5 q1 q2;clear HE q1 q2 jU;go_wp2;exact HE5.out
   ·have HE:Hid (Q (.returned (.tuple #[.int .i64 r,.int .i64 0])) w4):=HQ2.out _ _ (by rw[if_neg h4];exact⟨rfl,F4,hR4,HF4.out⟩)
    clear HQ2 HF4 hF4 hR4 hr4 ex4 en4 hlx hln jA Hex Hen Hpre HN';generalize N'.length=L4 at *;go_wp2;exact HE.out
  ·rw[decide_eq_false hv]at jt
   have HE:Hid _:=HArg.out (.inr hv);clear HArg HQ hv hS hF hR hr;go_enter Tryz.func71,Tryz.ntmps71
   go_wp2_with (first
    | (go_at_call 74;(with_reducible refine hmd.mono ?_);rintro e w' ⟨rfl,hw1⟩;obtain rfl:=hw1.symm)
    | (go_at_call 99;(with_reducible refine jt.mono ?_);rintro e w' ⟨rfl,hw1⟩;obtain rfl:=hw1.symm)
    |fail)
   exact HE.out
 ·have HE:Hid _:=HArg.out (.inl (by rw[HL.out];exact hl))
  obtain⟨m,hm⟩:∃m,m=2 ^ n:=⟨_,rfl⟩
  rw[<-hm]at hl hsh hM;have dl:((len:Int) != (m:Int))=true:=by simp;omega
  clear HArg HQ hl hm hS hF hR hr jt;go_enter Tryz.func71,Tryz.ntmps71
  go_wp2_with (go_at_call 74;(with_reducible refine hmd.mono ?_);rintro e w' ⟨rfl,hw1⟩;obtain rfl:=hw1.symm)
  exact HE.out
def encU (ws:List Nat):Array Value:=(ws.map fun (x:Nat)=>Value.int .u64 (x:Int)).toArray
def RowU (w:World) (g:Nat) (ws:List Nat):Prop:=w.heap[g]? =some (.cells (encU ws) 55 (0,0))
theorem RowU.lt{w:World}{g:Nat}{ws:List Nat}(h:RowU w g ws):g<w.heap.size:=(aes h).1
theorem RowU.up{w w':World}{g:Nat}{ws:List Nat}(h:RowU w g ws)(hb:Below w.heap.size w w'):RowU w' g ws:=(hb.block g h.lt).trans h
theorem RowU.grown{w w':World}{g:Nat}{ws:List Nat}{row:Option Nat}(h:RowU w g ws)(hb:w.grownBy w' row)(hne:row≠some g):RowU w' g ws:=(hb.block g h.lt (fun e=>hne e.symm)).trans h
theorem RowU.cell{w:World}{g:Nat}{ws:List Nat}(h:RowU w g ws){i:Nat}(hi:i<ws.length):w.cell? ⟨g,i,none⟩=some (.int .u64 (ws.getD i 0:Nat)):=by
 unfold RowU encU at h;simp[World.cell?,h,List.getD_eq_getElem?_getD,List.getElem?_eq_getElem hi]
theorem RowU.fz{w:World}{g:Nat}{ws:List Nat}(h:RowU w g ws)(i:Nat):w.frozen? ⟨g,i,none⟩=false:=frozen_of_row w g i _ _ h
theorem RowU.set{w:World}{g:Nat}{ws:List Nat}(h:RowU w g ws)(i x:Nat):RowU (w.setCell ⟨g,i,none⟩ (.int .u64 (x:Int))) g (ws.set i x):=by
 have:=heap_setCell_same w g i _ _ (.int .u64 (x:Int)) h
 unfold RowU encU;rw[this];simp[encU,List.map_set]
theorem wr64(n:Int)(h:0<=n/\n<=1000000000):wrap64 n=n:=by unfold wrap64;omega
theorem q5Y:(Tryz.prog.info? 55).map (·.size)=some 1:=by kernel_rfl
theorem q44(g o n cap k:Nat)(w:World)(hk:k<n):(Instr.indexAt 46 (.slice (some ⟨g,o,none⟩) n cap) (.int .i64 (k:Int))).run Tryz.prog w=.ok (.pointer (some ⟨g,o+k,none⟩)) w:=by
 have:=q1a (P:=Tryz.prog) (T:=46) (e:=55) Tryz.underlying46 q5Y (a:=some ⟨g,o,none⟩) (cap:=cap) (n:=n) (by simp) k w hk
 simpa [adOf,qg] using this
theorem q4w(g W k:Nat)(ws:List Nat)(w:World)(hR:RowU w g ws)(hW:OkW W ws)(hk:k / 64<W)(hk2:k<=1000000):
  Calls Tryz.prog 105 #[.slice (some ⟨g,0,none⟩) W W,.int .i64 (k:Int)] w fun e w'=>e=.returned (.bool (hasW ws k))/\w'=w:=by
 have hc:=hR.cell (i:=k / 64) (by rw[hW.1];exact hk)
 have hi:=fun w=>q44 g 0 W W (k / 64) w hk
 simp only[Nat.zero_add]at hi
 have HB:Hid (∀m:Int,m=((k % 64:Nat):Int)->(bits .and .u64 (((ws.getD (k / 64) 0:Nat):Int) / 2 ^ m.toNat) 1==1)=hasW ws k):=fun m hm=>by
  subst hm;exact qiz _ _ (hW.2 _)
 have e1:(k:Int).tdiv 64=((k / 64:Nat):Int):=by
  rw[Int.tdiv_eq_ediv_of_nonneg (by omega)];omega
 have e2:(k:Int).tmod 64=((k % 64:Nat):Int):=by
  rw[Int.tmod_eq_emod_of_nonneg (by omega)];omega
 generalize ws.getD (k / 64) 0=x at *;generalize hasW ws k=r at *;have h64:k % 64<64:=Nat.mod_lt _ (by decide)
 have h65:k / 64<=1000000:=by omega
 generalize k / 64=q at *;generalize k % 64=s at *;have w1:=wr64 (q:Int) (by omega)
 have w2:=wr64 (s:Int) (by omega)
 clear hR hW;go_enter Tryz.func105,Tryz.ntmps105
 go_wp2;go_ret
 exact⟨by rw[<-HB.out _ rfl];rfl,rfl⟩
theorem q3t(g W k:Nat)(ws:List Nat)(w:World)(hR:RowU w g ws)(hW:OkW W ws)(hk:k / 64<W)(hk2:k<=1000000):
  Calls Tryz.prog 105 #[.slice (some ⟨g,0,none⟩) W W,.int .i64 (k:Int)] w fun e w'=>e=.returned (.bool (hasW ws k))/\Below w.heap.size w w' :=
 (q4w g W k ws w hR hW hk hk2).mono fun _ _ h=>⟨h.1,h.2 ▸ Below.refl _ _⟩
theorem qcc(g W q:Nat)(w:World)(hq:q<W):(Instr.sliceAt 46 (.slice (some ⟨g,0,none⟩) W W) (some (.int .i64 (q:Int))) none none).run Tryz.prog w=.ok (.slice (some ⟨g,q,none⟩) (W-q) (W-q)) w:=by
 simp[Instr.sliceAt,Instr.slice,run_underlying Tryz.underlying46,q8A q5Y,go_sem,qg,Nat.le_of_lt hq]
 omega
theorem q3u(g W k:Nat)(ws:List Nat)(w:World)(hR:RowU w g ws)(hW:OkW W ws)(hk:k / 64<W)(hk2:k<=1000000):
  Calls Tryz.prog 104 #[.slice (some ⟨g,0,none⟩) W W,.int .i64 (k:Int)] w fun e w'=>e=.returned (.tuple #[])/\RowU w' g (putW ws k)/\w.grownBy w' (some g):=by
 have hc:=hR.cell (i:=k / 64) (by rw[hW.1];exact hk)
 have hz:=hR.fz (k / 64);have hi:=fun w=>q44 g 0 W W (k / 64) w hk
 simp only[Nat.zero_add]at hi
 have hx:=hW.2 (k / 64)
 have HB:Hid (∀m:Nat,m=2 ^ (k % 64)->bits .or .u64 ((ws.getD (k / 64) 0:Nat):Int) (m:Int)=((ws.getD (k / 64) 0 ||| 2 ^ (k % 64):Nat):Int)):=fun m hm=>by
  subst hm;exact u64_or_nat _ _ hx (by rw[two64];exact Nat.pow_lt_pow_right (by decide) (by omega))
 have HR:Hid (RowU (w.setCell ⟨g,k / 64,none⟩ (.int .u64 ((ws.getD (k / 64) 0 ||| 2 ^ (k % 64):Nat):Int))) g (putW ws k)):=hR.set _ _
 have e1:(k:Int).tdiv 64=((k / 64:Nat):Int):=by
  rw[Int.tdiv_eq_ediv_of_nonneg (by omega)];omega
 have e2:(k:Int).tmod 64=((k % 64:Nat):Int):=by
  rw[Int.tmod_eq_emod_of_nonneg (by omega)];omega
 have h64:k % 64<64:=Nat.mod_lt _ (by decide)
 have h65:k / 64<=1000000:=by omega
 have HP:Hid (2 ^ (k % 64)<18446744073709551616):=by show _<_;rw[two64];exact Nat.pow_lt_pow_right (by decide) (by omega)
 generalize ws.getD (k / 64) 0=x at *;generalize putW ws k=r at *;generalize k / 64=q at *;generalize k % 64=s at *;have w1:=wr64 (q:Int) (by omega)
 have w2:=wr64 (s:Int) (by omega)
 clear hR hW;go_enter Tryz.func104,Tryz.ntmps104
 go_wp2
 go_region
 go_wp2
 go_end0
 have e:bits BinOp.or IntKind.u64 (x:Int) (IntKind.u64.wrap (2 ^ s))=((x ||| 2 ^ s:Nat):Int):=by
  have e3:IntKind.u64.wrap (2 ^ s)=((2 ^ s:Nat):Int):=by
   have:=HP.out
   rw[IntKind.wrap_u64,show ((2:Int) ^ s)=((2 ^ s:Nat):Int) by simp]
   generalize 2 ^ s=y at this ⊢
   omega
  rw[e3];exact HB.out _ rfl
 rw[e];exact⟨rfl,HR.out,⟨rfl,rfl,rfl,by simp,fun k hk hne=>Below.heap_setCell _ _ _ _ (fun e=>hne (congrArg some e))⟩⟩
theorem q2X(g g' W p:Nat)(ws us:List Nat)(w:World)(hR:RowU w g ws)(hR':RowU w g' us)(hW:OkW W ws)(hU:OkW W us)(hs:g=g'->ws=us)(hp:p / 64<W)(hp2:W<=1000000):
  Calls Tryz.prog 106 #[.slice (some ⟨g,0,none⟩) W W,.slice (some ⟨g',0,none⟩) W W,.int .i64 (p:Int)] w fun e w'=>e=.returned (.bool (decide (joinW ws us (p / 64)≠ws)))/\RowU w' g (joinW ws us (p / 64))/\w.grownBy w' (some g):=by
 have e1:(p:Int).tdiv 64=((p / 64:Nat):Int):=by
  rw[Int.tdiv_eq_ediv_of_nonneg (by omega)];omega
 have h1:=fun w=>qcc g W (p / 64) w (by omega)
 have h2:=fun w=>qcc g' W (p / 64) w (by omega)
 unfold joinW;rw[hW.1];generalize p / 64=q at *;have w1:=wr64 (q:Int) (by omega)
 have HR:=hiq hR;have HR':=hiq hR';have HW:=hiq hW;have HU:=hiq hU;have HS:=hiq hs;clear hR hR' hW hU hs;go_enter Tryz.func106,Tryz.ntmps106
 go_wp2
 go_loopw [7,19] (fun r i wr=>∃k:Nat,k<=W-q/\i=.int .i64 k/\(∃bb:Bool,r=.bool bb/\Hid (bb=decide (joinT ws us q (q+k)≠ws)))/\Hid (RowU wr g (joinT ws us q (q+k)))/\Hid (RowU wr g' us)/\Hid (w.grownBy wr (some g))) (fun _ i _=>W-q-(intOf i).toNat)
 case atStart=>exact⟨0,Nat.zero_le _,rfl,⟨false,rfl,by show _=_;rw[Nat.add_zero,qan];simp⟩,by show RowU _ _ _;rw[Nat.add_zero,qan];exact HR.out,HR'.out,⟨rfl,rfl,rfl,Nat.le_refl _,fun _ _ _=>rfl⟩⟩
 case round=>
  obtain⟨k,hk,rfl,⟨bb,rfl,HB⟩,HG,HG',HF⟩:=hrel;clear h1 h2;by_cases hlt:k<W-q
  ·have hi1:=fun w=>q44 g q (W-q) (W-q) k w hlt
   have hi2:=fun w=>q44 g' q (W-q) (W-q) k w hlt
   have hlw:q+k<ws.length:=by rw[HW.out.1];omega
   have hc1:=HG.out.cell (i:=q+k) (by rw[q2f];exact hlw)
   have hc2:=HG'.out.cell (i:=q+k) (by rw[HU.out.1];omega)
   have hz1:=HG.out.fz (q+k);have e3:(joinT ws us q (q+k)).getD (q+k) 0=ws.getD (q+k) 0:=by rw[q1E,if_neg (by omega)]
   rw[e3]at hc1;have hx:=HW.out.2 (q+k);have hy:=HU.out.2 (q+k);have HN1:Hid _:=qeF ws us q (q+k) (by omega) hlw
   have HN2:Hid (ws.getD (q+k) 0 ||| us.getD (q+k) 0=ws.getD (q+k) 0->joinT ws us q (q+k+1)=joinT ws us q (q+k)):=fun h=>qeG h (by omega) hlw
   have HNE:Hid (ws.getD (q+k) 0 ||| us.getD (q+k) 0≠ws.getD (q+k) 0->joinT ws us q (q+k+1)≠ws/\g≠g'):=fun h=>by
    refine⟨fun e=>h ?_,fun e=>h ?_⟩
    ·have:=congrArg (fun l=>l.getD (q+k) 0) e
     simp only[q1E]at this
     rwa [if_pos ⟨by omega,by omega,hlw⟩]at this
    ·rw[<-HS.out e,Nat.or_self]
   have HO:Hid _:=u64_or_nat _ _ hx hy;have HA:Hid _:=u64_andNot_nat _ _ hy hx;have HZ:Hid _:=qdz _ _ hy hx;generalize ws.getD (q+k) 0=x at *;generalize us.getD (q+k) 0=y at *;by_cases hc:x ||| y=x
   ·have hc':bits .andNot .u64 (y:Int) (x:Int)=0:=by rw[HA.out,HZ.out.2 hc];rfl
    have HN:Hid (joinT ws us q (q+(k+1))=joinT ws us q (q+k)):=HN2.out hc;clear hc HZ HA HO HN1 HN2 HNE hx hy e3 hlw;go_wp2
    go_roundw
    case rel=>exact⟨k+1,by omega,by go_num,⟨bb,rfl,by show _=_;rw[HN.out];exact HB.out⟩,by show RowU _ _ _;rw[HN.out];exact HG.out,HG'.out,HF.out⟩
    case measure=>simp[intOf];omega
   ·have hc':bits .andNot .u64 (y:Int) (x:Int)≠0:=by
     rw[HA.out];intro h;exact hc (HZ.out.1 (by omega))
    have hc2':=HO.out;obtain⟨hn1,hn2⟩:=HNE.out hc;have HN:Hid (true=decide (joinT ws us q (q+(k+1))≠ws)):=(decide_eq_true hn1).symm;have HRN:Hid _:=HG.out.set (q+k) (x ||| y);have HG2:=hiq hn2;clear hn1 hn2 hc HZ HA HO HN2 HNE hx hy e3 hlw;go_wp2
    go_roundw
    case rel=>
     refine⟨k+1,by omega,by go_num,⟨true,rfl,HN⟩,?_,?_,?_⟩
     ·show RowU _ _ _
      rw[show q+(k+1)=q+k+1 by omega,HN1.out]
      exact HRN.out
     ·exact(Below.heap_setCell _ _ _ _ (fun e=>HG2.out e.symm)).trans HG'.out
     ·exact HF.out.trans ⟨rfl,rfl,rfl,by simp,fun k hk hne=>Below.heap_setCell _ _ _ _ (fun e=>hne (congrArg some e))⟩
    case measure=>simp[intOf];omega
  ·obtain rfl:k=W-q:=by omega
   have HE:Hid (q+(W-q)=W):=by show _=_;omega
   go_wp2;go_ret
   refine⟨?_,?_,HF.out⟩
   ·rw[HB.out,HE.out];rfl
   ·have:=HG.out;rw[HE.out]at this;exact this
def wordsN (P:Nat):Nat:=(P+63) / 64
structure EndAt (w:World) (g P:Nat) (rs:Nat->List Nat):Prop where
 outer:∃cur:Array Value,w.heap[g]? =some (.cells cur 46 (0,0))/\cur.size=P/\∀i,i<P->cur[i]? =some (.slice (some ⟨g+1+i,0,none⟩) (wordsN P) (wordsN P))
 rows:∀i,i<P->RowU w (g+1+i) (rs i)
 ok:∀i,i<P->OkW (wordsN P) (rs i)
theorem EndAt.cell{w:World}{g P:Nat}{rs:Nat->List Nat}(h:EndAt w g P rs){i:Nat}(hi:i<P):w.cell? ⟨g,i,none⟩=some (.slice (some ⟨g+1+i,0,none⟩) (wordsN P) (wordsN P)):=by
 obtain⟨cur,h1,_,h3⟩:=h.outer;rw[qb h1,h3 i hi]
structure Only (g:Nat) (w w':World):Prop where
 os:w'.os=w.os
 tape:w'.tape=w.tape
 output:w'.output=w.output
 size:w.heap.size<=w'.heap.size
 block:∀k,k<w.heap.size->(k<g\/∀c z,w.heap[k]? ≠ some (.cells c 55 z))->w'.heap[k]? =w.heap[k]?
theorem Only.refl(g:Nat)(w:World):Only g w w:=⟨rfl,rfl,rfl,nlr,fun _ _ _=>rfl⟩
theorem Only.trans{g:Nat}{a b c:World}(h:Only g a b)(k:Only g b c):Only g a c :=
 ⟨k.os.trans h.os,k.tape.trans h.tape,k.output.trans h.output,Nat.le_trans h.size k.size,fun i hi hk=>by
  have e:=h.block i hi hk;refine (k.block i (Nat.lt_of_lt_of_le hi h.size) ?_).trans e
  rcases hk with hk|hk
  ·exact Or.inl hk
  ·exact Or.inr (by rw[e];exact hk)⟩
theorem Only.of_row{g j:Nat}{w w':World}{ws:List Nat}(hr:RowU w j ws)(h:w.grownBy w' (some j))(hg:g<=j):Only g w w' :=
 ⟨h.os,h.tape,h.output,h.size,fun k hk hc=>h.block k hk fun e=>by
  injection e with e;subst e;rcases hc with hc|hc
  ·omega
  ·exact hc _ _ hr⟩
theorem Only.below{g B:Nat}{w w':World}(h:Only g w w')(hB:B<=g)(hs:B<=w.heap.size):Below B w w':=⟨h.os,h.tape,h.output,h.size,fun k hk=>h.block k (by omega) (Or.inl (by omega))⟩
theorem EndAt.keep{w w':World}{g P:Nat}{rs:Nat->List Nat}(h:EndAt w g P rs)(hk:∀k c t z,w.heap[k]? =some (.cells c t z)->(t=46\/t=55)->g<=k->k<=g+P->w'.heap[k]? =w.heap[k]?):EndAt w' g P rs:=by
 obtain⟨cur,h1,h2,h3⟩:=h.outer;exact⟨⟨cur,(hk g _ _ _ h1 (Or.inl rfl) nlr (Nat.le_add_right _ _)).trans h1,h2,h3⟩,fun i hi=>(hk _ _ _ _ (h.rows i hi) (Or.inr rfl) (by omega) (by omega)).trans (h.rows i hi),h.ok⟩
theorem EndAt.up{w w':World}{g P:Nat}{rs:Nat->List Nat}(h:EndAt w g P rs)(hb:Below w.heap.size w w'):EndAt w' g P rs :=
 h.keep fun k _ _ _ hc _ _ _=>hb.block k (aes hc).1
theorem EndAt.lt{w:World}{g P:Nat}{rs:Nat->List Nat}(h:EndAt w g P rs):g+P<w.heap.size:=by
 cases P with
 |zero=>obtain⟨cur,h1,_⟩:=h.outer;exact(aes h1).1
 |succ P=>have:=(h.rows P (Nat.lt_succ_self _)).lt;omega
theorem EndAt.turn{w w':World}{g P i:Nat}{rs:Nat->List Nat}{x:List Nat}(h:EndAt w g P rs)(hi:i<P)(hr:RowU w' (g+1+i) x)(ho:OkW (wordsN P) x)(hb:w.grownBy w' (some (g+1+i))):EndAt w' g P (upd rs i x):=by
 obtain⟨cur,h1,h2,h3⟩:=h.outer;have hlt:=h.lt;refine⟨⟨cur,(hb.block g (by omega) (fun e=>by injection e with e;omega)).trans h1,h2,h3⟩,fun j hj=>?_,fun j hj=>?_⟩
 ·by_cases e:j=i
  ·subst e;rw[q26];exact hr
  ·rw[q1T _ _ e];exact(h.rows j hj).grown hb (fun e'=>by injection e' with e';omega)
 ·by_cases e:j=i
  ·subst e;rw[q26];exact ho
  ·rw[q1T _ _ e];exact h.ok j hj
theorem made1(v:Value)(n:Nat):madeCells #[v] n=(List.replicate n v).toArray:=by
 apply Array.ext_getElem?
 intro i;by_cases h:i<n
 ·simp[madeCells,h,Nat.mod_one]
 ·simp[madeCells,h]
theorem qbM:(Tryz.prog.info? 55).map (fun i=>(i.zero,i.size,i.bytes))=some (some (.int .u64 0),1,8):=by kernel_rfl
theorem qdc:(Tryz.prog.info? 46).map (fun i=>(i.zero,i.size,i.bytes))=some (some (.slice none 0 0),1,24):=by kernel_rfl
theorem qdt:(Tryz.prog.info? 46).map (·.size)=some 1:=by kernel_rfl
theorem qek(l:Nat)(hb:l<=1000000)(w:World):
  (Instr.makeSlice 46 (.int .i64 (l:Int)) (.int .i64 (l:Int))).run Tryz.prog w=.ok (.slice (some ⟨w.heap.size,0,none⟩) l l) (w.alloc (.cells (encU (List.replicate l 0)) 55)):=by
 obtain⟨i,hi,hz0,hz1,hz2⟩:=info_parts qbM;have:=run_make (P:=Tryz.prog) w 46 55 i (.int .u64 0) Tryz.underlying46 hi hz0 .i64 .i64 (l:Int) (l:Int) (by omega) (by omega) (by rw[hz2];omega) (by omega)
 rw[this,hz1];simp only[Int.toNat_natCast,Nat.mul_one]
 have e:(Value.int .u64 0).cells=#[.int .u64 0]:=rfl;rw[e,made1];simp[encU]
theorem qdo(l:Nat)(hb:l<=1000000)(w:World):
  (Instr.makeSlice 41 (.int .i64 (l:Int)) (.int .i64 (l:Int))).run Tryz.prog w=.ok (.slice (some ⟨w.heap.size,0,none⟩) l l) (w.alloc (.cells (List.replicate l (Value.slice none 0 0)).toArray 46)):=by
 obtain⟨i,hi,hz0,hz1,hz2⟩:=info_parts qdc;have:=run_make (P:=Tryz.prog) w 41 46 i (.slice none 0 0) Tryz.underlying41 hi hz0 .i64 .i64 (l:Int) (l:Int) (by omega) (by omega) (by rw[hz2];omega) (by omega)
 rw[this,hz1];simp only[Int.toNat_natCast,Nat.mul_one]
 have e:(Value.slice none 0 0).cells=#[.slice none 0 0]:=rfl;rw[e,made1]
theorem qK(g n k:Nat)(w:World)(hk:k<n):(Instr.indexAt 41 (.slice (some ⟨g,0,none⟩) n n) (.int .i64 (k:Int))).run Tryz.prog w=.ok (.pointer (some ⟨g,k,none⟩)) w:=by
 have:=q1a (P:=Tryz.prog) (T:=41) (e:=46) Tryz.underlying41 qdt (a:=some ⟨g,0,none⟩) (cap:=n) (n:=n) (by simp) k w hk
 simpa [adOf,qg] using this
structure NowAt (w:World) (g P k:Nat):Prop where
 outer:∃cur:Array Value,w.heap[g]? =some (.cells cur 46 (0,0))/\cur.size=P/\∀i,i<k->cur[i]? =some (.slice (some ⟨g+1+i,0,none⟩) (wordsN P) (wordsN P))
 rows:∀i,i<k->RowU w (g+1+i) (List.replicate (wordsN P) 0)
 size:w.heap.size=g+1+k
theorem q2u(P:Nat)(w:World)(hP:P<=100000):
  Calls Tryz.prog 103 #[.int .i64 (P:Int)] w fun e w'=>e=.returned (.slice (some ⟨w.heap.size,0,none⟩) P P)/\EndAt w' w.heap.size P (fun _=>List.replicate (wordsN P) 0)/\Below w.heap.size w w':=by
 have e1:((P:Int)+63).tdiv 64=(wordsN P:Int):=by
  rw[Int.tdiv_eq_ediv_of_nonneg (by omega)];unfold wordsN;omega
 have hWb:wordsN P<=100000:=by unfold wordsN;omega
 have w2:=wr64 (wordsN P:Int) (by omega)
 have w1:wrap64 ((P:Int)+63)=(P:Int)+63:=wr64 _ (by omega)
 have hm1:=qdo P (by omega)
 have hm2:=qek (wordsN P) (by omega)
 go_enter Tryz.func103,Tryz.ntmps103
 go_wp2;clear hm1
 go_loopw [9] (fun i wr=>∃k:Nat,k<=P/\i=.int .i64 k/\Hid (NowAt wr w.heap.size P k)/\Hid (Below w.heap.size w wr)) (fun i _=>P-(intOf i).toNat)
 case atStart=>
  refine⟨0,Nat.zero_le _,rfl,⟨⟨_,(MapKept.heap_alloc w _).1,by simp,fun i hi=>absurd hi (by omega)⟩,fun i hi=>absurd hi (by omega),by simp⟩,qc _ _⟩
 case round=>
  obtain⟨k,hk,rfl,HN,HB⟩:=hrel;by_cases hlt:k<P
  ·have hi1:=fun w'=>qK w.heap.size P k w' hlt
   obtain⟨cur,ho1,ho2,ho3⟩:=HN.out.outer;have hsz:=HN.out.size;have HO:=hiq ho1;have HO3:Hid _:=ho3;have hcm:=qb ((Below.heap_alloc wr (.cells (encU (List.replicate (wordsN P) 0)) 55) w.heap.size (by omega)).trans ho1) k
   rw[Array.getElem?_eq_getElem (by omega)]at hcm
   have hzm:=frozen_of_row _ w.heap.size k _ _ ((Below.heap_alloc wr (.cells (encU (List.replicate (wordsN P) 0)) 55) w.heap.size (by omega)).trans ho1)
   clear ho1 ho3;go_wp2
   go_roundw
   case rel=>
    have hlw:w.heap.size<wr.heap.size:=by omega
    have hne:w.heap.size≠wr.heap.size:=by omega
    refine⟨k+1,by omega,by go_num,⟨⟨cur.setIfInBounds k (.slice (some ⟨w.heap.size+1+k,0,none⟩) (wordsN P) (wordsN P)),?_,by simpa using ho2,fun i hi=>?_⟩,fun i hi=>?_,by simp;omega⟩,?_⟩
    ·exact heap_setCell_same _ _ _ _ _ _ ((Below.heap_alloc wr _ w.heap.size hlw).trans HO.out)
    ·rw[Array.getElem?_setIfInBounds]
     by_cases e:k=i
     ·subst e;rw[if_pos rfl,if_pos (by omega)]
     ·rw[if_neg e];exact HO3.out i (by omega)
    ·refine (Below.heap_setCell _ _ _ _ (fun e=>by dsimp only at e;omega)).trans ?_
     by_cases e:i=k
     ·subst e
      rw[<-hsz];exact(mha wr _).1
     ·have:=HN.out.rows i (by omega)
      exact(Below.heap_alloc wr _ _ this.lt).trans this
    ·exact(HB.out.trans ((qc _ _).mono (by omega))).setCell nlr _
   case measure=>simp[intOf];omega
  ·obtain rfl:k=P:=by omega
   go_wp2;go_ret
   exact⟨rfl,⟨HN.out.outer,HN.out.rows,fun _ _=>OkW.zero _⟩,HB.out⟩
def ValAt (w:World) (g:Nat) (bs:List Bool):Prop:=w.heap[g]? =some (.cells (bs.map Value.bool).toArray 4 (0,0))
theorem ValAt.lt{w:World}{g:Nat}{bs:List Bool}(h:ValAt w g bs):g<w.heap.size:=(aes h).1
theorem ValAt.up{w w':World}{g:Nat}{bs:List Bool}(h:ValAt w g bs)(hb:Below w.heap.size w w'):ValAt w' g bs:=(hb.block g h.lt).trans h
theorem ValAt.cell{w:World}{g:Nat}{bs:List Bool}(h:ValAt w g bs){i:Nat}(hi:i<bs.length):w.cell? ⟨g,i,none⟩=some (.bool (bs.getD i false)):=by
 unfold ValAt at h;simp[World.cell?,h,List.getD_eq_getElem?_getD,List.getElem?_eq_getElem hi]
theorem ValAt.fz{w:World}{g:Nat}{bs:List Bool}(h:ValAt w g bs)(i:Nat):w.frozen? ⟨g,i,none⟩=false:=frozen_of_row w g i _ _ h
theorem ValAt.set{w:World}{g:Nat}{bs:List Bool}(h:ValAt w g bs)(i:Nat)(b:Bool):ValAt (w.setCell ⟨g,i,none⟩ (.bool b)) g (bs.set i b):=by
 have:=heap_setCell_same w g i _ _ (.bool b) h
 unfold ValAt;rw[this];simp[List.map_set]
theorem qj(g n k:Nat)(w:World)(hk:k<n):(Instr.indexAt 28 (.slice (some ⟨g,0,none⟩) n n) (.int .i64 (k:Int))).run Tryz.prog w=.ok (.pointer (some ⟨g,k,none⟩)) w:=by
 have:=q1a (P:=Tryz.prog) (T:=28) (e:=4) Tryz.underlying28 q6G (a:=some ⟨g,0,none⟩) (cap:=n) (n:=n) (by simp) k w hk
 simpa [adOf,qg] using this
theorem qd7:(Tryz.prog.info? 4).map (fun i=>(i.zero,i.size,i.bytes))=some (some (.bool false),1,1):=by kernel_rfl
theorem qu(l:Nat)(hb:l<=1000000)(w:World):
  (Instr.makeSlice 28 (.int .i64 (l:Int)) (.int .i64 (l:Int))).run Tryz.prog w=.ok (.slice (some ⟨w.heap.size,0,none⟩) l l) (w.alloc (.cells (Array.replicate l (Value.bool false)) 4)):=by
 obtain⟨i,hi,hz0,hz1,hz2⟩:=info_parts qd7;have:=run_make (P:=Tryz.prog) w 28 4 i (.bool false) Tryz.underlying28 hi hz0 .i64 .i64 (l:Int) (l:Int) (by omega) (by omega) (by rw[hz2];omega) (by omega)
 rw[this,hz1];simp only[Int.toNat_natCast,Nat.mul_one]
 have e:(Value.bool false).cells=#[.bool false]:=rfl;rw[e,made1];simp
theorem ValAt.made(w:World)(l:Nat):ValAt (w.alloc (.cells (Array.replicate l (Value.bool false)) 4)) w.heap.size (List.replicate l false):=by
 unfold ValAt;rw[(MapKept.heap_alloc w _).1];simp
def stpF (bs:List Bool) (P i j:Nat):Bool:=bs.getD i false&&decide (i+1<P)&&decide (j=i+1)
def tstF (bs:List Bool) (_P i j:Nat):Bool:=bs.getD i false&&decide (j=i)
theorem q9c(gb P:Nat)(bs:List Bool)(w:World)(hP:P<=100000)(hV:ValAt w gb bs)(hl:bs.length=P):
  Calls Tryz.prog 78 #[.slice (some ⟨gb,0,none⟩) P P] w fun e w'=>e=.returned (.slice (some ⟨w.heap.size,0,none⟩) P P)/\(∃rs,EndAt w' w.heap.size P rs/\∀i,i<P->∀j,hasW (rs i) j=stpF bs P i j)/\Below w.heap.size w w':=by
 have hnow:=q2u P w hP;go_enter Tryz.func78,Tryz.ntmps78
 go_wp2_with fail
 refine hnow.mono ?_
 rintro e w1 ⟨rfl,hE1,hB1⟩
 have HE1:=hiq hE1
 have HV1:Hid (ValAt w1 gb bs):=hV.up hB1;have HB1:=hiq hB1;have HVL:Hid (gb<w.heap.size):=hV.lt;clear hnow hE1 hB1 hV;go_wp2
 go_loopw [11] (fun i wr=>∃k:Nat,k<=P/\i=.int .i64 k/\(∃rs,Hid (EndAt wr w.heap.size P rs)/\Hid (∀i,i<k->∀j,hasW (rs i) j=stpF bs P i j)/\Hid (∀i,k<=i->rs i=List.replicate (wordsN P) 0))/\Hid (ValAt wr gb bs)/\Hid (Below w.heap.size w wr)) (fun i _=>P-(intOf i).toNat)
 case atStart=>exact⟨0,Nat.zero_le _,rfl,⟨_,HE1,fun i hi=>absurd hi (by omega),fun _ _=>rfl⟩,HV1,HB1⟩
 case round=>
  obtain⟨k,hk,rfl,⟨rs,HE,HD,HZ⟩,HV,HB⟩:=hrel;clear HE1 HV1 HB1;by_cases hlt:k<P
  ·have hi1:=fun w'=>qj gb P k w' hlt
   have hi2:=fun w'=>qK w.heap.size P k w' hlt
   have hc1:=HV.out.cell (i:=k) (by omega)
   have hc2:=HE.out.cell hlt;have HF:Hid (∀j,stpF bs P k j=(bs.getD k false&&decide (k+1<P)&&decide (j=k+1))):=fun j=>rfl
   have HZk:Hid (rs k=List.replicate (wordsN P) 0):=HZ.out k nlr;generalize bs.getD k false=q at *
   have HNO:Hid ((q&&decide (k+1<P))=false->(∀i,i<k+1->∀j,hasW (rs i) j=stpF bs P i j)):=fun hq i hi j=>by
    by_cases e:i=k
    ·subst e;rw[HZk.out,q2C,HF.out,hq];rfl
    ·exact HD.out i (by omega) j
   have HZn:Hid (∀i,k+1<=i->rs i=List.replicate (wordsN P) 0):=fun i hi=>HZ.out i (by omega)
   cases q with
   |false=>
    go_wp2
    go_roundw
    case rel=>exact⟨k+1,by omega,by go_num,⟨rs,HE,HNO.out (by simp),HZn⟩,HV,HB⟩
    case measure=>simp[intOf];omega
   |true=>
    by_cases hc:k+1<P
    ·have hck:(k:Int)+1<(P:Int):=by omega
     have hput:=q3u (w.heap.size+1+k) (wordsN P) (k+1) (rs k) wr (HE.out.rows k hlt) (HE.out.ok k hlt) (by unfold wordsN;omega) (by omega)
     have HPW:Hid (∀j,hasW (putW (rs k) (k+1)) j=decide (j=k+1)):=fun j=>by rw[q7j (HE.out.ok k hlt) (by unfold wordsN;omega),HZk.out,q2C,Bool.false_or]
     have HPO:Hid (OkW (wordsN P) (putW (rs k) (k+1))):=(HE.out.ok k hlt).put
     go_wp2_with fail
     rw[show ((k+1:Nat):Int)=(k:Int)+1 by omega]at hput
     refine hput.mono ?_
     rintro e w2 ⟨rfl,hr2,hg2⟩
     have HE2:Hid (EndAt w2 w.heap.size P (upd rs k (putW (rs k) (k+1)))):=HE.out.turn hlt hr2 HPO.out hg2;have HV2:Hid (ValAt w2 gb bs):=(hg2.block gb HV.out.lt (fun e=>by injection e with e;have:=HVL.out;omega)).trans HV.out
     have HB2:Hid (Below w.heap.size w w2):=HB.out.grown hg2 HB.out.size (fun j e=>by injection e with e;omega)
     clear hput hr2 hg2 hc1 hc2;go_wp2
     go_roundw
     case rel=>
      refine⟨k+1,by omega,by go_num,⟨_,HE2,fun i hi j=>?_,fun i hi=>?_⟩,HV2,HB2⟩
      ·by_cases e:i=k
       ·subst e;rw[q26,HPW.out,HF.out];simp[hc]
       ·rw[q1T _ _ e];exact HD.out i (by omega) j
      ·rw[q1T _ _ (by omega)];exact HZ.out i (by omega)
     case measure=>simp[intOf];omega
    ·have hck:¬(k:Int)+1<(P:Int):=by omega
     go_wp2
     go_roundw
     case rel=>exact⟨k+1,by omega,by go_num,⟨rs,HE,HNO.out (by simp[hc]),HZn⟩,HV,HB⟩
     case measure=>simp[intOf];omega
  ·obtain rfl:k=P:=by omega
   go_wp2;go_ret
   exact⟨rfl,⟨rs,HE.out,HD.out⟩,HB.out⟩
theorem q9d(gb P:Nat)(bs:List Bool)(w:World)(hP:P<=100000)(hV:ValAt w gb bs)(hl:bs.length=P):
  Calls Tryz.prog 79 #[.slice (some ⟨gb,0,none⟩) P P] w fun e w'=>e=.returned (.slice (some ⟨w.heap.size,0,none⟩) P P)/\(∃rs,EndAt w' w.heap.size P rs/\∀i,i<P->∀j,hasW (rs i) j=tstF bs P i j)/\Below w.heap.size w w':=by
 have hnow:=q2u P w hP;go_enter Tryz.func79,Tryz.ntmps79
 go_wp2_with fail
 refine hnow.mono ?_
 rintro e w1 ⟨rfl,hE1,hB1⟩
 have HE1:=hiq hE1
 have HV1:Hid (ValAt w1 gb bs):=hV.up hB1;have HB1:=hiq hB1;have HVL:Hid (gb<w.heap.size):=hV.lt;clear hnow hE1 hB1 hV;go_wp2
 go_loopw [11] (fun i wr=>∃k:Nat,k<=P/\i=.int .i64 k/\(∃rs,Hid (EndAt wr w.heap.size P rs)/\Hid (∀i,i<k->∀j,hasW (rs i) j=tstF bs P i j)/\Hid (∀i,k<=i->rs i=List.replicate (wordsN P) 0))/\Hid (ValAt wr gb bs)/\Hid (Below w.heap.size w wr)) (fun i _=>P-(intOf i).toNat)
 case atStart=>exact⟨0,Nat.zero_le _,rfl,⟨_,HE1,fun i hi=>absurd hi (by omega),fun _ _=>rfl⟩,HV1,HB1⟩
 case round=>
  obtain⟨k,hk,rfl,⟨rs,HE,HD,HZ⟩,HV,HB⟩:=hrel;clear HE1 HV1 HB1;by_cases hlt:k<P
  ·have hi1:=fun w'=>qj gb P k w' hlt
   have hi2:=fun w'=>qK w.heap.size P k w' hlt
   have hc1:=HV.out.cell (i:=k) (by omega)
   have hc2:=HE.out.cell hlt;have HF:Hid (∀j,tstF bs P k j=(bs.getD k false&&decide (j=k))):=fun j=>rfl
   have HZk:Hid (rs k=List.replicate (wordsN P) 0):=HZ.out k nlr;generalize bs.getD k false=q at *
   have HNO:Hid ((q)=false->(∀i,i<k+1->∀j,hasW (rs i) j=tstF bs P i j)):=fun hq i hi j=>by
    by_cases e:i=k
    ·subst e;rw[HZk.out,q2C,HF.out,hq];rfl
    ·exact HD.out i (by omega) j
   have HZn:Hid (∀i,k+1<=i->rs i=List.replicate (wordsN P) 0):=fun i hi=>HZ.out i (by omega)
   cases q with
   |false=>
    go_wp2
    go_roundw
    case rel=>exact⟨k+1,by omega,by go_num,⟨rs,HE,HNO.out (by simp),HZn⟩,HV,HB⟩
    case measure=>simp[intOf];omega
   |true=>
    have hput:=q3u (w.heap.size+1+k) (wordsN P) (k) (rs k) wr (HE.out.rows k hlt) (HE.out.ok k hlt) (by unfold wordsN;omega) (by omega)
    have HPW:Hid (∀j,hasW (putW (rs k) (k)) j=decide (j=k)):=fun j=>by rw[q7j (HE.out.ok k hlt) (by unfold wordsN;omega),HZk.out,q2C,Bool.false_or]
    have HPO:Hid (OkW (wordsN P) (putW (rs k) (k))):=(HE.out.ok k hlt).put
    go_wp2_with fail
    refine ( hput).mono ?_
    rintro e w2 ⟨rfl,hr2,hg2⟩
    have HE2:Hid (EndAt w2 w.heap.size P (upd rs k (putW (rs k) (k)))):=HE.out.turn hlt hr2 HPO.out hg2;have HV2:Hid (ValAt w2 gb bs):=(hg2.block gb HV.out.lt (fun e=>by injection e with e;have:=HVL.out;omega)).trans HV.out
    have HB2:Hid (Below w.heap.size w w2):=HB.out.grown hg2 HB.out.size (fun j e=>by injection e with e;omega)
    clear hput hr2 hg2 hc1 hc2;go_wp2
    go_roundw
    case rel=>
     refine⟨k+1,by omega,by go_num,⟨_,HE2,fun i hi j=>?_,fun i hi=>?_⟩,HV2,HB2⟩
     ·by_cases e:i=k
      ·subst e;rw[q26,HPW.out,HF.out];simp 
      ·rw[q1T _ _ e];exact HD.out i (by omega) j
     ·rw[q1T _ _ (by omega)];exact HZ.out i (by omega)
    case measure=>simp[intOf];omega
  ·obtain rfl:k=P:=by omega
   go_wp2;go_ret
   exact⟨rfl,⟨rs,HE.out,HD.out⟩,HB.out⟩
def plusTo (rs us:Nat->List Nat) (k i:Nat):List Nat:=if i<k then joinW (rs i) (us i) (i / 64) else rs i
theorem qdG(rs us:Nat->List Nat)(k:Nat):upd (plusTo rs us k) k (joinW (rs k) (us k) (k / 64))=plusTo rs us (k+1):=by
 funext j
 unfold upd plusTo;by_cases e:j=k
 ·subst e;rw[if_pos rfl,if_pos (Nat.lt_succ_self _)]
 ·rw[if_neg e]
  by_cases h:j<k
  ·rw[if_pos h,if_pos (by omega)]
  ·rw[if_neg h,if_neg (by omega)]
theorem q27{k P:Nat}(h:k<P):k / 64<wordsN P:=by unfold wordsN;omega
theorem q7D{P:Nat}(h:P<=100000):wordsN P<=1000000:=by unfold wordsN;omega
theorem EndAt.other{w w':World}{g P j:Nat}{rs:Nat->List Nat}(h:EndAt w g P rs)(hb:w.grownBy w' (some j))(hj:j<g\/g+P<j):EndAt w' g P rs :=
 h.keep fun k _ _ _ hc _ h1 h2=>hb.block k (aes hc).1 (fun e=>by injection e with e;omega)
theorem q9a(g g' P:Nat)(rs us:Nat->List Nat)(w:World)(hP:P<=100000)(hA:EndAt w g P rs)(hB:EndAt w g' P us)(hd:g+P<g'):
  Calls Tryz.prog 83 #[.slice (some ⟨g,0,none⟩) P P,.slice (some ⟨g',0,none⟩) P P] w fun e w'=>e=.returned (.slice (some ⟨g,0,none⟩) P P)/\EndAt w' g P (plusTo rs us P)/\Only (g+1) w w':=by
 have HA:Hid (EndAt w g P (plusTo rs us 0)):=by
  have e:plusTo rs us 0=rs:=by funext j;exact if_neg (by omega)
  show EndAt _ _ _ _;rw[e];exact hA
 have HB:=hiq hB;clear hA hB;go_enter Tryz.func83,Tryz.ntmps83
 go_wp2
 go_loopw [8] (fun i wr=>∃k:Nat,k<=P/\i=.int .i64 k/\Hid (EndAt wr g P (plusTo rs us k))/\Hid (EndAt wr g' P us)/\Hid (Only (g+1) w wr)) (fun i _=>P-(intOf i).toNat)
 case atStart=>exact⟨0,Nat.zero_le _,rfl,HA,HB,Only.refl _ _⟩
 case round=>
  obtain⟨k,hk,rfl,HE,HU,HO⟩:=hrel;clear HA HB;by_cases hlt:k<P
  ·have hi1:=fun w'=>qK g P k w' hlt
   have hi2:=fun w'=>qK g' P k w' hlt
   have hc1:=HE.out.cell hlt;have hc2:=HU.out.cell hlt;have e0:plusTo rs us k k=rs k:=if_neg (Nat.lt_irrefl _);have hr1:=HE.out.rows k hlt;have ho1:=HE.out.ok k hlt;rw[e0]at hr1 ho1;have hjn:=q2X (g+1+k) (g'+1+k) (wordsN P) k (rs k) (us k) wr.drew hr1 (HU.out.rows k hlt) ho1 (HU.out.ok k hlt) (fun e=>by omega) (q27 hlt) (q7D hP)
   have HX:Hid (∀w2,RowU w2 (g+1+k) (joinW (rs k) (us k) (k / 64))->wr.drew.grownBy w2 (some (g+1+k))->EndAt w2 g P (plusTo rs us (k+1))/\EndAt w2 g' P us/\Only (g+1) w w2):=fun w2 h1 h2=>by
    have h2':wr.grownBy w2 (some (g+1+k)):=⟨h2.os,h2.tape,h2.output,h2.size,h2.block⟩;refine⟨?_,HU.out.other h2' (Or.inl (by omega)),HO.out.trans (Only.of_row hr1 h2' (by omega))⟩
    rw[<-qdG];exact HE.out.turn hlt h1 (ho1.join (HU.out.ok k hlt) _ _) h2'
   have hkeep:∀w2,wr.drew.grownBy w2 (some (g+1+k))->w2.cell? ⟨g,k,none⟩=some (.slice (some ⟨g+1+k,0,none⟩) (wordsN P) (wordsN P))/\w2.cell? ⟨g',k,none⟩=some (.slice (some ⟨g'+1+k,0,none⟩) (wordsN P) (wordsN P)):=fun w2 h2=>
    ⟨q1B (w0:=wr.drew) hc1 h2 (fun e=>by injection e with e;dsimp only at e;omega),q1B (w0:=wr.drew) hc2 h2 (fun e=>by injection e with e;dsimp only at e;omega)⟩
   have hk0:wr.cell? ⟨g,k,none⟩=some (.slice (some ⟨g+1+k,0,none⟩) (wordsN P) (wordsN P))/\wr.cell? ⟨g',k,none⟩=some (.slice (some ⟨g'+1+k,0,none⟩) (wordsN P) (wordsN P)):=⟨hc1,hc2⟩;clear hr1 ho1 e0;generalize wordsN P=W at *;go_wp2
   go_region_held3 (fun w'=>w'.cell? ⟨g,k,none⟩=some (.slice (some ⟨g+1+k,0,none⟩) W W)/\w'.cell? ⟨g',k,none⟩=some (.slice (some ⟨g'+1+k,0,none⟩) W W)) (first|exact hk0|exact hkeep _ ‹_›) ((go_at_call 106;refine hjn.mono ?_;rintro e w2 ⟨rfl,hr2,hg2⟩))
   obtain⟨q1,q2,q3⟩:=HX.out _ hr2 hg2;have H1:Hid _:=q1;have H2:Hid _:=q2;have H3:Hid _:=q3;clear hjn hkeep hk0 hc1 hc2 hr2 hg2 q1 q2 q3 HX;go_wp2
   go_roundw
   case rel=>exact⟨k+1,by omega,by go_num,H1,H2,H3⟩
   case measure=>simp[intOf];omega
  ·obtain rfl:k=P:=by omega
   go_wp2;go_ret
   exact⟨rfl,HE.out,HO.out⟩
def SeqTo (rs us:Nat->List Nat) (i j:Nat) (x:List Nat):Prop:=∀k,hasW x k=true↔∃m,m<j/\hasW (rs i) m=true/\hasW (us m) k=true
theorem SeqTo.skip{rs us:Nat->List Nat}{i j:Nat}{x:List Nat}(h:SeqTo rs us i j x)(hn:hasW (rs i) j=false):SeqTo rs us i (j+1) x:=fun k=>by
 rw[h k]
 constructor
 ·rintro⟨m,h1,h2⟩;exact⟨m,by omega,h2⟩
 ·rintro⟨m,h1,h2⟩
  by_cases e:m=j
  ·subst e;rw[hn]at h2;cases h2.1
  ·exact⟨m,by omega,h2⟩
theorem SeqTo.join{rs us:Nat->List Nat}{i j W:Nat}{x:List Nat}(h:SeqTo rs us i j x)(hn:hasW (rs i) j=true)(hx:OkW W x)(hu:OkW W (us j))(hq:∀k,hasW (us j) k=true->j<=k):SeqTo rs us i (j+1) (joinW x (us j) (j / 64)):=fun k=>by
 rw[q49 hx hu j k hq,Bool.or_eq_true,h k]
 constructor
 ·rintro (⟨m,h1,h2⟩|h1)
  ·exact⟨m,by omega,h2⟩
  ·exact⟨j,by omega,hn,h1⟩
 ·rintro⟨m,h1,h2,h3⟩
  by_cases e:m=j
  ·subst e;exact Or.inr h3
  ·exact Or.inl ⟨m,by omega,h2,h3⟩
theorem qb8(g g' P:Nat)(rs us:Nat->List Nat)(w:World)(hP:P<=100000)(hA:EndAt w g P rs)(hB:EndAt w g' P us)(hq:∀j,j<P->∀k,hasW (us j) k=true->j<=k):
  Calls Tryz.prog 84 #[.slice (some ⟨g,0,none⟩) P P,.slice (some ⟨g',0,none⟩) P P] w fun e w'=>e=.returned (.slice (some ⟨w.heap.size,0,none⟩) P P)/\(∃xs,EndAt w' w.heap.size P xs/\∀i,i<P->SeqTo rs us i P (xs i))/\Below w.heap.size w w':=by
 have hnow:=q2u P w hP;have HQ:Hid _:=hq;have HA:=hiq hA;have HB:=hiq hB;have hl1:=hA.lt;have hl2:=hB.lt;clear hA hB hq;go_enter Tryz.func84,Tryz.ntmps84
 go_wp2_with fail
 refine hnow.mono ?_
 rintro e w1 ⟨rfl,hE1,hB1⟩
 have HE1:=hiq hE1
 have HB1:=hiq hB1;clear hnow hE1 hB1;go_wp2
 go_loopw [13] (fun i wr=>∃n:Nat,n<=P/\i=.int .i64 n/\(∃xs,Hid (EndAt wr w.heap.size P xs)/\Hid (∀i,i<n->SeqTo rs us i P (xs i))/\Hid (∀i,n<=i->xs i=List.replicate (wordsN P) 0))/\Hid (Below w.heap.size w wr)) (fun i _=>P-(intOf i).toNat)
 case atStart=>exact⟨0,Nat.zero_le _,rfl,⟨_,HE1,fun i hi=>absurd hi (by omega),fun _ _=>rfl⟩,HB1⟩
 case round=>
  obtain⟨n,hn,rfl,⟨xs0,HE0,HD0,HZ0⟩,HW0⟩:=hrel;clear HE1 HB1;by_cases hnP:n<P
  ·go_wp2
   go_loopw [18] (fun i wr=>∃k:Nat,k<=P/\i=.int .i64 k/\(∃xs,Hid (EndAt wr w.heap.size P xs)/\Hid (∀i,i<n->SeqTo rs us i P (xs i))/\Hid (SeqTo rs us n k (xs n))/\Hid (∀i,n+1<=i->xs i=List.replicate (wordsN P) 0))/\Hid (Below w.heap.size w wr)) (fun i _=>P-(intOf i).toNat)
   case atStart=>exact⟨0,Nat.zero_le _,rfl,⟨xs0,HE0,HD0,fun k=>by rw[HZ0.out n nlr,q2C];exact⟨fun h=>(by cases h),fun⟨m,h,_⟩=>absurd h (by omega)⟩,fun i hi=>HZ0.out i (by omega)⟩,HW0⟩
   case round=>
    obtain⟨k,hk,rfl,⟨xs,HE,HD,HS,HZ⟩,HW⟩:=hrel;clear HE0 HD0 HZ0 HW0;by_cases hlt:k<P
    ·have hA2:=HA.out.up HW.out
     have hB2:=HB.out.up HW.out;have hhas:=fun W (h:Below wr.heap.size wr W)=>q3t (g+1+n) (wordsN P) k (rs n) W ((hA2.rows n hnP).up h) (HA.out.ok n hnP) (q27 hlt) (by omega)
     have hi0:=fun w'=>qK g P n w' hnP
     have hc0:=hA2.cell hnP;have HSK:Hid _:=HS.out.skip;have HSJ:Hid _:=fun hn=>HS.out.join hn (HE.out.ok n hnP) (HB.out.ok k hlt) (HQ.out k hlt)
     go_wp2_with fail
     refine (hhas _ (Below.refl _ _)).mono ?_
     rintro e w3 ⟨rfl,hb3⟩
     have HE3:Hid _:=HE.out.up hb3;have HW3:Hid (Below w.heap.size w w3):=qd HW.out hb3;clear hhas hi0 hc0 hb3 HE HW HS hA2 hB2
     cases hh:hasW (rs n) k with
     |false=>
      have HS4:Hid _:=HSK.out hh;clear hh HSK HSJ;go_wp2
      go_roundw
      case rel=>exact⟨k+1,by omega,by go_num,⟨xs,HE3,HD,HS4,HZ⟩,HW3⟩
      case measure=>simp[intOf];omega
     |true=>
      have HS4:Hid _:=HSJ.out hh;have hi1:=fun w'=>qK w.heap.size P n w' hnP
      have hi2:=fun w'=>qK g' P k w' hlt
      have hc1:=HE3.out.cell hnP;have hB3:=HB.out.up HW3.out;have hc2:=hB3.cell hlt;have hr1:=HE3.out.rows n hnP;have ho1:=HE3.out.ok n hnP;have hjn:=q2X (w.heap.size+1+n) (g'+1+k) (wordsN P) k (xs n) (us k) w3.drew hr1 (hB3.rows k hlt) ho1 (hB3.ok k hlt) (fun e=>by omega) (q27 hlt) (q7D hP)
      have HX:Hid (∀w2,RowU w2 (w.heap.size+1+n) (joinW (xs n) (us k) (k / 64))->w3.drew.grownBy w2 (some (w.heap.size+1+n))->EndAt w2 w.heap.size P (upd xs n (joinW (xs n) (us k) (k / 64)))/\Below w.heap.size w w2):=fun w2 h1 h2=>by
       have h2':w3.grownBy w2 (some (w.heap.size+1+n)):=⟨h2.os,h2.tape,h2.output,h2.size,h2.block⟩;exact⟨HE3.out.turn hnP h1 (ho1.join (hB3.ok k hlt) _ _) h2',HW3.out.grown h2' HW3.out.size (fun j e=>by injection e with e;omega)⟩
      have hkeep:∀w2,w3.drew.grownBy w2 (some (w.heap.size+1+n))->w2.cell? ⟨w.heap.size,n,none⟩=some (.slice (some ⟨w.heap.size+1+n,0,none⟩) (wordsN P) (wordsN P))/\w2.cell? ⟨g',k,none⟩=some (.slice (some ⟨g'+1+k,0,none⟩) (wordsN P) (wordsN P)):=fun w2 h2=>
       ⟨q1B (w0:=w3.drew) hc1 h2 (fun e=>by injection e with e;dsimp only at e;omega),q1B (w0:=w3.drew) hc2 h2 (fun e=>by injection e with e;dsimp only at e;omega)⟩
      have hk0:w3.cell? ⟨w.heap.size,n,none⟩=some (.slice (some ⟨w.heap.size+1+n,0,none⟩) (wordsN P) (wordsN P))/\w3.cell? ⟨g',k,none⟩=some (.slice (some ⟨g'+1+k,0,none⟩) (wordsN P) (wordsN P)):=⟨hc1,hc2⟩;clear hr1 ho1 hB3 hh HSK HSJ HE3 HW3;generalize hWW:wordsN P=W at *;have HWW:=hiq hWW;clear hWW;go_wp2
      go_region_held3 (fun w'=>w'.cell? ⟨w.heap.size,n,none⟩=some (.slice (some ⟨w.heap.size+1+n,0,none⟩) W W)/\w'.cell? ⟨g',k,none⟩=some (.slice (some ⟨g'+1+k,0,none⟩) W W)) (first|exact hk0|exact hkeep _ ‹_›) ((go_at_call 106;refine hjn.mono ?_;rintro e w2 ⟨rfl,hr2,hg2⟩))
      obtain⟨q1,q2⟩:=HX.out _ hr2 hg2;have H1:Hid _:=q1;have H2:Hid _:=q2;clear hjn hkeep hk0 hc1 hc2 hr2 hg2 q1 q2 HX;go_wp2
      go_roundw
      case rel=>
       refine⟨k+1,by omega,by go_num,⟨_,H1,fun i hi=>?_,?_,fun i hi=>?_⟩,H2⟩
       ·rw[q1T _ _ (by omega)];exact HD.out i hi
       ·show SeqTo _ _ _ _ _;rw[q26];exact HS4.out
       ·rw[q1T _ _ (by omega),HWW.out];exact HZ.out i hi
      case measure=>simp[intOf];omega
    ·obtain rfl:k=P:=by omega
     go_wp2
     go_roundw
     case rel=>
      refine⟨n+1,by omega,by go_num,⟨xs,HE,fun i hi=>?_,HZ⟩,HW⟩
      by_cases e:i=n
      ·subst e;exact HS.out
      ·exact HD.out i (by omega)
     case measure=>simp[intOf];omega
  ·obtain rfl:n=P:=by omega
   go_wp2;go_ret
   exact⟨rfl,⟨xs0,HE0.out,HD0.out⟩,HW0.out⟩
def Rl (rs:Nat->List Nat) (i k:Nat):Prop:=hasW (rs i) k=true
structure StarI (rs xs:Nat->List Nat) (P:Nat):Prop where
 refl:∀i,i<P->hasW (xs i) i=true
 sound:∀i,i<P->∀k,hasW (xs i) k=true->∃m,stepsP (Rl rs) m i k
def InR (rs:Nat->List Nat) (P:Nat):Prop:=∀i,i<P->∀k,hasW (rs i) k=true->i<=k/\k<P
theorem InR.steps{rs:Nat->List Nat}{P:Nat}(h:InR rs P){m i k:Nat}(hi:i<P)(hs:stepsP (Rl rs) m i k):i<=k/\k<P:=by
 have:=q5g (w:=Rl rs) (n:=P-1) (fun i k hi hk=>by have:=h i (by omega) k hk;omega) m i k (by omega) hs
 omega
theorem StarI.fwd{rs xs:Nat->List Nat}{P:Nat}(h:StarI rs xs P)(hr:InR rs P){j:Nat}(hj:j<P)(k:Nat)(hk:hasW (xs j) k=true):j<=k:=by
 obtain⟨m,hm⟩:=h.sound j hj k hk;exact(hr.steps hj hm).1
theorem StarI.join{rs xs:Nat->List Nat}{P W:Nat}(h:StarI rs xs P)(hr:InR rs P){i j:Nat}(hi:i<P)(hj:j<P)(hW:∀i,i<P->OkW W (xs i))(hR:hasW (rs i) j=true):StarI rs (upd xs i (joinW (xs i) (xs j) (j / 64))) P:=by
 have hb:=fun k=>q49 (hW i hi) (hW j hj) j k (h.fwd hr hj)
 refine⟨fun i' hi'=>?_,fun i' hi' k hk=>?_⟩
 ·by_cases e:i'=i
  ·subst e;rw[q26,hb,h.refl _ hi];rfl
  ·rw[q1T _ _ e];exact h.refl i' hi'
 ·by_cases e:i'=i
  ·subst e
   rw[q26,hb,Bool.or_eq_true]at hk;rcases hk with hk|hk
   ·exact h.sound _ hi k hk
   ·obtain⟨m,hm⟩:=h.sound j hj k hk
    exact⟨m+1,j,hR,hm⟩
  ·rw[q1T _ _ e]at hk;exact h.sound i' hi' k hk
def ClI (rs xs:Nat->List Nat) (i j:Nat):Prop:=∀m,m<j->hasW (rs i) m=true->∀k,hasW (xs m) k=true->hasW (xs i) k=true
theorem ClI.skip{rs xs:Nat->List Nat}{i j:Nat}(h:ClI rs xs i j)(hn:hasW (rs i) j=false):ClI rs xs i (j+1):=fun m hm hr=>by
 by_cases e:m=j
 ·subst e;rw[hn]at hr;cases hr
 ·exact h m (by omega) hr
theorem ClI.join{rs xs:Nat->List Nat}{i j P W:Nat}(h:ClI rs xs i j)(hs:StarI rs xs P)(hr:InR rs P)(hi:i<P)(hj:j<P)(hW:∀i,i<P->OkW W (xs i))(he:joinW (xs i) (xs j) (j / 64)=xs i):ClI rs xs i (j+1):=fun m hm hrm k hk=>by
 by_cases e:m=j
 ·subst e
  have:=q49 (hW i hi) (hW m hj) m k (hs.fwd hr hj)
  rw[he,hk,Bool.or_true]at this;exact this
 ·exact h m (by omega) hrm k hk
theorem qg0{rs xs:Nat->List Nat}{P:Nat}(h:StarI rs xs P)(hr:InR rs P)(hc:∀i,i<P->ClI rs xs i P){i:Nat}(hi:i<P)(k:Nat):hasW (xs i) k=true↔∃m,stepsP (Rl rs) m i k:=by
 refine⟨h.sound i hi k,?_⟩
 rintro⟨m,hm⟩
 induction m generalizing i with
 |zero=>have e:i=k:=hm;subst e;exact h.refl _ hi
 |succ m ih=>
  obtain⟨j,h1,h2⟩:=hm;have hj:=hr i hi j h1;exact hc i hi j hj.2 h1 k (ih hj.2 h2)
theorem qhm{xs:Nat->List Nat}{P i:Nat}{us:List Nat}(p:Nat)(hi:i<P)(hne:joinW (xs i) us p≠xs i):tot P xs<tot P (upd xs i (joinW (xs i) us p)):=by
 have h1:=qed P xs i (joinW (xs i) us p) hi;have h2:=(qg2 (xs:=xs i) (ys:=joinW (xs i) us p) (q2f ..).symm (qeE _ _ _ _)).2 (fun e=>hne e.symm)
 omega
structure StR (rs x0 xs:Nat->List Nat) (P:Nat) (bb:Bool):Prop where
 st:StarI rs xs P
 ch:bb=true->tot P x0<tot P xs
 same:bb=false->xs=x0
theorem StR.le{rs x0 xs:Nat->List Nat}{P:Nat}{bb:Bool}(h:StR rs x0 xs P bb):tot P x0<=tot P xs:=by
 cases bb with
 |true=>exact Nat.le_of_lt (h.ch rfl)
 |false=>rw[h.same rfl];exact Nat.le_refl _
def rowOf (w:World) (b:Nat):List Nat:=match w.heap[b]? with
 |some (.cells cur _ _)=>cur.toList.map fun v=>(intOf v).toNat
 |_=>[]
theorem RowU.rowOf{w:World}{b:Nat}{ws:List Nat}(h:RowU w b ws):rowOf w b=ws:=by
 unfold RowU encU at h;unfold Proofs.YtailhklbmenaoaaGreatDoor.rowOf;rw[h];simp[intOf,Function.comp_def]
def memTot (w:World) (g P:Nat):Nat:=tot P fun i=>rowOf w (g+1+i)
theorem qaH:∀(P:Nat) (xs ys:Nat->List Nat),(∀i,i<P->xs i=ys i)->tot P xs=tot P ys
 | 0,_,_,_=>rfl
 |P+1,xs,ys,h=>by unfold tot;rw[qaH P xs ys fun i hi=>h i (by omega),h P (by omega)]
theorem EndAt.mem{w:World}{g P:Nat}{xs:Nat->List Nat}(h:EndAt w g P xs):memTot w g P=tot P xs:=qaH _ _ _ fun i hi=>(h.rows i hi).rowOf
def boolOf:Value->Nat | .bool true=>1|_=>0
def starM (v:Value) (w:World) (g P:Nat):Nat:=boolOf v+2*(P*(wordsN P*18446744073709551616)-memTot w g P)
theorem qeY{w w':World}{g P:Nat}{xs ys:Nat->List Nat}(h:EndAt w g P xs)(k:EndAt w' g P ys)(hl:tot P xs<tot P ys):starM (.bool true) w' g P<starM (.bool true) w g P:=by
 unfold starM;rw[h.mem,k.mem];have:=qg6 (W:=wordsN P) P ys k.ok
 generalize P*(wordsN P*18446744073709551616)=B at *
 omega
theorem qdJ{w w':World}{g P:Nat}{xs ys:Nat->List Nat}(h:EndAt w g P xs)(k:EndAt w' g P ys)(hl:tot P xs<=tot P ys):starM (.bool false) w' g P<starM (.bool true) w g P:=by
 unfold starM;rw[h.mem,k.mem]
 show 0+_<1+_
 generalize P*(wordsN P*18446744073709551616)=B at *
 omega
end Go.Proofs.YtailhklbmenaoaaGreatDoor
