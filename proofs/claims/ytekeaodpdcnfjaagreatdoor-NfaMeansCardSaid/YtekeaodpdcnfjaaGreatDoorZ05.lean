/- Texts of the proof, put together: what it uses. -/
import Derived.Deep.RegionLaw
import Derived.Deep.DeepCutAuto
import Derived.Deep.RegionHeld3
import Derived.Laws.BytesString
import Derived.Laws.IdiomStrings
import Derived.Lib.AppendZerosOnto
import Derived.WalkSmall
import Derived.Test.YtekeaodpdcnfjaaGreatDoorZ00
import Derived.Test.YtekeaodpdcnfjaaGreatDoorZ01
import Derived.Test.YtekeaodpdcnfjaaGreatDoorZ02
import Derived.Test.YtekeaodpdcnfjaaGreatDoorZ03
set_option maxRecDepth 100000
set_option maxHeartbeats 16000000
namespace Go.Proofs.YtekeaodpdcnfjaaGreatDoor
open Go.RowKit Go.Maps
def itO (x:It):Obj:=.cells #[.int .u8 (x.op:Int),.int .u8 (x.p:Int),.int .i64 x.a,.int .i64 x.b] 140 (0,0)
theorem qdt{w:World}{o:Oper}{a:Act}{K:Act->World->Prop}{Q:Exit->Act->World->Prop}(s x:Operand)
  (ho:o.op=.call { callee:=.builtin .append,args:=#[s,x],argTypes:=#[99,99] })
  (v:Value) (n:Nat) (items:List It) (y:It) (g:Nat) (hs:a.eval s=v) (hx:a.eval x=.slice (some ⟨g,0,none⟩) 1 1) (hown:w.ownsRow 0 140 4 v n (encI items))
  (hB:w.heap[g]? = some (itO y)) (hn:n<=100000000)
  (h:∀v' w',w'.ownsRow 0 140 4 v' (n+1) (encI (items++[y]))->w.grownBy w' v.ownBlock->(v'.ownBlock=v.ownBlock\/v'.ownBlock=some w.heap.size)->K (a.put o.dst v') w'):o.wp Tryz.prog a w K Q:=by
 obtain⟨i,hi,hz0,hz1,hz2⟩:=info_parts qad
 obtain⟨v',w',hr,h2,h3,_,h5⟩:=run_append_own_at (P:=Tryz.prog) w 0 99 o.type 140 i _ 4 24 Tryz.underlying99 hi hz0 hz1 hz2 rfl (by decide) v n _ hown ⟨g,0,none⟩ 1 1 (encI [y]) rfl (fun j u hj=>by
  rw[qg,Nat.zero_add,qb hB];simpa [encI] using hj) (qbI y) (by unfold maxLen;omega) (by omega) (Nat.zero_le _)
 unfold Oper.wp execOp;simp only[ho,resolve,invoke,builtin,Sem.run_bind,Sem.run_pure,Result.andThen_ok,List.map_toArray,List.map_cons,List.map_nil,hs,hx,hr]
 exact h v' w' (by rw[q6l];exact h2) h3 h5
theorem q5f{w:World}{ops:Array Oper}{o:Oper}{a:Act}{K:Act->World->Prop}{Q:Exit->Act->World->Prop}{E:Prop}(hw:Region.wanted o (yielded ops a.tmps)=true)(s x:Operand)
  (ho:o.op=.call { callee:=.builtin .append,args:=#[s,x],argTypes:=#[99,99] })
  (v:Value) (n:Nat) (items:List It) (y:It) (g:Nat) (hs:a.eval s=v) (hx:a.eval x=.slice (some ⟨g,0,none⟩) 1 1) (hown:w.ownsRow 0 140 4 v n (encI items))
  (hB:w.heap[g]? = some (itO y)) (hn:n<=100000000)
  (h:∀v' w',w'.ownsRow 0 140 4 v' (n+1) (encI (items++[y]))->w.grownBy w' v.ownBlock->(v'.ownBlock=v.ownBlock\/v'.ownBlock=some w.heap.size)->K (a.put o.dst v') w'):
  if Region.wanted o (yielded ops a.tmps)=true then Oper.wp Tryz.prog o a w K Q else E:=by
 rw[if_pos hw];exact qdt s x ho v n items y g hs hx hown hB hn h
theorem qE{w:World}{base e size n:Nat}{v:Value}{xs:List Value}(h:w.ownsRow base e size v n xs):∃a cap,v=.slice a n cap:=by
 rcases h.2 with⟨rfl,rfl⟩|⟨g,cap,cur,rfl,_⟩
 ·exact⟨none,0,rfl⟩
 ·exact⟨_,cap,rfl⟩
theorem q4B{w:World}{base n g:Nat}{v:Value}{xs:List Value}{o:Obj}(h:w.ownsRow base 140 4 v n xs)(hg:w.heap[g]? = some o)(ho:∀cs,o≠.cells cs 140 (0,0)):v.ownBlock≠some g:=by
 rcases h.2 with⟨rfl,_⟩|⟨g',cap,cur,rfl,_,hc,_⟩
 ·intro e;cases e
 ·intro e
  injection e with e;dsimp only at e
  subst e;rw[hg]at hc;injection hc with hc;exact ho _ hc
theorem q9R{items:List It}{x:It}(hx:x ∉ items)(y:It):(if y=x then some items.length else posI items y)=posI (items++[x]) y:=by
 unfold posI;rw[List.findIdx?_append];by_cases e:y=x
 ·subst e
  rw[if_pos rfl,show items.findIdx? (· = y)=none from q1R.2 hx];simp
 ·rw[if_neg e]
  have:¬ x=y:=fun h=>e h.symm
  simp[this]
structure Mid (w w6:World) (t:Nat) (a6:Option Addr) (n c6 mb:Nat) (items:List It) (x:It) (a:Option Addr) (cap:Nat):Prop where
 blk:w6.heap[t]? = some (.cells #[tbV t,.slice a6 (n+1) c6,.map (some mb)] 175 (0,0))
 row:w6.ownsRow 0 140 4 (.slice a6 (n+1) c6) (n+1) (encI (items++[x]))
 num:NumOf w6 mb n (posI items)
 box:w6.heap[w.heap.size]? = some (itO x)
 os:w6.os=w.os
 tape:w6.tape=w.tape
 output:w6.output=w.output
 size:w.heap.size<w6.heap.size
 keep:∀k,k<w.heap.size->k≠t->(Value.slice a n cap).ownBlock≠some k->w6.heap[k]? = w.heap[k]?
 loc:∀k,(Value.slice a6 (n+1) c6).ownBlock=some k->(Value.slice a n cap).ownBlock=some k\/w.heap.size<=k
theorem qhv{w w5:World}{t n cap mb:Nat}{a:Option Addr}{items:List It}(h:TabR w t a n cap mb items)(x:It)
  (hg:((w.alloc (itO x)).alloc (itO x)).drew.grownBy w5 (Value.slice a n cap).ownBlock) (a5:Option Addr) (c5:Nat) (ho:w5.ownsRow 0 140 4 (.slice a5 (n+1) c5) (n+1) (encI (items++[x])))
  (hl:(Value.slice a5 (n+1) c5).ownBlock=(Value.slice a n cap).ownBlock\/(Value.slice a5 (n+1) c5).ownBlock=some ((w.alloc (itO x)).alloc (itO x)).drew.heap.size):
  w5.heap[t]? = some (.cells #[tbV t,.slice a n cap,.map (some mb)] 175 (0,0))/\Mid w (w5.setCell ⟨t,1,none⟩ (.slice a5 (n+1) c5)) t a5 n c5 mb items x a cap:=by
 have hb1:=qc w (itO x);have hb2:=qd hb1 (qc (w.alloc (itO x)) (itO x));have htl:=(aes h.blk).1
 have hne:(Value.slice a n cap).ownBlock≠some t:=q4B h.row h.blk (fun cs e=>by injection e with _ e _;exact absurd e (by decide))
 obtain⟨es,cl,hmap⟩:=h.num.isMap;have hnm:(Value.slice a n cap).ownBlock≠some mb:=q4B h.row hmap (fun cs e=>by cases e)
 have hmt:mb≠t:=fun e=>by rw[e,h.blk]at hmap;cases hmap
 have hz2:((w.alloc (itO x)).alloc (itO x)).drew.heap.size=w.heap.size+2:=by simp
 have hlb:∀k,(Value.slice a n cap).ownBlock=some k->k<w.heap.size:=qC h.row;have st:∀k,k<w.heap.size->(Value.slice a n cap).ownBlock≠some k->w5.heap[k]? = w.heap[k]? := fun k hk hn=>(hg.block k (by omega) (fun e=>hn e.symm)).trans (hb2.block k hk)
 have h5:w5.heap[t]? = some (.cells #[tbV t,.slice a n cap,.map (some mb)] 175 (0,0)):=(st t htl hne).trans h.blk;have hs5:=hg.size;refine⟨h5,⟨?_,?_,?_,?_,hg.os,hg.tape,hg.output,?_,fun k hk hkt hkn=>?_,fun k hk=>?_⟩⟩
 ·rw[heap_setCell_same w5 t 1 _ _ _ h5];rfl
 ·refine qn ho fun k hk=>Below.heap_setCell _ _ _ _ ?_
  dsimp only
  rintro rfl
  rcases hl with e|e
  ·rw[e]at hk;exact hne hk
  ·rw[e]at hk;injection hk with hk;omega
 ·exact h.num.far ((Below.heap_setCell _ _ _ _ (by dsimp only;exact hmt)).trans (st mb h.num.lt hnm))
 ·refine (Below.heap_setCell _ _ _ _ (by dsimp only;omega)).trans ((hg.block _ (by omega) (fun e=>?_)).trans ?_)
  ·have:=hlb _ e.symm;omega
  ·exact((qc (w.alloc (itO x)) (itO x)).block _ (by simp)).trans (MapKept.heap_alloc w (itO x)).1
 ·simp;omega
 ·exact(Below.heap_setCell _ _ _ _ (by dsimp only;exact hkt)).trans (st k hk hkn)
 ·rcases hl with e|e
  ·rw[e]at hk;exact Or.inl hk
  ·rw[e]at hk;injection hk with hk;right;omega
theorem qg9{w w6 w7:World}{F:Nat->Prop}{t cap mb:Nat}{a:Option Addr}{items:List It}(h:TabI w F t items)(hF:∀k,F k↔(k=t\/k=mb\/(Value.slice a items.length cap).ownBlock=some k)){x:It}(hx:ItOk x)(hn:x ∉ items)(hl:items.length<4096)
  {a6:Option Addr} {c6:Nat} (m:Mid w w6 t a6 items.length c6 mb items x a cap) (hn7:NumOf w7 mb (items.length+1) (fun y=>if y=x then some items.length else posI items y)) (hg:w6.drew.grownBy w7 (some mb)) (hmw:mb<w.heap.size):
  ∃F',TabI w7 F' t (items++[x])/\Fr w w7 F F':=by
 have hsz:=m.size;have hs7:=hg.size;have hs7':w6.heap.size<=w7.heap.size:=hs7;obtain⟨es,cl,hmap⟩:=m.num.isMap;have hmt:t≠mb:=fun e=>by rw[<- e,m.blk]at hmap;cases hmap
 have hnm:(Value.slice a6 (items.length+1) c6).ownBlock≠some mb:=q4B m.row hmap (fun cs e=>by cases e)
 have htl:t<w6.heap.size:=(aes m.blk).1
 have st:∀k,k<w6.heap.size->k≠mb->w7.heap[k]? = w6.heap[k]? := fun k hk hne=>hg.block k hk (fun e=>hne (by injection e))
 refine⟨fun k=>k=t\/k=mb\/(Value.slice a6 (items.length+1) c6).ownBlock=some k,⟨?_,?_,?_,.slice a6 (items.length+1) c6,mb,(st t htl hmt).trans m.blk,?_,?_,fun k=>Iff.rfl⟩,?_⟩
 ·exact List.nodup_append.2 ⟨h.nd,by simp,fun a ha b hb=>by simp at hb;subst hb;exact fun e=>hn (e ▸ ha)⟩
 ·simp;omega
 ·intro y hy
  rcases List.mem_append.1 hy with hy|hy
  ·exact h.ok y hy
  ·simp at hy;subst hy;exact hx
 ·rw[List.length_append]
  exact qn m.row fun k hk=>st k (qC m.row k hk) (fun e=>hnm (e ▸ hk))
 ·rw[List.length_append]
  exact hn7.alike fun y _=>q9R hn y
 ·refine⟨hg.os.trans m.os,hg.tape.trans m.tape,hg.output.trans m.output,by omega,fun k hk hf=>?_,fun k hk=>?_⟩
  ·have hf':=fun e=>hf ((hF k).2 e)
   exact(st k (by omega) (fun e=>hf' (Or.inr (Or.inl e)))).trans (m.keep k hk (fun e=>hf' (Or.inl e)) (fun e=>hf' (Or.inr (Or.inr e))))
  ·rcases hk with rfl|rfl|hk
   ·exact Or.inl ((hF k).2 (Or.inl rfl))
   ·exact Or.inl ((hF k).2 (Or.inr (Or.inl rfl)))
   ·rcases m.loc k hk with e|e
    ·exact Or.inl ((hF k).2 (Or.inr (Or.inr e)))
    ·exact Or.inr e
theorem qaI{w:World}{F:Nat->Prop}{t:Nat}{items:List It}(h:TabI w F t items)(x:It)(hx:ItOk x)(hn:x ∉ items)(hl:items.length<4096):
  Calls Tryz.prog 109 #[.pointer (some ⟨t,0,none⟩),itV x] w fun e w'=>e=.returned (.int .i64 (items.length:Int))/\∃F',TabI w' F' t (items++[x])/\Fr w w' F F':=by
 obtain⟨a,cap,mb,hr,hF⟩:=h.read;have HR:Hid _:=hr;have HF:Hid _:=hF;have HI:Hid _:=h;have HX:Hid _:=hx;have HN:Hid _:=hn;have hb1:=qc w (itO x);have hr1:=hr.up hb1;have c1:=hr1.c1;have c1b:=(hr1.up (qc (w.alloc (itO x)) (itO x))).c1;have hO:((w.alloc (itO x)).alloc (itO x)).drew.ownsRow 0 140 4 (.slice a items.length cap) items.length (encI items):=World.ownsRow.alloc (World.ownsRow.alloc hr.row _) _
 have hB:((w.alloc (itO x)).alloc (itO x)).drew.heap[w.heap.size+1]? = some (itO x):=by
  have:=(MapKept.heap_alloc (w.alloc (itO x)) (itO x)).1
  rw[show (w.alloc (itO x)).heap.size=w.heap.size+1 by simp]at this
  exact this
 have hn4:items.length<=4096:=by omega
 have hmid:=fun w5 hg a5 c5 ho hl=>qhv (w5:=w5) hr x hg a5 c5 ho hl
 have HM:Hid _:=hmid;clear h hr hr1 hF hx hn hb1 hmid;obtain⟨op,p,xa,xb⟩:=x;unfold itO at hO hB HM c1 c1b;dsimp only at hO hB HM c1 c1b
 unfold itV;dsimp only
 generalize hL:items.length=L at *;have HL:Hid (items.length=L):=hL;clear hL;go_enter Tryz.func109,Tryz.ntmps109
 go_upto_region 15 with fail
 go_region_law ((refine q5f rfl _ _ rfl (.slice a L cap) L items ⟨op,p,xa,xb⟩ (w.heap.size+1) rfl rfl hO hB (by omega) ?_;intro v5 w5 hown5 hgr5 hloc5;obtain⟨a5,k5,rfl⟩:=qE hown5;have m5:=HM.out w5 hgr5 a5 k5 hown5 hloc5;have c5:w5.cell? ⟨t,1,none⟩=some (.slice a L cap):=qb m5.1 1;have z5:w5.frozen? ⟨t,1,none⟩=false:=frozen_of_row w5 _ 1 _ _ m5.1))
 all_goals
  have HM6:Hid _:=m5.2;clear hO hB c1 c1b c5 z5 m5 hown5 hgr5 hloc5;generalize w5.setCell ⟨t,1,none⟩ (.slice a5 (L+1) k5)=w6 at *;have t2:w6.cell? ⟨t,2,none⟩=some (.map (some mb)):=qb HM6.out.blk 2;have b0:w6.cell? ⟨w.heap.size,0,none⟩=some (.int .u8 (op:Int)):=qb HM6.out.box 0;have b1:w6.cell? ⟨w.heap.size,1,none⟩=some (.int .u8 (p:Int)):=qb HM6.out.box 1;have b2:w6.cell? ⟨w.heap.size,2,none⟩=some (.int .i64 xa):=qb HM6.out.box 2;have b3:w6.cell? ⟨w.heap.size,3,none⟩=some (.int .i64 xb):=qb HM6.out.box 3;obtain⟨w7,hrun,hn7,hg7⟩:=(show NumOf w6.drew mb L (posI items) from HM6.out.num).put (by omega) (x:=⟨op,p,xa,xb⟩) HX.out (q1R.2 HN.out) L (by omega)
  unfold itV at hrun;dsimp only at hrun
  have HN7:Hid _:=hn7;have HG7:Hid _:=hg7;clear hn7 hg7
  go_upto_region 15 with fail
  go_region
  all_goals
   clear hrun t2 b0 b1 b2 b3;go_wp2;go_ret
   have e:=HL.out;subst e;exact⟨rfl,qg9 HI.out HF.out HX.out HN.out hl HM6.out HN7.out HG7.out HR.out.num.lt⟩
def FP (b mp:Nat) (vi vt:Value) (k:Nat):Prop:=k=b\/k=mp\/vi.ownBlock=some k\/vt.ownBlock=some k
def ptA (vi:Value) (mp:Nat) (vt:Value) (rest:List Value):Array Value:=(vi :: .map (some mp)::vt::rest).toArray
def PtT (T:TypeId):Prop:=T=103\/T=109
structure PtR (w:World) (b:Nat) (T:TypeId) (rest:List Value) (vi:Value) (mp:Nat) (vt:Value) (items:List It) (texts:List ByteArray) (n:Nat) (f:It->Option Nat):Prop where
 ty:PtT T
 blk:w.heap[b]? = some (.cells (ptA vi mp vt rest) T (0,0))
 ri:w.ownsRow 0 140 4 vi items.length (encI items)
 rt:w.ownsRow 0 9 1 vt texts.length (texts.map Value.string)
 num:NumOf w mp n f
theorem q1p{w:World}{base e size n g:Nat}{v:Value}{xs:List Value}{o:Obj}(h:w.ownsRow base e size v n xs)(hg:w.heap[g]? = some o)(ho:∀cs,o≠.cells cs e (0,0)):v.ownBlock≠some g:=by
 rcases h.2 with⟨rfl,_⟩|⟨g',cap,cur,rfl,_,hc,_⟩
 ·intro e;cases e
 ·intro e
  injection e with e;dsimp only at e
  subst e;rw[hg]at hc;injection hc with hc;exact ho _ hc
theorem qeD{w:World}{base e size n g:Nat}{v:Value}{xs:List Value}(h:w.ownsRow base e size v n xs)(hg:v.ownBlock=some g):∃cs,w.heap[g]? = some (.cells cs e (0,0)):=by
 rcases h.2 with⟨rfl,_⟩|⟨g',cap,cur,rfl,_,hc,_⟩
 ·cases hg
 ·injection hg with hg
  dsimp only at hg
  subst hg;exact⟨_,hc⟩
theorem PtT.ne{T:TypeId}(h:PtT T):T≠140/\T≠9/\T≠3:=by
 rcases h with rfl|rfl <;> decide
section
variable {w:World} {b mp n:Nat} {T:TypeId} {rest:List Value} {vi vt:Value} {items:List It} {texts:List ByteArray} {f:It->Option Nat}
theorem PtR.ib(h:PtR w b T rest vi mp vt items texts n f):vi.ownBlock≠some b:=q1p h.ri h.blk fun cs e=>by injection e with _ e _;exact h.ty.ne.1 e
theorem PtR.tb(h:PtR w b T rest vi mp vt items texts n f):vt.ownBlock≠some b:=q1p h.rt h.blk fun cs e=>by injection e with _ e _;exact h.ty.ne.2.1 e
theorem PtR.im(h:PtR w b T rest vi mp vt items texts n f):vi.ownBlock≠some mp:=by
 obtain⟨es,c,hm⟩:=h.num.isMap;exact q1p h.ri hm fun cs e=>by cases e
theorem PtR.tm(h:PtR w b T rest vi mp vt items texts n f):vt.ownBlock≠some mp:=by
 obtain⟨es,c,hm⟩:=h.num.isMap;exact q1p h.rt hm fun cs e=>by cases e
theorem PtR.mb(h:PtR w b T rest vi mp vt items texts n f):mp≠b:=fun e=>by
 obtain⟨es,c,hm⟩:=h.num.isMap;rw[e,h.blk]at hm;cases hm
theorem PtR.it(h:PtR w b T rest vi mp vt items texts n f):∀k,vi.ownBlock=some k->vt.ownBlock≠some k:=fun k hk=>by
 obtain⟨cs,hc⟩:=qeD h.ri hk;exact q1p h.rt hc fun cs e=>by injection e with _ e _;exact absurd e (by decide)
theorem PtR.bl(h:PtR w b T rest vi mp vt items texts n f):b<w.heap.size:=(aes h.blk).1
theorem PtR.lt(h:PtR w b T rest vi mp vt items texts n f):∀k,FP b mp vi vt k->k<w.heap.size:=fun k hk=>by
 rcases hk with rfl|rfl|hk|hk
 ·exact h.bl
 ·exact h.num.lt
 ·exact qC h.ri k hk
 ·exact qC h.rt k hk
theorem PtR.far{w':World}(h:PtR w b T rest vi mp vt items texts n f)(hb:∀k,FP b mp vi vt k->w'.heap[k]? = w.heap[k]?):PtR w' b T rest vi mp vt items texts n f :=
 ⟨h.ty,(hb b (Or.inl rfl)).trans h.blk,qn h.ri fun k hk=>hb k (Or.inr (Or.inr (Or.inl hk))),qn h.rt fun k hk=>hb k (Or.inr (Or.inr (Or.inr hk))),h.num.far (hb mp (Or.inr (Or.inl rfl)))⟩
theorem PtR.up{w':World}(h:PtR w b T rest vi mp vt items texts n f)(hb:Below w.heap.size w w'):PtR w' b T rest vi mp vt items texts n f:=h.far fun k hk=>hb.block k (h.lt k hk)
theorem PtR.c0(h:PtR w b T rest vi mp vt items texts n f):w.cell? ⟨b,0,none⟩=some vi:=qb h.blk 0
theorem PtR.c1(h:PtR w b T rest vi mp vt items texts n f):w.cell? ⟨b,1,none⟩=some (.map (some mp)):=qb h.blk 1
theorem PtR.c2(h:PtR w b T rest vi mp vt items texts n f):w.cell? ⟨b,2,none⟩=some vt:=qb h.blk 2
theorem PtR.put{w':World}{n':Nat}{f':It->Option Nat}(h:PtR w b T rest vi mp vt items texts n f)(hg:w.grownBy w' (some mp))(hn:NumOf w' mp n' f'):PtR w' b T rest vi mp vt items texts n' f'/\Fr w w' (FP b mp vi vt) (FP b mp vi vt):=by
 have st:∀k,k<w.heap.size->k≠mp->w'.heap[k]? = w.heap[k]? := fun k hk hne=>hg.block k hk (fun e=>hne (by injection e))
 refine⟨⟨h.ty,(st b h.bl (fun e=>h.mb e.symm)).trans h.blk,qn h.ri fun k hk=>st k (qC h.ri k hk) (fun e=>h.im (e ▸ hk)),qn h.rt fun k hk=>st k (qC h.rt k hk) (fun e=>h.tm (e ▸ hk)),hn⟩,hg.os,hg.tape,hg.output,hg.size,fun k hk hF=>st k hk fun e=>hF (Or.inr (Or.inl e)),fun _ hk=>Or.inl hk⟩
theorem PtR.grow{w5:World}{o:Obj}{vi':Value}{items':List It}(h:PtR w b T rest vi mp vt items texts n f)(hg:(w.alloc o).drew.grownBy w5 vi.ownBlock)(ho:w5.ownsRow 0 140 4 vi' items'.length (encI items'))(hl:vi'.ownBlock=vi.ownBlock\/vi'.ownBlock=some (w.alloc o).drew.heap.size):
  w5.heap[b]? = some (.cells (ptA vi mp vt rest) T (0,0))/\PtR (w5.setCell ⟨b,0,none⟩ vi') b T rest vi' mp vt items' texts n f/\Fr w (w5.setCell ⟨b,0,none⟩ vi') (FP b mp vi vt) (FP b mp vi' vt):=by
 have hb1:=qc w o;have hz:(w.alloc o).drew.heap.size=w.heap.size+1:=by simp
 have hs:=hg.size;have st:∀k,k<w.heap.size->vi.ownBlock≠some k->w5.heap[k]? = w.heap[k]? := fun k hk hne=>(hg.block k (by omega) (fun e=>hne e.symm)).trans (hb1.block k hk)
 have h5:=(st b h.bl h.ib).trans h.blk
 have hvb:vi'.ownBlock≠some b:=fun e=>by
  rcases hl with e2|e2
  ·rw[e2]at e;exact h.ib e
  ·rw[e2]at e;injection e with e;have:=h.bl;omega
 have s6:∀k,k≠b->(w5.setCell ⟨b,0,none⟩ vi').heap[k]? = w5.heap[k]? := fun k hk=>Below.heap_setCell _ _ _ _ hk
 refine⟨h5,⟨h.ty,?_,qn ho fun k hk=>s6 k (fun e=>hvb (e ▸ hk)),qn h.rt fun k hk=>(s6 k (fun e=>h.tb (e ▸ hk))).trans (st k (qC h.rt k hk) (fun e=>h.it k e hk)),h.num.far ((s6 mp h.mb).trans (st mp h.num.lt h.im))⟩,hg.os,hg.tape,hg.output,?_,fun k hk hF=>?_,fun k hk=>?_⟩
 ·rw[heap_setCell_same w5 b 0 _ _ _ h5];rfl
 ·simp;omega
 ·exact(s6 k fun e=>hF (Or.inl e)).trans (st k hk fun e=>hF (Or.inr (Or.inr (Or.inl e))))
 ·rcases hk with hk|hk|hk|hk
  ·exact Or.inl (Or.inl hk)
  ·exact Or.inl (Or.inr (Or.inl hk))
  ·rcases hl with e|e
   ·rw[e]at hk;exact Or.inl (Or.inr (Or.inr (Or.inl hk)))
   ·rw[e]at hk;injection hk with hk;right;omega
  ·exact Or.inl (Or.inr (Or.inr (Or.inr hk)))
theorem PtR.growT{w5:World}{o:Obj}{vt':Value}{texts':List ByteArray}(h:PtR w b T rest vi mp vt items texts n f)(hg:(w.alloc o).grownBy w5 vt.ownBlock)(ho:w5.ownsRow 0 9 1 vt' texts'.length (texts'.map Value.string))(hl:vt'.ownBlock=vt.ownBlock\/vt'.ownBlock=some (w.alloc o).heap.size):
  w5.heap[b]? = some (.cells (ptA vi mp vt rest) T (0,0))/\PtR (w5.setCell ⟨b,2,none⟩ vt') b T rest vi mp vt' items texts' n f/\Fr w (w5.setCell ⟨b,2,none⟩ vt') (FP b mp vi vt) (FP b mp vi vt'):=by
 have hb1:=qc w o;have hz:(w.alloc o).heap.size=w.heap.size+1:=by simp
 have hs:=hg.size;have st:∀k,k<w.heap.size->vt.ownBlock≠some k->w5.heap[k]? = w.heap[k]? := fun k hk hne=>(hg.block k (by omega) (fun e=>hne e.symm)).trans (hb1.block k hk)
 have h5:=(st b h.bl h.tb).trans h.blk
 have hvb:vt'.ownBlock≠some b:=fun e=>by
  rcases hl with e2|e2
  ·rw[e2]at e;exact h.tb e
  ·rw[e2]at e;injection e with e;have:=h.bl;omega
 have s6:∀k,k≠b->(w5.setCell ⟨b,2,none⟩ vt').heap[k]? = w5.heap[k]? := fun k hk=>Below.heap_setCell _ _ _ _ hk
 refine⟨h5,⟨h.ty,?_,qn h.ri fun k hk=>(s6 k (fun e=>h.ib (e ▸ hk))).trans (st k (qC h.ri k hk) (fun e=>h.it k hk e)),qn ho fun k hk=>s6 k (fun e=>hvb (e ▸ hk)),h.num.far ((s6 mp h.mb).trans (st mp h.num.lt h.tm))⟩,hg.os,hg.tape,hg.output,?_,fun k hk hF=>?_,fun k hk=>?_⟩
 ·rw[heap_setCell_same w5 b 2 _ _ _ h5];rfl
 ·simp;omega
 ·exact(s6 k fun e=>hF (Or.inl e)).trans (st k hk fun e=>hF (Or.inr (Or.inr (Or.inr e))))
 ·rcases hk with hk|hk|hk|hk
  ·exact Or.inl (Or.inl hk)
  ·exact Or.inl (Or.inr (Or.inl hk))
  ·exact Or.inl (Or.inr (Or.inr (Or.inl hk)))
  ·rcases hl with e|e
   ·rw[e]at hk;exact Or.inl (Or.inr (Or.inr (Or.inr hk)))
   ·rw[e]at hk;injection hk with hk;right;omega
end
structure Pts (w:World) (G:Nat->Prop) (b:Nat) (T:TypeId) (rest:List Value) (items:List It) (texts:List ByteArray):Prop where
 nd:items.Nodup
 tl:texts.length=items.length
 few:items.length<=20000000
 ok:∀x∈items,ItOk x
 tok:∀s∈texts,SOk s
 ex:∃vi mp vt,PtR w b T rest vi mp vt items texts items.length (posI items)/\∀k,G k↔FP b mp vi vt k
theorem Pts.lt{w:World}{G:Nat->Prop}{b:Nat}{T:TypeId}{rest:List Value}{items:List It}{texts:List ByteArray}(h:Pts w G b T rest items texts):∀k,G k->k<w.heap.size:=fun k hk=>by
 obtain⟨vi,mp,vt,hr,hG⟩:=h.ex;exact hr.lt k ((hG k).1 hk)
theorem Pts.far{w w':World}{G:Nat->Prop}{b:Nat}{T:TypeId}{rest:List Value}{items:List It}{texts:List ByteArray}(h:Pts w G b T rest items texts)(hb:∀k,G k->w'.heap[k]? = w.heap[k]?):Pts w' G b T rest items texts:=by
 obtain⟨vi,mp,vt,hr,hG⟩:=h.ex;exact⟨h.nd,h.tl,h.few,h.ok,h.tok,vi,mp,vt,hr.far fun k hk=>hb k ((hG k).2 hk),hG⟩
theorem Pts.up{w w':World}{G:Nat->Prop}{b:Nat}{T:TypeId}{rest:List Value}{items:List It}{texts:List ByteArray}(h:Pts w G b T rest items texts)(hb:Below w.heap.size w w'):Pts w' G b T rest items texts:=h.far fun k hk=>hb.block k (h.lt k hk)
theorem Fr.alike{w w':World}{F G F' G':Nat->Prop}(h:Fr w w' F F')(h1:∀k,F k->G k)(h2:∀k,G' k->F' k):Fr w w' G G' :=
 ⟨h.os,h.tape,h.output,h.size,fun k hk hn=>h.keep k hk fun e=>hn (h1 k e),fun k hk=>(h.foot k (h2 k hk)).imp (h1 k) id⟩
theorem q6O{w:World}{G:Nat->Prop}{b:Nat}{T:TypeId}{rest:List Value}{items:List It}{texts:List ByteArray}(h:Pts w G b T rest items texts)(x:It)(hx:ItOk x)(j:Nat)(hj:posI items x=some j):
  Calls Tryz.prog 75 #[.pointer (some ⟨b,0,none⟩),itV x] w fun e w'=>e=.returned (.int .i64 (j:Int))/\Below w.heap.size w w':=by
 obtain⟨vi,mp,vt,hr,hG⟩:=h.ex;have hr1:=hr.up (qc w (itO x));have c1:=hr1.c1;have hb0:=(MapKept.heap_alloc w (itO x)).1;have b0:(w.alloc (itO x)).cell? ⟨w.heap.size,0,none⟩=some (.int .u8 (x.op:Int)):=qb hb0 0;have b1:(w.alloc (itO x)).cell? ⟨w.heap.size,1,none⟩=some (.int .u8 (x.p:Int)):=qb hb0 1;have b2:(w.alloc (itO x)).cell? ⟨w.heap.size,2,none⟩=some (.int .i64 x.a):=qb hb0 2;have b3:(w.alloc (itO x)).cell? ⟨w.heap.size,3,none⟩=some (.int .i64 x.b):=qb hb0 3
 have hlook:(Instr.lookup 100 (.map (some mp)) (itV x) true).run Tryz.prog (w.alloc (itO x)).drew=.ok (.tuple #[.int .i64 (j:Int),.bool true]) (w.alloc (itO x)).drew:=by
  have:=(show NumOf (w.alloc (itO x)).drew mp items.length (posI items) from hr1.num).look hx
  rw[hj]at this;exact this
 have HB:Hid _:=qc w (itO x);clear h hr hr1 hG hb0 hx hj;obtain⟨op,p,xa,xb⟩:=x;unfold itO at *;unfold itV at *;dsimp only at *
 go_enter Tryz.func75,Tryz.ntmps75
 go_upto_region 15 with fail
 go_region
 all_goals
  go_wp2;go_ret
  exact⟨rfl,HB.out.drew⟩
theorem qaf:(Tryz.prog.info? 9).map (fun i=>(i.zero,i.size,i.bytes))=some (some (.string ⟨#[]⟩),1,16):=by kernel_rfl
theorem q3g{w:World}{ops:Array Oper}{rest:List Oper}{o:Oper}{a:Act}{Q:Exit->Act->World->Prop}{T E:TypeId}{z:Value}{bt:Nat}(hu:Tryz.prog.underlying T=some (.slice E))(hin:(Tryz.prog.info? E).map (fun i=>(i.zero,i.size,i.bytes))=some (some z,1,bt))(hzs:z.cells.size=1)(hbt:bt<=1000)(hgd:o.guard=none)(s x:Operand)
  (ho:o.op=.call { callee:=.builtin .append,args:=#[s,x],argTypes:=#[T,T] }) (base:Nat)
  (v:Value) (n:Nat) (xs:List Value) (y:Value) (g:Nat) (hs:a.eval s=v) (hx:a.eval x=.slice (some ⟨g,0,none⟩) 1 1) (hown:w.ownsRow base E 1 v n xs)
  (hB:w.cell? ⟨g,0,none⟩=some y) (h1:y.oneCell'=true) (hn:n<=100000000) (hbase:base<=w.heap.size)
  (h:∀v' w',w'.ownsRow base E 1 v' (n+1) (xs++[y])->w.grownBy w' v.ownBlock->(v'.ownBlock=v.ownBlock\/v'.ownBlock=some w.heap.size)->wpList Tryz.prog ops Q rest (a.put o.dst v') w'):wpList Tryz.prog ops Q (o::rest) a w:=by
 obtain⟨i,hi,hz0,hz1,hz2⟩:=info_parts hin;have hb:(n+1)*bt<=(100000000+1)*1000:=Nat.mul_le_mul (by omega) hbt
 refine wpList_append_own_at w hgd s x T ho base E i _ 1 bt hu hi hz0 hz1 hz2 hzs (by decide) v n _ hs hown ⟨g,0,none⟩ 1 1 [y] hx rfl ?_ ?_ (by unfold maxLen;omega) (by omega) hbase ?_
 ·intro j u hj
  match j with
  | 0=>simp at hj;rw[<- hj,qg];exact hB
  | j+1=>simp at hj
 ·intro u hu'
  simp at hu'
  subst hu';exact h1
 ·intro v' w' e1 e2 _ e3
  exact h v' w' e1 e2 e3
theorem qeI{w w8:World}{G:Nat->Prop}{b mp:Nat}{T:TypeId}{rest:List Value}{vi vt vi' vt':Value}{items:List It}{texts:List ByteArray}{x:It}(h:Pts w G b T rest items texts)(hG:∀k,G k↔FP b mp vi vt k)(hx:ItOk x)(hn:x ∉ items)(hl:items.length<20000000)
  (hR:PtR w8 b T rest vi' mp vt' (items++[x]) (texts++[⟨#[]⟩]) (items.length+1) (fun y=>if y=x then some items.length else posI items y)) (fr:Fr w w8 (FP b mp vi vt) (FP b mp vi' vt')):
  ∃G',Pts w8 G' b T rest (items++[x]) (texts++[⟨#[]⟩])/\Fr w w8 G G':=by
 refine⟨FP b mp vi' vt',⟨List.nodup_append.2 ⟨h.nd,by simp,fun a ha c hc=>by simp at hc;subst hc;exact fun e=>hn (e ▸ ha)⟩,by simp[h.tl],by simp;omega,fun y hy=>?_,fun s hs=>?_,vi',mp,vt',⟨hR.ty,hR.blk,hR.ri,hR.rt,?_⟩,fun k=>Iff.rfl⟩,fr.alike (fun k hk=>(hG k).2 hk) (fun k hk=>hk)⟩
 ·rcases List.mem_append.1 hy with hy|hy
  ·exact h.ok y hy
  ·simp at hy;subst hy;exact hx
 ·rcases List.mem_append.1 hs with hs|hs
  ·exact h.tok s hs
  ·simp at hs;subst hs;unfold SOk;decide
 ·rw[List.length_append]
  exact hR.num.alike fun y _=>q9R hn y
theorem q4p{w:World}{G:Nat->Prop}{b:Nat}{T:TypeId}{rest:List Value}{items:List It}{texts:List ByteArray}(h:Pts w G b T rest items texts)(x:It)(hx:ItOk x)(hn:x ∉ items)(hl:items.length<20000000):
  Calls Tryz.prog 75 #[.pointer (some ⟨b,0,none⟩),itV x] w fun e w'=>e=.returned (.int .i64 (items.length:Int))/\∃G',Pts w' G' b T rest (items++[x]) (texts++[⟨#[]⟩])/\Fr w w' G G':=by
 obtain⟨vi,mp,vt,hr,hG⟩:=h.ex;obtain⟨ai,ci,rfl⟩:=qE hr.ri;obtain⟨at',ct,rfl⟩:=qE hr.rt;have hr1:PtR (w.alloc (itO x)).drew b T rest _ mp _ items texts items.length (posI items):=(hr.up (qc w (itO x))).up (Below.refl _ _).drew;have c0:=(hr.up (qc w (itO x))).c0;have c1:=(hr.up (qc w (itO x))).c1;have hb0:=(MapKept.heap_alloc w (itO x)).1;have b0:(w.alloc (itO x)).cell? ⟨w.heap.size,0,none⟩=some (.int .u8 (x.op:Int)):=qb hb0 0;have b1:(w.alloc (itO x)).cell? ⟨w.heap.size,1,none⟩=some (.int .u8 (x.p:Int)):=qb hb0 1;have b2:(w.alloc (itO x)).cell? ⟨w.heap.size,2,none⟩=some (.int .i64 x.a):=qb hb0 2;have b3:(w.alloc (itO x)).cell? ⟨w.heap.size,3,none⟩=some (.int .i64 x.b):=qb hb0 3
 have hlook:(Instr.lookup 100 (.map (some mp)) (itV x) true).run Tryz.prog (w.alloc (itO x)).drew=.ok (.tuple #[.int .i64 0,.bool false]) (w.alloc (itO x)).drew:=by
  have:=hr1.num.look hx
  rw[q1R.2 hn]at this;exact this
 obtain⟨w4,hrun,hn4,hg4⟩:=(show NumOf (w.alloc (itO x)).drew.drew mp items.length (posI items) from hr1.num).put (by have:=h.few;omega) hx (q1R.2 hn) items.length (by have:=h.few;omega)
 obtain⟨hp4,fr4⟩:=(hr1.up (Below.refl _ _).drew).put hg4 hn4;have HP4:Hid _:=hp4;have HFR4:Hid (Fr w w4 _ _):=(Fr.ofBelow ((qc w (itO x)).drew.drew)).trans fr4;have d0:=hp4.c0;have d0b:=(hp4.up (qc w4 (itO x))).c0
 have hbx:w4.heap[w.heap.size]? = some (itO x):=by
  refine (hg4.block _ (by simp) (fun e=>?_)).trans hb0
  injection e with e;have:=hr.num.lt
  omega
 have e0:w4.cell? ⟨w.heap.size,0,none⟩=some (.int .u8 (x.op:Int)):=qb hbx 0;have e1:w4.cell? ⟨w.heap.size,1,none⟩=some (.int .u8 (x.p:Int)):=qb hbx 1;have e2:w4.cell? ⟨w.heap.size,2,none⟩=some (.int .i64 x.a):=qb hbx 2;have e3:w4.cell? ⟨w.heap.size,3,none⟩=some (.int .i64 x.b):=qb hbx 3;have hO:(w4.alloc (itO x)).drew.ownsRow 0 140 4 (.slice ai items.length ci) items.length (encI items):=World.ownsRow.alloc hp4.ri _;have hB:(w4.alloc (itO x)).drew.heap[w4.heap.size]? = some (itO x):=(MapKept.heap_alloc w4 (itO x)).1;have HI:Hid _:=h;have HG:Hid _:=hG;have HX:Hid _:=hx;have HN:Hid _:=hn;have HGROW:Hid _:=fun w5 vi' hg ho hl=>hp4.grow (w5:=w5) (o:=itO x) (vi':=vi') (items':=items++[x]) hg ho hl
 have htl:=h.tl;have hfew:=h.few;clear h hr hr1 hG hb0 hx hn hp4 fr4 hn4 hg4 hbx;obtain⟨op,p,xa,xb⟩:=x;unfold itO at *;unfold itV at *;dsimp only at *
 generalize hL:items.length=L at *;generalize hL2:texts.length=L2 at *;have HL:Hid (items.length=L):=hL;have HL2:Hid (texts.length=L2):=hL2;subst htl;clear hL hL2;go_enter Tryz.func75,Tryz.ntmps75
 go_upto_region 15 with fail
 go_region
 all_goals
  clear hlook
  go_upto_region 15 with fail
  go_region
  all_goals
   clear hrun c0 c1 b0 b1 b2 b3
   go_upto_region 15 with fail
   go_region_law ((refine q5f rfl _ _ rfl (.slice ai L2 ci) L2 items ⟨op,p,xa,xb⟩ w4.heap.size rfl rfl hO hB (by omega) ?_;intro v5 w5 hown5 hgr5 hloc5;obtain⟨a5,k5,rfl⟩:=qE hown5;have m5:=HGROW.out w5 _ hgr5 (by rw[List.length_append,HL.out];exact hown5) hloc5;have c5:w5.cell? ⟨b,0,none⟩=some (.slice ai L2 ci):=qb m5.1 0;have z5:w5.frozen? ⟨b,0,none⟩=false:=frozen_of_row w5 _ 0 _ _ m5.1))
   all_goals
    have HM6:Hid _:=m5.2.1;have HF6:Hid _:=HFR4.out.trans m5.2.2;clear hO hB d0 d0b e0 e1 e2 e3 c5 z5 m5 hown5 hgr5 hloc5;generalize w5.setCell ⟨b,0,none⟩ (.slice a5 (L2+1) k5)=w6 at *;have f2:=HM6.out.c2;have hc7:(w6.alloc (.cells #[.string ⟨#[]⟩] 9)).cell? ⟨w6.heap.size,0,none⟩=some (.string ⟨#[]⟩):=qb (MapKept.heap_alloc w6 _).1 0
    have hO7:(w6.alloc (.cells #[.string ⟨#[]⟩] 9)).ownsRow 0 9 1 (.slice at' L2 ct) L2 (texts.map Value.string):=by
     have:=World.ownsRow.alloc HM6.out.rt (.cells #[.string ⟨#[]⟩] 9)
     rw[HL2.out]at this;exact this
    go_wp2_with (at_builtin;refine q3g Tryz.underlying101 qaf rfl (by decide) rfl _ _ rfl 0 _ L2 (texts.map Value.string) (.string ⟨#[]⟩) w6.heap.size rfl rfl hO7 hc7 rfl (by omega) (Nat.zero_le _) ?_)
    intro v7 w7 hown7 hgr7 hloc7;obtain⟨a7,k7,rfl⟩:=qE hown7;have m7:=HM6.out.growT (texts':=texts++[⟨#[]⟩]) hgr7 (by rw[List.length_append,HL2.out,List.map_append];exact hown7) (by simpa using hloc7)
    have c7:w7.cell? ⟨b,2,none⟩=some (.slice at' L2 ct):=qb m7.1 2;have z7:w7.frozen? ⟨b,2,none⟩=false:=frozen_of_row w7 _ 2 _ _ m7.1;have HM8:Hid _:=m7.2.1;have HF8:Hid _:=HF6.out.trans m7.2.2;clear hc7 hO7 m7 hown7 hgr7 hloc7 f2;go_wp2;go_ret
    have e:=HL.out;subst e;exact⟨rfl,qeI HI.out HG.out HX.out HN.out hl HM8.out HF8.out⟩
def txB (S:Tr):ByteArray:=⟨(S.flat.map fun k=>UInt8.ofNat (k.1*8+k.2)).toArray⟩
def Cov (T0:Tr) (items:List It):Prop:=∀n,n<items.length->∃S,Rep items n S/\InC T0 S
theorem qge{T0:Tr}{items:List It}(hn:items.Nodup)(h:Cov T0 items):items.length<=(allC T0).length:=by
 have hf:∀n,∃S,n<items.length->Rep items n S/\InC T0 S:=fun n=>by
  by_cases hn:n<items.length
  ·obtain⟨S,hS⟩:=h n hn
   exact⟨S,fun _=>hS⟩
  ·exact⟨.leaf (0,0),fun h=>absurd h hn⟩
 have hl:((List.range items.length).map fun n=>Classical.choose (hf n)).length=items.length:=by simp
 rw[<- hl];refine q50 ?_ fun S hS=>?_
 ·unfold List.Nodup
  rw[List.pairwise_map];refine List.Pairwise.imp_of_mem ?_ (List.pairwise_lt_range (n:=items.length))
  intro a b ha hb hab e;have h1:=(Classical.choose_spec (hf a) (List.mem_range.1 ha)).1;have h2:=(Classical.choose_spec (hf b) (List.mem_range.1 hb)).1;rw[e]at h1;have:=Rep.num hn h1 h2
  omega
 ·obtain⟨n,hn,rfl⟩:=List.mem_map.1 hS
  exact qgo (Classical.choose_spec (hf n) (List.mem_range.1 hn)).2
structure T0k (T0:Tr):Prop where
 kt:KT T0
 sz:T0.size<=2048
structure PtO (T0:Tr) (w:World) (G:Nat->Prop) (b:Nat) (T:TypeId) (rest:List Value) (items:List It):Prop where
 t0:T0k T0
 low:Low items
 cov:Cov T0 items
 ex:∃texts,Pts w G b T rest items texts/\∀n S,Rep items n S->texts[n]? = some ⟨#[]⟩\/texts[n]? = some (txB S)
theorem PtO.lt{T0:Tr}{w:World}{G:Nat->Prop}{b:Nat}{T:TypeId}{rest:List Value}{items:List It}(h:PtO T0 w G b T rest items):∀k,G k->k<w.heap.size:=by
 obtain⟨texts,hp,_⟩:=h.ex;exact hp.lt
theorem PtO.far{T0:Tr}{w w':World}{G:Nat->Prop}{b:Nat}{T:TypeId}{rest:List Value}{items:List It}(h:PtO T0 w G b T rest items)(hb:∀k,G k->w'.heap[k]? = w.heap[k]?):PtO T0 w' G b T rest items:=by
 obtain⟨texts,hp,ht⟩:=h.ex;exact⟨h.t0,h.low,h.cov,texts,hp.far hb,ht⟩
theorem PtO.up{T0:Tr}{w w':World}{G:Nat->Prop}{b:Nat}{T:TypeId}{rest:List Value}{items:List It}(h:PtO T0 w G b T rest items)(hb:Below w.heap.size w w'):PtO T0 w' G b T rest items:=h.far fun k hk=>hb.block k (h.lt k hk)
theorem PtO.few{T0:Tr}{w:World}{G:Nat->Prop}{b:Nat}{T:TypeId}{rest:List Value}{items:List It}(h:PtO T0 w G b T rest items):items.length<=20000000:=by
 obtain⟨texts,hp,_⟩:=h.ex;exact hp.few
def KeepP (T0:Tr) (w:World) (G:Nat->Prop) (b:Nat) (T:TypeId) (rest:List Value) (items:List It) (R:List It->Int->Prop) (j:Int) (w':World):Prop :=
 ∃(items':List It) (G':Nat->Prop),items <+: items'/\R items' j/\PtO T0 w' G' b T rest items'/\Fr w w' G G'
def KeepR (T0:Tr) (w:World) (G:Nat->Prop) (b:Nat) (T:TypeId) (rest:List Value) (items:List It) (R:List It->Int->Prop) (e:Ending) (w':World):Prop :=
 ∃(j:Int),e=.returned (.int .i64 j)/\KeepP T0 w G b T rest items R j w'
def IsN (S:Tr) (items:List It) (j:Int):Prop:=∃m:Nat,j=(m:Int)/\Rep items m S
theorem Rep.pre{items items':List It}(h:items <+: items'){n:Nat}{S:Tr}(hr:Rep items n S):Rep items' n S:=by
 obtain⟨l,rfl⟩:=h;exact hr.more l
theorem q2i{T0:Tr}{w:World}{G:Nat->Prop}{b:Nat}{T:TypeId}{rest:List Value}{items:List It}(h:PtO T0 w G b T rest items)(x:It)(S:Tr)(hS:InC T0 S)(hx:ItOk x)(ha:x.a<(items.length:Int))(hb:x.b<(items.length:Int))
  (hR:∀items' j,items <+: items'->Low items'->items'[j]? = some x->Rep items' j S):
  Calls Tryz.prog 75 #[.pointer (some ⟨b,0,none⟩),itV x] w (KeepR T0 w G b T rest items (IsN S)):=by
 obtain⟨texts,hp,ht⟩:=h.ex
 cases hj:posI items x with
 | some j =>
  have hget:=(q2J hp.nd).1 hj;have hrep:=hR items j (List.prefix_refl _) h.low hget;exact(q6O hp x hx j hj).mono fun e w' ⟨he,hbw⟩=>⟨(j:Int),he,items,G,List.prefix_refl _,⟨j,rfl,hrep⟩,h.up hbw,Fr.ofBelow hbw⟩
 | none =>
  have hn:=q1R.1 hj
  have hlow:Low (items++[x]):=by
   have:=q4J h.low ha hb
   have e:addI items x=(items++[x],items.length):=by
    rcases q1r items x with⟨j,_,hj2⟩|⟨e,_⟩
    ·exact absurd (List.mem_of_getElem? hj2) hn
    ·exact e
   rw[e]at this;exact this
  have hrep:=hR (items++[x]) items.length (List.prefix_append _ _) hlow (by simp)
  have hnd:(items++[x]).Nodup:=List.nodup_append.2 ⟨hp.nd,by simp,fun a h1 c hc=>by simp at hc;subst hc;exact fun e=>hn (e ▸ h1)⟩
  have hcov:Cov T0 (items++[x]):=fun n hn2=>by
   by_cases hlt:n<items.length
   ·obtain⟨S',h1,h2⟩:=h.cov n hlt
    exact⟨S',h1.more [x],h2⟩
   ·have:n=items.length:=by simp at hn2;omega
    subst this;exact⟨S,hrep,hS⟩
  have hl:items.length<20000000:=by
   have h1:=qge hnd hcov;have h2:=qga h.t0.kt h.t0.sz;simp at h1
   omega
  refine (q4p hp x hx hn hl).mono fun e w' ⟨he,G',hp',fr⟩=>⟨(items.length:Int),he,items++[x],G',List.prefix_append _ _,⟨_,rfl,hrep⟩,⟨h.t0,hlow,hcov,_,hp',fun n S' hr=>?_⟩,fr⟩
  by_cases hlt:n<items.length
  ·obtain⟨S2,h1,_⟩:=h.cov n hlt
   have e:=Rep.tree (h1.more [x]) hr;subst e;rw[List.getElem?_append_left (by rw[hp.tl];exact hlt)]
   exact ht n _ h1
  ·have:n=items.length:=by have:=hr.lt;simp at this;omega
   subst this;refine Or.inl ?_
   rw[<- hp.tl];simp
theorem q1U:∀T:Tr,T.WF->∀k∈T.flat,k.1<=23/\k.2<=7
 | .leaf (op,p),h,k,hk=>by
  simp[Tr.flat]at hk
  subst hk;rcases qV h with⟨rfl,hp⟩|⟨rfl,rfl|rfl|rfl|rfl|rfl⟩
  ·exact⟨by show 2<=23;omega,hp⟩
  all_goals exact⟨by decide,by decide⟩
 | .un (op,p) c,h,k,hk=>by
  obtain⟨rfl,hc,_,ho⟩:=qL h;simp[Tr.flat]at hk
  rcases hk with hk|rfl
  ·exact q1U c hc k hk
  ·exact⟨by show op<=23;omega,Nat.zero_le _⟩
 | .bin (op,p) c d,h,k,hk=>by
  obtain⟨rfl,hc,hd,_,ho⟩:=qF h;simp[Tr.flat]at hk
  rcases hk with hk|hk|rfl
  ·exact q1U c hc k hk
  ·exact q1U d hd k hk
  ·exact⟨by show op<=23;omega,Nat.zero_le _⟩
theorem qbO{T0 S:Tr}(h0:KT T0)(h:InC T0 S):∀k∈S.flat,k.1<=23/\k.2<=7:=by
 have hw:S.WF:=by rcases q36 h0 h with k|k <;> exact k.wf
 exact q1U S hw
theorem it_ok{op:Nat}{a b:Int}(ho:op<256)(ha:-1<=a)(ha2:a<100000000)(hb:-1<=b)(hb2:b<100000000):ItOk ⟨op,0,a,b⟩:=⟨ho,by show 0<256;decide,ha,ha2,hb,hb2⟩
theorem q4q{T0:Tr}{w:World}{G:Nat->Prop}{b:Nat}{T:TypeId}{rest:List Value}{items:List It}(h:PtO T0 w G b T rest items)(op:Nat)(ho:op=4\/op=5):
  Calls Tryz.prog 149 #[.pointer (some ⟨b,0,none⟩),.int .u8 (op:Int)] w (KeepR T0 w G b T rest items (IsN (.leaf (op,0)))):=by
 have hk:=q2i h ⟨op,0,-1,-1⟩ (.leaf (op,0)) (q74 ho) (it_ok (by omega) (by decide) (by decide) (by decide) (by decide)) (by show (-1:Int)<_;omega) (by show (-1:Int)<_;omega) (fun items' j _ _ hj=>.leaf hj)
 unfold KeepR at *;generalize KeepP T0 w G b T rest items (IsN (.leaf (op,0)))=Q at *;clear h ho;unfold itV at hk;dsimp only at hk
 go_enter Tryz.func149,Tryz.ntmps149
 go_wp2_with fail
 refine hk.mono ?_
 rintro e w' ⟨j,rfl,hq⟩
 have HQ:Hid _:=hq;clear hk hq;go_wp2;go_ret
 exact⟨j,rfl,HQ.out⟩
theorem q1t{T0:Tr}{w:World}{G:Nat->Prop}{b:Nat}{T:TypeId}{rest:List Value}{items:List It}(h:PtO T0 w G b T rest items)(op:Nat)(ho:op<256)(m l:Nat)(c d:Tr)(hm:Rep items m c)(hl:Rep items l d)(hS:InC T0 (.bin (op,0) c d)):
  Calls Tryz.prog 154 #[.pointer (some ⟨b,0,none⟩),.int .u8 (op:Int),.int .i64 (m:Int),.int .i64 (l:Int)] w (KeepR T0 w G b T rest items (IsN (.bin (op,0) c d))):=by
 have hk:=q2i h ⟨op,0,(m:Int),(l:Int)⟩ (.bin (op,0) c d) hS (it_ok ho (by omega) (by have:=hm.lt;have:=h.few;omega) (by omega) (by have:=hl.lt;have:=h.few;omega)) (by show (m:Int)<_;have:=hm.lt;omega) (by show (l:Int)<_;have:=hl.lt;omega) (fun items' j hp hlow hj=>by
  obtain⟨h1,h2⟩:=q9j (k:=(op,0)) hlow hj;exact .bin hj h1 h2 (hm.pre hp) (hl.pre hp))
 unfold KeepR at *;generalize KeepP T0 w G b T rest items (IsN (.bin (op,0) c d))=Q at *;clear h ho hm hl hS;unfold itV at hk;dsimp only at hk
 go_enter Tryz.func154,Tryz.ntmps154
 go_wp2_with fail
 refine hk.mono ?_
 rintro e w' ⟨j,rfl,hq⟩
 have HQ:Hid _:=hq;clear hk hq;go_wp2;go_ret
 exact⟨j,rfl,HQ.out⟩
def duO (op:Nat):Nat:=if op=0 then 1 else if op=1 then 0 else if op=4 then 5 else if op=5 then 4 else if op=7 then 8 else if op=8 then 7 else if op=11 then 12 else if op=12 then 11 else if op=15 then 16 else if op=16 then 15 else if op=17 then 18 else 17
theorem q4m(op:Nat)(w:World)(h:op=0\/op=1\/op=4\/op=5\/op=7\/op=8\/op=11\/op=12\/op=15\/op=16\/op=17\/op=18):Calls Tryz.prog 165 #[.int .u8 (op:Int)] w fun e w'=>e=.returned (.int .u8 (duO op:Int))/\w'=w:=by
 rcases h with rfl|rfl|rfl|rfl|rfl|rfl|rfl|rfl|rfl|rfl|rfl|rfl <;>
 ·go_enter Tryz.func165,Tryz.ntmps165
  go_wp2;go_ret
  exact⟨rfl,rfl⟩
def IsM (_:List It) (j:Int):Prop:=j=-1
theorem KeepP.trans{T0:Tr}{w w1 w2:World}{G G1:Nat->Prop}{b:Nat}{T:TypeId}{rest:List Value}{items items1:List It}{R:List It->Int->Prop}{j:Int}(hp:items <+: items1)(fr:Fr w w1 G G1)(h:KeepP T0 w1 G1 b T rest items1 R j w2):KeepP T0 w G b T rest items R j w2:=by
 obtain⟨i2,G2,h1,h2,h3,h4⟩:=h;exact⟨i2,G2,hp.trans h1,h2,h3,fr.trans h4⟩
theorem q2X{T0:Tr}{w:World}{G:Nat->Prop}{b:Nat}{T:TypeId}{rest:List Value}{items:List It}(h:PtO T0 w G b T rest items):
  Calls Tryz.prog 155 #[.pointer (some ⟨b,0,none⟩),.int .i64 (-1)] w (KeepR T0 w G b T rest items IsM):=by
 have HQ:Hid (KeepP T0 w G b T rest items IsM (-1) w):=⟨items,G,List.prefix_refl _,rfl,h,Fr.ofBelow (Below.refl _ _)⟩;clear h;go_enter Tryz.func155,Tryz.ntmps155
 go_wp2;go_ret
 exact⟨-1,rfl,HQ.out⟩
theorem PtO.at{T0:Tr}{w:World}{G:Nat->Prop}{b:Nat}{T:TypeId}{rest:List Value}{items:List It}(h:PtO T0 w G b T rest items){i:Nat}{x:It}(hi:items[i]? = some x):
  ∃a n cap g o,w.cell? ⟨b,0,none⟩=some (.slice a n cap)/\(∀w',(Instr.indexAt 99 (.slice a n cap) (.int .i64 (i:Int))).run Tryz.prog w'=.ok (.pointer (some ⟨g,o,none⟩)) w') /\
   w.cell? ⟨g,o,none⟩=some (.int .u8 (x.op:Int))/\w.cell? ⟨g,o+1,none⟩=some (.int .u8 (x.p:Int))/\w.cell? ⟨g,o+2,none⟩=some (.int .i64 x.a)/\w.cell? ⟨g,o+3,none⟩=some (.int .i64 x.b):=by
 obtain⟨texts,hp,_⟩:=h.ex;obtain⟨vi,mp,vt,hr,_⟩:=hp.ex;obtain⟨hi1,hi2⟩:=List.getElem?_eq_some_iff.1 hi;rcases hr.ri.2 with⟨e,e0⟩|⟨g,cap',cur,rfl,_,hcell,hnc,_,hsz,htk⟩
 ·omega
 ·have key:∀j,j<items.length*4->w.cell? ⟨g,j,none⟩=(encI items)[j]? := fun j hj=>by
   rw[<- htk,List.getElem?_take,if_pos hj];simp[World.cell?,hcell]
  obtain⟨q0,q1,q2,q3⟩:=q4Q items i hi1;rw[hi2]at q0 q1 q2 q3;refine⟨_,_,_,g,4*i,hr.c0,fun w'=>?_,?_,?_,?_,?_⟩
  ·simp[Instr.indexAt,run_underlying Tryz.underlying99,asIntOf,q1D q1L,hi1,Result.andThen,go_sem,qg,Nat.mul_comm]
  ·rw[key _ (by omega)];exact q0
  ·rw[key _ (by omega)];exact q1
  ·rw[key _ (by omega)];exact q2
  ·rw[key _ (by omega)];exact q3
theorem PtO.new{T0:Tr}{w:World}{G:Nat->Prop}{b:Nat}{T:TypeId}{rest:List Value}{items:List It}(h:PtO T0 w G b T rest items):¬ G w.heap.size:=fun e=>Nat.lt_irrefl _ (h.lt _ e)
theorem qi{w w':World}{G G':Nat->Prop}{B:Nat}{o:Obj}(h:w.heap[B]? = some o)(hB:¬ G B)(fr:Fr w w' G G'):w'.heap[B]? = some o/\¬ G' B :=
 ⟨(fr.keep B (aes h).1 hB).trans h,fr.out hB (aes h).1⟩
theorem q8W{T0:Tr}{w:World}{G:Nat->Prop}{b:Nat}{T:TypeId}{rest:List Value}{items:List It}(h:PtO T0 w G b T rest items)(i q:Nat)(hi:Rep items i (.leaf (2,q)))(hS:InC T0 (.un (6,0) (.leaf (2,q)))):
  Calls Tryz.prog 155 #[.pointer (some ⟨b,0,none⟩),.int .i64 (i:Int)] w (KeepR T0 w G b T rest items (IsN (.un (6,0) (.leaf (2,q))))):=by
 have hx:items[i]? = some ⟨2,q,-1,-1⟩:=by cases hi with|leaf h=>exact h
 obtain⟨a,n,cap,g,o,c0,hidx,x0,x1,x2,x3⟩:=h.at hx;have hb:=qc w (itO ⟨2,q,-1,-1⟩)
 have hk:=q2i (h.up hb) ⟨6,0,(i:Int),-1⟩ (.un (6,0) (.leaf (2,q))) hS (it_ok (by omega) (by omega) (by have:=hi.lt;have:=h.few;omega) (by omega) (by omega)) (by show (i:Int)<_;have:=hi.lt;omega) (by show (-1:Int)<_;omega) (fun items' j hp hlow hj=>by
  exact .un (k:=(6,0)) (m:=i) hj (qbW (k:=(6,0)) hlow hj) (hi.pre hp))
 have hFr:Fr w (w.alloc (itO ⟨2,q,-1,-1⟩)) G G:=Fr.ofBelow hb;have hne:((i:Int) == -1)=false:=by rw[bqn];omega
 unfold KeepR at *;have HTR:Hid (∀j w',KeepP T0 (w.alloc (itO ⟨2,q,-1,-1⟩)) G b T rest items (IsN (.un (6,0) (.leaf (2,q)))) j w'->KeepP T0 w G b T rest items (IsN (.un (6,0) (.leaf (2,q)))) j w'):=fun j w' h=>h.trans (List.prefix_refl _) hFr
 generalize KeepP T0 (w.alloc (itO ⟨2,q,-1,-1⟩)) G b T rest items (IsN (.un (6,0) (.leaf (2,q))))=Q at *;generalize KeepP T0 w G b T rest items (IsN (.un (6,0) (.leaf (2,q))))=Q2 at *;clear h hi hS hb hFr hx;unfold itO at *;unfold itV at hk;dsimp only at *
 go_enter Tryz.func155,Tryz.ntmps155
 go_wp2_with fail
 refine hk.mono ?_
 rintro e w' ⟨j,rfl,hq⟩
 have HQ:Hid _:=HTR.out _ _ hq;clear hk hq;go_wp2;go_ret
 exact⟨j,rfl,HQ.out⟩
theorem qaC{T0:Tr}{w:World}{G:Nat->Prop}{b:Nat}{T:TypeId}{rest:List Value}{items:List It}(h:PtO T0 w G b T rest items)(i:Nat)(c:Tr)(hi:Rep items i (.un (6,0) c)):
  Calls Tryz.prog 155 #[.pointer (some ⟨b,0,none⟩),.int .i64 (i:Int)] w (KeepR T0 w G b T rest items (IsN c)):=by
 obtain⟨m,hx,hm⟩:∃m:Nat,items[i]? = some ⟨6,0,(m:Int),-1⟩/\Rep items m c:=by cases hi with|un h h1 h2=>exact⟨_,h,h2⟩
 obtain⟨a,n,cap,g,o,c0,hidx,x0,x1,x2,x3⟩:=h.at hx;have hb:=qc w (itO ⟨6,0,(m:Int),-1⟩);have HQ:Hid (KeepP T0 w G b T rest items (IsN c) (m:Int) (w.alloc (itO ⟨6,0,(m:Int),-1⟩))):=⟨items,G,List.prefix_refl _,⟨m,rfl,hm⟩,h.up hb,Fr.ofBelow hb⟩;have hne:((i:Int) == -1)=false:=by rw[bqn];omega
 clear h hi hb hx hm;unfold itO at *;dsimp only at *
 go_enter Tryz.func155,Tryz.ntmps155
 go_wp2;go_ret
 exact⟨_,rfl,HQ.out⟩
theorem itV0(op:Nat)(a b:Int):itV ⟨op,0,a,b⟩=.agg #[.int .u8 (op:Int),.int .u8 0,.int .i64 a,.int .i64 b]:=rfl
def NgC (T0:Tr) (b:Nat) (T:TypeId) (rest:List Value) (items0:List It) (a:Int) (R:List It->Int->Prop):Prop :=
 ∀(w:World) (G:Nat->Prop) (items:List It),items0 <+: items->PtO T0 w G b T rest items->Calls Tryz.prog 155 #[.pointer (some ⟨b,0,none⟩),.int .i64 a] w (KeepR T0 w G b T rest items R)
theorem q2Y{T0:Tr}{w:World}{G:Nat->Prop}{b:Nat}{T:TypeId}{rest:List Value}{items:List It}(h:PtO T0 w G b T rest items)(i op p:Nat)(xa xb:Int)(hx:items[i]? = some ⟨op,p,xa,xb⟩)(ho:op=0\/op=1\/op=4\/op=5\/op=7\/op=8\/op=11\/op=12\/op=15\/op=16)
  (RA RB:List It->Int->Prop) (hA:NgC T0 b T rest items xa RA) (hB:NgC T0 b T rest items xb RB) (S:Tr) (hS:InC T0 S)
  (hfin:∀i1 i2 ja jb,items <+: i1->i1 <+: i2->RA i1 ja->RB i2 jb->-1<=ja/\ja<(i2.length:Int)/\-1<=jb/\jb<(i2.length:Int)/\∀i3 j,i2 <+: i3->Low i3->i3[j]? = some ⟨duO op,0,ja,jb⟩->Rep i3 j S):
  Calls Tryz.prog 155 #[.pointer (some ⟨b,0,none⟩),.int .i64 (i:Int)] w (KeepR T0 w G b T rest items (IsN S)):=by
 obtain⟨a,n,cap,g,o,c0,hidx,x0,x1,x2,x3⟩:=h.at hx;have hb:=qc w (itO ⟨op,p,xa,xb⟩);have hne:((i:Int) == -1)=false:=by rw[bqn];omega
 have hbx:=(MapKept.heap_alloc w (itO ⟨op,p,xa,xb⟩)).1;have hdu:op<256/\duO op<256:=by rcases ho with rfl|rfl|rfl|rfl|rfl|rfl|rfl|rfl|rfl|rfl <;> decide
 have hdual:=fun w=>q4m op w (by omega)
 have n2:((op:Int) == 2)=false:=by rw[bqn];omega
 have n6:((op:Int) == 6)=false:=by rw[bqn];omega
 have n17:((op:Int) == 17)=false:=by rw[bqn];omega
 have n18:((op:Int) == 18)=false:=by rw[bqn];omega
 have hwd:(w.alloc (itO ⟨op,p,xa,xb⟩)).drew.heap[w.heap.size]? = some (itO ⟨op,p,xa,xb⟩):=hbx;have hPd:PtO T0 (w.alloc (itO ⟨op,p,xa,xb⟩)).drew G b T rest items:=(h.up hb).up (Below.refl _ _).drew;have hn1:=hA _ _ _ (List.prefix_refl _) hPd;have HNB:Hid (NgC T0 b T rest items xb RB):=hB;have HF0:Hid (Fr w (w.alloc (itO ⟨op,p,xa,xb⟩)).drew G G):=Fr.ofBelow hb.drew;have HBX:Hid _:=hwd;have HNG:Hid (¬ G w.heap.size):=h.new;have HFIN:Hid _:=hfin;have HS:Hid _:=hS;have HDU:Hid _:=hdu.2;have cells:∀w':World,w'.heap[w.heap.size]? = some (itO ⟨op,p,xa,xb⟩)->w'.cell? ⟨w.heap.size,0,none⟩=some (.int .u8 (op:Int))/\w'.cell? ⟨w.heap.size,2,none⟩=some (.int .i64 xa)/\w'.cell? ⟨w.heap.size,3,none⟩=some (.int .i64 xb):=fun w' e=>⟨qb e 0,qb e 2,qb e 3⟩
 have HCL:Hid _:=cells;have hk0:=cells _ hwd;have hk00:=cells _ hbx;clear h hb hx ho hA hB hS hfin hdu cells hbx hwd hPd;unfold KeepR at *;unfold itO at *;dsimp only at *
 go_enter Tryz.func155,Tryz.ntmps155
 go_upto_region 40 with fail
 go_region_held3 (fun w'=>w'.cell? ⟨w.heap.size,0,none⟩=some (.int .u8 (op:Int))/\w'.cell? ⟨w.heap.size,2,none⟩=some (.int .i64 xa)/\w'.cell? ⟨w.heap.size,3,none⟩=some (.int .i64 xb)) (first|exact hk0|exact hk00|assumption|fail) (first
  | (go_at_call 165;(with_reducible refine (hdual _).mono ?_);rintro e w' ⟨rfl,rfl⟩)
  | (revert hn1;intro hn1;go_at_call 155;(with_reducible refine hn1.mono ?_);rintro e w1 ⟨ja,rfl,i1,G1,hp1,hr1,hP1,fr1⟩;have hbk1:=qi HBX.out HNG.out fr1;have hk1:=HCL.out _ hbk1.1;have hn2:=HNB.out _ _ _ hp1 hP1)
  | (revert hn2;intro hn2;go_at_call 155;(with_reducible refine hn2.mono ?_);rintro e w2 ⟨jb,rfl,i2,G2,hp2,hr2,hP2,fr2⟩;have hbk2:=qi hbk1.1 hbk1.2 fr2;have hk2:=HCL.out _ hbk2.1;have hz:=HFIN.out i1 i2 ja jb hp1 hp2 hr1 hr2;have hn3:=q2i hP2 ⟨duO op,0,ja,jb⟩ S HS.out (it_ok HDU.out hz.1 (by have:=hP2.few;omega) hz.2.2.1 (by have:=hP2.few;omega)) hz.2.1 hz.2.2.2.1 hz.2.2.2.2;unfold KeepR at hn3;rw[itV0]at hn3)
  | (revert hn3;intro hn3;go_at_call 75;(with_reducible refine hn3.mono ?_);rintro e w3 ⟨j3,rfl,hq3⟩;have hk3:w3.cell? ⟨w.heap.size,0,none⟩=some (.int .u8 (op:Int))/\w3.cell? ⟨w.heap.size,2,none⟩=some (.int .i64 xa)/\w3.cell? ⟨w.heap.size,3,none⟩=some (.int .i64 xb):=(by obtain⟨i4,G4,_,_,_,fr3⟩:=hq3;exact HCL.out _ (qi hbk2.1 hbk2.2 fr3).1);have HQ:Hid (KeepP T0 w G b T rest items (IsN S) j3 w3):=(hq3.trans (hp1.trans hp2) ((HF0.out.trans fr1).trans fr2)))
  | fail)
 all_goals
  clear hn1 hn2 hn3;go_wp2;go_ret
  exact⟨j3,rfl,HQ.out⟩
theorem qaD{T0:Tr}{w:World}{G:Nat->Prop}{b:Nat}{T:TypeId}{rest:List Value}{items:List It}(h:PtO T0 w G b T rest items)(i op p m:Nat)(xb:Int)(hx:items[i]? = some ⟨op,p,(m:Int),xb⟩)(ho:op=17\/op=18)(c d:Tr)(hm:Rep items m c)
  (hB:NgC T0 b T rest items xb (IsN d)) (hS:InC T0 (.bin (duO op,0) c d)):
  Calls Tryz.prog 155 #[.pointer (some ⟨b,0,none⟩),.int .i64 (i:Int)] w (KeepR T0 w G b T rest items (IsN (.bin (duO op,0) c d))):=by
 obtain⟨a,n,cap,g,o,c0,hidx,x0,x1,x2,x3⟩:=h.at hx;have hb:=qc w (itO ⟨op,p,(m:Int),xb⟩);have hne:((i:Int) == -1)=false:=by rw[bqn];omega
 have hbx:=(MapKept.heap_alloc w (itO ⟨op,p,(m:Int),xb⟩)).1;have hdu:op<256/\duO op<256:=by rcases ho with rfl|rfl <;> decide
 have hdual:=fun w=>q4m op w (by omega)
 have n2:((op:Int) == 2)=false:=by rw[bqn];omega
 have n6:((op:Int) == 6)=false:=by rw[bqn];omega
 obtain⟨f17,hf17⟩:∃f:Bool,((op:Int) == 17)=f:=⟨_,rfl⟩
 have n18:f17=false->((op:Int) == 18)=true:=fun hf=>by
  rw[hf,bqn]at hf17;rw[beq_iff_eq];omega
 have hwd:(w.alloc (itO ⟨op,p,(m:Int),xb⟩)).drew.heap[w.heap.size]? = some (itO ⟨op,p,(m:Int),xb⟩):=hbx;have hPd:PtO T0 (w.alloc (itO ⟨op,p,(m:Int),xb⟩)).drew G b T rest items:=(h.up hb).up (Below.refl _ _).drew;have hn1:=hB _ _ _ (List.prefix_refl _) hPd;have HF0:Hid (Fr w (w.alloc (itO ⟨op,p,(m:Int),xb⟩)).drew G G):=Fr.ofBelow hb.drew;have HBX:Hid _:=hwd;have HNG:Hid (¬ G w.heap.size):=h.new;have HM:Hid _:=hm;have HS:Hid _:=hS;have HDU:Hid _:=hdu.2;have cells:∀w':World,w'.heap[w.heap.size]? = some (itO ⟨op,p,(m:Int),xb⟩)->w'.cell? ⟨w.heap.size,0,none⟩=some (.int .u8 (op:Int))/\w'.cell? ⟨w.heap.size,2,none⟩=some (.int .i64 (m:Int))/\w'.cell? ⟨w.heap.size,3,none⟩=some (.int .i64 xb):=fun w' e=>⟨qb e 0,qb e 2,qb e 3⟩
 have HCL:Hid _:=cells;have hk0:=cells _ hwd;have hk00:=cells _ hbx;clear h hb hx ho hB hS hdu cells hbx hwd hPd hm;unfold KeepR at *;unfold itO at *;dsimp only at *
 cases f17 with
 | true =>
  clear n18;go_enter Tryz.func155,Tryz.ntmps155
  go_upto_region 40 with fail
  go_region_held3 (fun w'=>w'.cell? ⟨w.heap.size,0,none⟩=some (.int .u8 (op:Int))/\w'.cell? ⟨w.heap.size,2,none⟩=some (.int .i64 (m:Int))/\w'.cell? ⟨w.heap.size,3,none⟩=some (.int .i64 xb)) (first|exact hk0|exact hk00|assumption|fail) (first
   | (go_at_call 165;(with_reducible refine (hdual _).mono ?_);rintro e w' ⟨rfl,rfl⟩)
   | (revert hn1;intro hn1;go_at_call 155;(with_reducible refine hn1.mono ?_);rintro e w1 ⟨ja,rfl,i1,G1,hp1,hr1,hP1,fr1⟩;obtain⟨l1,rfl,hrl⟩:=hr1;have hbk1:=qi HBX.out HNG.out fr1;have hk1:=HCL.out _ hbk1.1;have hn2:=q1t hP1 (duO op) HDU.out m l1 c d (HM.out.pre hp1) hrl HS.out;unfold KeepR at hn2)
   | (revert hn2;intro hn2;go_at_call 154;(with_reducible refine hn2.mono ?_);rintro e w3 ⟨j3,rfl,hq3⟩;have hk3:w3.cell? ⟨w.heap.size,0,none⟩=some (.int .u8 (op:Int))/\w3.cell? ⟨w.heap.size,2,none⟩=some (.int .i64 (m:Int))/\w3.cell? ⟨w.heap.size,3,none⟩=some (.int .i64 xb):=(by obtain⟨i4,G4,_,_,_,fr3⟩:=hq3;exact HCL.out _ (qi hbk1.1 hbk1.2 fr3).1);have HQ:Hid (KeepP T0 w G b T rest items (IsN (.bin (duO op,0) c d)) j3 w3):=(hq3.trans hp1 (HF0.out.trans fr1)))
   | fail)
  all_goals
   clear hn1 hn2;go_wp2;go_ret
   exact⟨j3,rfl,HQ.out⟩
 | false =>
  have n18':=n18 rfl;clear n18;go_enter Tryz.func155,Tryz.ntmps155
  go_upto_region 40 with fail
  go_region_held3 (fun w'=>w'.cell? ⟨w.heap.size,0,none⟩=some (.int .u8 (op:Int))/\w'.cell? ⟨w.heap.size,2,none⟩=some (.int .i64 (m:Int))/\w'.cell? ⟨w.heap.size,3,none⟩=some (.int .i64 xb)) (first|exact hk0|exact hk00|assumption|fail) (first
   | (go_at_call 165;(with_reducible refine (hdual _).mono ?_);rintro e w' ⟨rfl,rfl⟩)
   | (revert hn1;intro hn1;go_at_call 155;(with_reducible refine hn1.mono ?_);rintro e w1 ⟨ja,rfl,i1,G1,hp1,hr1,hP1,fr1⟩;obtain⟨l1,rfl,hrl⟩:=hr1;have hbk1:=qi HBX.out HNG.out fr1;have hk1:=HCL.out _ hbk1.1;have hn2:=q1t hP1 (duO op) HDU.out m l1 c d (HM.out.pre hp1) hrl HS.out;unfold KeepR at hn2)
   | (revert hn2;intro hn2;go_at_call 154;(with_reducible refine hn2.mono ?_);rintro e w3 ⟨j3,rfl,hq3⟩;have hk3:w3.cell? ⟨w.heap.size,0,none⟩=some (.int .u8 (op:Int))/\w3.cell? ⟨w.heap.size,2,none⟩=some (.int .i64 (m:Int))/\w3.cell? ⟨w.heap.size,3,none⟩=some (.int .i64 xb):=(by obtain⟨i4,G4,_,_,_,fr3⟩:=hq3;exact HCL.out _ (qi hbk1.1 hbk1.2 fr3).1);have HQ:Hid (KeepP T0 w G b T rest items (IsN (.bin (duO op,0) c d)) j3 w3):=(hq3.trans hp1 (HF0.out.trans fr1)))
   | fail)
  all_goals
   clear hn1 hn2;go_wp2;go_ret
   exact⟨j3,rfl,HQ.out⟩
theorem qgL{op:Nat}(h:op=0\/op=1\/op=4\/op=5):(kTr (.leaf (op,0))).2=.leaf (duO op,0):=by rcases h with rfl|rfl|rfl|rfl <;> rfl
theorem qgM{op:Nat}(h:op=7\/op=8)(c:Tr):(kTr (.un (op,0) c)).2=.un (duO op,0) (kTr c).2:=by rcases h with rfl|rfl <;> rfl
theorem qgN{op:Nat}(h:op=11\/op=12\/op=15\/op=16)(c d:Tr):(kTr (.bin (op,0) c d)).2=.bin (duO op,0) (kTr c).2 (kTr d).2:=by rcases h with rfl|rfl|rfl|rfl <;> rfl
theorem qgO{op:Nat}(h:op=17\/op=18){c:Tr}(hc:KP c)(d:Tr):(kTr (.bin (op,0) c d)).2=.bin (duO op,0) c (kTr d).2:=by
 have e:=(q1v c hc.wf hc.kr).1;rcases h with rfl|rfl
 ·show Tr.bin (18,0) (kTr c).1 (kTr d).2=_;rw[e];rfl
 ·show Tr.bin (17,0) (kTr c).1 (kTr d).2=_;rw[e];rfl
theorem q28{T0:Tr}{b:Nat}{T:TypeId}{rest:List Value}:∀(S:Tr),KT S->S∈subL T0->∀(items:List It) (i:Nat),Rep items i S->NgC T0 b T rest items (i:Int) (IsN (kTr S).2)
 | .leaf (op,p),hS,hin,items,i,hi=>by
  intro w G i1 hp hP;have hi1:=hi.pre hp;have hneg:=q5T hin hS;rcases q1X hS with⟨rfl,_⟩|⟨rfl,ho⟩
  ·exact q8W hP i p hi1 hneg
  ·have hx:i1[i]? = some ⟨op,0,-1,-1⟩:=by cases hi1 with|leaf h=>exact h
   rw[qgL ho]at hneg ⊢;refine q2Y hP i op 0 (-1) (-1) hx (by omega) IsM IsM (fun _ _ _ _ hP=>q2X hP) (fun _ _ _ _ hP=>q2X hP) _ hneg ?_
   rintro j1 j2 ja jb _ _ rfl rfl
   exact⟨by omega,by omega,by omega,by omega,fun j3 j _ _ hj=>.leaf hj⟩
 | .un (op,p) c,hS,hin,items,i,hi=>by
  intro w G i1 hp hP;have hi1:=hi.pre hp;have hneg:=q5T hin hS;rcases kt_un hS with⟨rfl,⟨rfl,q,rfl⟩|⟨ho,hc⟩⟩
  ·exact qaC hP i _ hi1
  ·obtain⟨m,hx,hm⟩:∃m:Nat,i1[i]? = some ⟨op,0,(m:Int),-1⟩/\Rep i1 m c:=by cases hi1 with|un h h1 h2=>exact⟨_,h,h2⟩
   rw[qgM ho]at hneg ⊢;refine q2Y hP i op 0 (m:Int) (-1) hx (by omega) (IsN (kTr c).2) IsM (q28 c hc (q3l hin) i1 m hm) (fun _ _ _ _ hP=>q2X hP) _ hneg ?_
   rintro j1 j2 ja jb h1 h2 ⟨a,rfl,ha⟩ rfl
   have:=(ha.pre h2).lt
   exact⟨by omega,by omega,by omega,by omega,fun j3 j h3 hlow hj=>.un (k:=(duO op,0)) hj (qbW (k:=(duO op,0)) hlow hj) ((ha.pre h2).pre h3)⟩
 | .bin (op,p) c d,hS,hin,items,i,hi=>by
  intro w G i1 hp hP;have hi1:=hi.pre hp;have hneg:=q5T hin hS;obtain⟨rfl,ho⟩:=q1J hS;obtain⟨m,l,hx,hm,hl⟩:∃m l:Nat,i1[i]? = some ⟨op,0,(m:Int),(l:Int)⟩/\Rep i1 m c/\Rep i1 l d:=by cases hi1 with|bin h h1 h2 h3 h4=>exact⟨_,_,h,h3,h4⟩
  by_cases hw:op=17\/op=18
  ·obtain⟨kc,kd⟩:=q1z hS hw
   rw[qgO hw kc]at hneg ⊢;exact qaD hP i op 0 m (l:Int) hx hw c (kTr d).2 hm (q28 d kd (q1q hin).2 i1 l hl) hneg
  ·obtain⟨kc,kd⟩:=qI hS (by omega)
   have ho4:op=11\/op=12\/op=15\/op=16:=by omega
   rw[qgN ho4]at hneg ⊢;refine q2Y hP i op 0 (m:Int) (l:Int) hx (by omega) (IsN (kTr c).2) (IsN (kTr d).2) (q28 c kc (q1q hin).1 i1 m hm) (q28 d kd (q1q hin).2 i1 l hl) _ hneg ?_
   rintro j1 j2 ja jb h1 h2 ⟨a,rfl,ha⟩ ⟨e,rfl,he⟩
   have:=(ha.pre h2).lt
   have:=he.lt
   refine⟨by omega,by omega,by omega,by omega,fun j3 j h3 hlow hj=>?_⟩
   obtain⟨u,v⟩:=q9j (k:=(duO op,0)) hlow hj;exact .bin (k:=(duO op,0)) hj u v ((ha.pre h2).pre h3) (he.pre h3)
def tkY (k:Tk):Nat:=k.1*8+k.2
def encY (ts:List Tk):List Value:=ts.map fun k=>.int .u8 (tkY k:Int)
theorem qfa(a b:List Tk):encY (a++b)=encY a++encY b:=by simp[encY]
structure GrowV (w w':World) (v v':Value):Prop where
 gr:w.grownBy w' v.ownBlock
 loc:v'.ownBlock=v.ownBlock\/∃k,v'.ownBlock=some k/\w.heap.size<=k
theorem GrowV.refl(w:World)(v:Value):GrowV w w v v:=⟨World.grownBy.refl _ _,Or.inl rfl⟩
theorem GrowV.ofBelow{w w':World}(v:Value)(h:Below w.heap.size w w'):GrowV w w' v v:=⟨⟨h.os,h.tape,h.output,h.size,fun k hk _=>h.block k hk⟩,Or.inl rfl⟩
theorem GrowV.trans{w w1 w2:World}{v v1 v2:Value}(h:GrowV w w1 v v1)(k:GrowV w1 w2 v1 v2):GrowV w w2 v v2:=by
 refine⟨⟨k.gr.os.trans h.gr.os,k.gr.tape.trans h.gr.tape,k.gr.output.trans h.gr.output,Nat.le_trans h.gr.size k.gr.size,fun j hj hn=>?_⟩,?_⟩
 ·refine (k.gr.block j (Nat.lt_of_lt_of_le hj h.gr.size) ?_).trans (h.gr.block j hj hn)
  rcases h.loc with e|⟨q,e,hq⟩
  ·rw[e];exact hn
  ·rw[e];intro e2;injection e2 with e2;omega
 ·rcases k.loc with e|⟨q,e,hq⟩
  ·rw[e]
   exact h.loc
  ·exact Or.inr ⟨q,e,Nat.le_trans h.gr.size hq⟩
def WrC (T0:Tr) (base:Nat) (G:Nat->Prop) (b:Nat) (T:TypeId) (rest:List Value) (items:List It) (a:Int) (ts:List Tk):Prop :=
 ∀(w:World) (v:Value) (xs:List Tk),base<=w.heap.size->PtO T0 w G b T rest items->w.ownsRow base 5 1 v xs.length (encY xs)->xs.length+ts.length<=60000000 ->
  Calls Tryz.prog 135 #[.pointer (some ⟨b,0,none⟩),v,.int .i64 a] w fun e w'=>∃v',e=.returned v'/\GrowV w w' v v'/\w'.ownsRow base 5 1 v' (xs++ts).length (encY (xs++ts))
theorem q2v{T0:Tr}{base:Nat}{G:Nat->Prop}{b:Nat}{T:TypeId}{rest:List Value}{items:List It}:WrC T0 base G b T rest items (-1) []:=by
 intro w v xs hb hP hO _;have HQ:Hid (w.ownsRow base 5 1 v (xs++[]).length (encY (xs++[]))):=by rw[List.append_nil];exact hO
 obtain⟨a,cap,rfl⟩:=qE hO;clear hP hO;generalize xs.length=n at *;go_enter Tryz.func135,Tryz.ntmps135
 go_wp2;go_ret
 exact⟨_,rfl,GrowV.refl _ _,HQ.out⟩
theorem qb0:(Tryz.prog.info? 5).map (fun i=>(i.zero,i.size,i.bytes))=some (some (.int .u8 0),1,1):=by kernel_rfl
theorem qfZ{op p:Nat}(ho:op<=23)(hp:p<=7):bits .or .u8 ((op:Int)*8) (p:Int)=((op*8+p:Nat):Int):=by
 rcases q2y ho with rfl|rfl|rfl|rfl|rfl|rfl|rfl|rfl|rfl|rfl|rfl|rfl|rfl|rfl|rfl|rfl|rfl|rfl|rfl|rfl|rfl|rfl|rfl|rfl <;>
 ·have:p=0\/p=1\/p=2\/p=3\/p=4\/p=5\/p=6\/p=7:=by omega
  rcases this with rfl|rfl|rfl|rfl|rfl|rfl|rfl|rfl <;> decide
theorem q2w{T0:Tr}{base:Nat}{G:Nat->Prop}{b:Nat}{T:TypeId}{rest:List Value}{items:List It}(hG:∀k,G k->k<base)(i op p:Nat)(xa xb:Int)(hx:items[i]? = some ⟨op,p,xa,xb⟩)(ho:op<=23)(hp:p<=7)(ta tb:List Tk)
  (hA:WrC T0 base G b T rest items xa ta) (hB:WrC T0 base G b T rest items xb tb):WrC T0 base G b T rest items (i:Int) (ta++tb++[(op,p)]):=by
 intro w v xs hb hP hO hn;have hl:(ta++tb++[(op,p)]).length=ta.length+tb.length+1:=by simp[Nat.add_assoc]
 rw[hl]at hn;obtain⟨a,n,cap,g,o,c0,hidx,x0,x1,x2,x3⟩:=hP.at hx;have hbn:=qc w (itO ⟨op,p,xa,xb⟩);have hne:((i:Int) == -1)=false:=by rw[bqn];omega
 have hbx:=(MapKept.heap_alloc w (itO ⟨op,p,xa,xb⟩)).1;have hz:(w.alloc (itO ⟨op,p,xa,xb⟩)).heap.size=w.heap.size+1:=by simp
 have j1:=hA (w.alloc (itO ⟨op,p,xa,xb⟩)) v xs (by omega) (hP.up hbn) (q1a hO hbn) (by omega)
 have hge:=q1Q hO;have hlt:=qC hO;have HP:Hid (∀w' v',GrowV w w' v v'->PtO T0 w' G b T rest items):=fun w' v' hg=>hP.far fun k hk=>hg.gr.block k (by have:=hG k hk;omega) (fun e=>by have:=hG k hk;have:=hge k e.symm;omega)
 have HBXK:Hid (∀w' v',GrowV (w.alloc (itO ⟨op,p,xa,xb⟩)) w' v v'->w'.heap[w.heap.size]? = some (itO ⟨op,p,xa,xb⟩)):=fun w' v' hg=>(hg.gr.block _ (by omega) (fun e=>by have:=hlt _ e.symm;omega)).trans hbx
 have HB:Hid (WrC T0 base G b T rest items xb tb):=hB;have HG0:Hid (GrowV w (w.alloc (itO ⟨op,p,xa,xb⟩)) v v):=GrowV.ofBelow v hbn;have HTB:Hid (bits .or .u8 ((op:Int)*8) (p:Int)=((op*8+p:Nat):Int)):=qfZ ho hp;have HN:Hid (xs.length+(ta.length+tb.length+1)<=60000000):=hn;have HBS:Hid (base<=w.heap.size):=hb;have HZ:Hid _:=hz;have a2:(w.alloc (itO ⟨op,p,xa,xb⟩)).cell? ⟨w.heap.size,2,none⟩=some (.int .i64 xa):=qb hbx 2;obtain⟨sa,scap,rfl⟩:=qE hO;clear hP hO hA hB hx hbn hbx hG hge hlt hn hl;generalize hvv:Value.slice sa xs.length scap=v at *;unfold itO at *;dsimp only at *
 go_enter Tryz.func135,Tryz.ntmps135
 go_wp2_with fail
 refine j1.mono ?_
 rintro e w1 ⟨v1,rfl,hg1,ho1⟩
 have hbx1:=HBXK.out w1 v1 hg1;have a3:w1.cell? ⟨w.heap.size,3,none⟩=some (.int .i64 xb):=qb hbx1 3;have hsz1:=hg1.gr.size;have j2:=HB.out w1 v1 (xs++ta) (by have:=HZ.out;have:=HBS.out;omega) (HP.out w1 v1 (HG0.out.trans hg1)) ho1 (by have:=HN.out;simp;omega)
 have HG1:Hid _:=hg1;clear j1 hg1 ho1 hbx1 a2 c0 hidx x0 x1 x2 x3 hsz1
 go_wp2_with fail
 refine j2.mono ?_
 rintro e w2 ⟨v2,rfl,hg2,ho2⟩
 have HGA:Hid _:=HG1.out.trans hg2;have HG2:Hid (GrowV w w2 v v2):=HG0.out.trans HGA.out;have hbx2:=HBXK.out w2 v2 HGA.out;have b0:w2.cell? ⟨w.heap.size,0,none⟩=some (.int .u8 (op:Int)):=qb hbx2 0;have b1:w2.cell? ⟨w.heap.size,1,none⟩=some (.int .u8 (p:Int)):=qb hbx2 1;obtain⟨sb,bcap,rfl⟩:=qE ho2;have HO2:Hid _:=ho2;have hL:(xs++ta++tb).length<=60000000:=by have:=HN.out;simp;omega
 have HS2:Hid (w.heap.size<=w2.heap.size):=HG2.out.gr.size;clear j2 hg2 ho2 hbx2 a3;generalize hLL:(xs++ta++tb).length=L at *;have HL:Hid _:=hLL;clear hLL;have hY:∀y:Int,(w2.alloc (.cells #[.int .u8 y] 5)).cell? ⟨w2.heap.size,0,none⟩=some (.int .u8 y):=fun y=>qb (MapKept.heap_alloc w2 _).1 0
 have hOY:∀y:Int,(w2.alloc (.cells #[.int .u8 y] 5)).ownsRow base 5 1 (.slice sb L bcap) L (encY (xs++ta++tb)):=fun y=>World.ownsRow.alloc HO2.out _
 go_wp2_with (at_builtin;refine q3g Tryz.underlying199 qb0 rfl (by decide) rfl _ _ rfl base _ L (encY (xs++ta++tb)) _ w2.heap.size rfl rfl (hOY _) (hY _) rfl (by omega) (by have:=HBS.out;have:=HS2.out;simp;omega) ?_)
 intro v3 w3 hown3 hgr3 hloc3;have e3:=HTB.out;rw[e3]at hown3 hgr3
 have HO3:Hid (w3.ownsRow base 5 1 v3 (xs++(ta++tb++[(op,p)])).length (encY (xs++(ta++tb++[(op,p)])))):=by
  have e:xs++(ta++tb++[(op,p)])=xs++(ta++tb)++[(op,p)]:=by simp
  have e2:(xs++(ta++tb)).length=L:=by have:=HL.out;simpa using this
  show w3.ownsRow _ _ _ _ _ _
  rw[e,qfa,List.length_append,e2];exact hown3
 have hbn:=qc w2 (.cells #[.int .u8 ((op*8+p:Nat):Int)] 5);have HG3:Hid (GrowV w w3 v v3):=HG2.out.trans ((GrowV.ofBelow _ hbn).trans ⟨hgr3,hloc3.imp id fun e=>⟨_,e,by simp⟩⟩)
 obtain⟨s3,cap3,rfl⟩:=qE HO3.out;clear hown3 hgr3 hloc3 hbn hY hOY HO2 e3;go_wp2;go_ret
 exact⟨_,rfl,HG3.out,HO3.out⟩
theorem q2b{T0:Tr}{base:Nat}{G:Nat->Prop}{b:Nat}{T:TypeId}{rest:List Value}{items:List It}(hG:∀k,G k->k<base):∀(S:Tr),S.WF->∀i,Rep items i S->WrC T0 base G b T rest items (i:Int) S.flat
 | .leaf (op,p),hw,i,hi=>by
  have hx:items[i]? = some ⟨op,p,-1,-1⟩:=by cases hi with|leaf h=>exact h
  have hs:=q1U _ hw (op,p) (by simp[Tr.flat])
  exact q2w hG i op p (-1) (-1) hx hs.1 hs.2 [] [] q2v q2v
 | .un (op,p) c,hw,i,hi=>by
  obtain⟨m,hx,hm⟩:∃m:Nat,items[i]? = some ⟨op,p,(m:Int),-1⟩/\Rep items m c:=by cases hi with|un h h1 h2=>exact⟨_,h,h2⟩
  have hs:=q1U _ hw (op,p) (by simp[Tr.flat])
  have h:WrC T0 base G b T rest items (i:Int) (c.flat++[]++[(op,p)]):=q2w hG i op p (m:Int) (-1) hx hs.1 hs.2 c.flat [] (q2b hG c (qL hw).2.1 m hm) q2v;rw[List.append_nil]at h;exact h
 | .bin (op,p) c d,hw,i,hi=>by
  obtain⟨m,l,hx,hm,hl⟩:∃m l:Nat,items[i]? = some ⟨op,p,(m:Int),(l:Int)⟩/\Rep items m c/\Rep items l d:=by cases hi with|bin h h1 h2 h3 h4=>exact⟨_,_,h,h3,h4⟩
  have hs:=q1U _ hw (op,p) (by simp[Tr.flat])
  exact q2w hG i op p (m:Int) (l:Int) hx hs.1 hs.2 c.flat d.flat (q2b hG c (qF hw).2.1 m hm) (q2b hG d (qF hw).2.2.1 l hl)
theorem qdr{w:World}{base n:Nat}{v:Value}{ts:List Tk}(h:w.ownsRow base 5 1 v n (encY ts))(hs:∀k∈ts,k.1<=23/\k.2<=7):(convert 199 9 v).run Tryz.prog w=.ok (.string ⟨(ts.map fun k=>UInt8.ofNat (k.1*8+k.2)).toArray⟩) w:=by
 have hl:ts.length=n:=by have:=h.1;simpa [encY] using this
 rcases h.2 with⟨rfl,h0⟩|⟨g,cap,cur,hv,hg,hcell,hnc,hcm,hsz,htk⟩
 ·obtain rfl:ts=[]:=List.eq_nil_of_length_eq_zero (by omega)
  rw[run_convert_bytes_string w 199 9 5 none 0 0 Tryz.underlying199 Tryz.underlying5 Tryz.underlying9];simp[Conv.bytesToString]
  rfl
 ·subst hv hl
  have e:ts.length=(ts.map fun k=>UInt8.ofNat (k.1*8+k.2)).length:=by simp
  have key:=run_convert_bytes_back (P:=Tryz.prog) w 199 9 5 ⟨g,0,none⟩ cap (ts.map fun k=>UInt8.ofNat (k.1*8+k.2)) Tryz.underlying199 Tryz.underlying5 Tryz.underlying9 (fun j hj=>by
   have hj':j<ts.length:=by simpa using hj
   have hk:(cur.toList.take (ts.length*1))[j]? = some (.int .u8 (tkY ts[j]:Int)):=by rw[htk];simp[encY,hj']
   rw[List.getElem?_take,if_pos (by omega)]at hk
   have hb:=hs _ (List.getElem_mem hj');rw[qg,Nat.zero_add];simp[World.cell?,hcell]
   have e2:(UInt8.ofNat (ts[j].1*8+ts[j].2)).toNat=tkY ts[j]:=by
    unfold tkY;simp
    omega
   rw[show cur[j]? = cur.toList[j]? by simp,hk,<- e2]
   simp)
  rw[<- e]at key;exact key
theorem qda{w:World}{base e n i:Nat}{v:Value}{xs:List Value}(h:w.ownsRow base e 1 v n xs)(hi:i<n)(y:Value):∃g cap,v=.slice (some ⟨g,0,none⟩) n cap/\base<=g/\n<=cap/\w.cell? ⟨g,i,none⟩=xs[i]? /\ w.frozen? ⟨g,i,none⟩=false/\(w.setCell ⟨g,i,none⟩ y).ownsRow base e 1 v n (xs.set i y):=by
 obtain⟨hl,h⟩:=h;rcases h with⟨rfl,h0⟩|⟨g,cap,cur,rfl,hg,hcell,hnc,hcm,hsz,htk⟩
 ·omega
 ·have hcu:cur.toList.length=cap:=by simpa using hsz
  refine⟨g,cap,rfl,hg,hnc,?_,frozen_of_row w g i _ _ hcell,by simpa using hl,Or.inr ⟨g,cap,cur.setIfInBounds i y,rfl,hg,heap_setCell_same w g i _ _ y hcell,hnc,hcm,by simpa using hsz,?_⟩⟩
  ·rw[qb hcell i,<- htk,List.getElem?_take,if_pos (by omega)]
   simp
  ·rw[<- htk]
   simp[List.take_set]
theorem qhG(S:Tr):txB S≠⟨#[]⟩:=by
 intro h;have h1:(S.flat.map fun k=>UInt8.ofNat (k.1*8+k.2)).toArray=#[]:=congrArg ByteArray.data h
 have h2:=congrArg Array.size h1;simp at h2
 have h3:=q33 S;have:=q7g S
 rw[h2]at h3;simp at h3
 omega
theorem q7h(S:Tr):(txB S).size=S.size:=by
 show (S.flat.map fun k=>UInt8.ofNat (k.1*8+k.2)).toArray.size=_
 simp[q33]
theorem PtR.setT{w:World}{b mp n i:Nat}{T:TypeId}{rest:List Value}{vi vt:Value}{items:List It}{texts:List ByteArray}{f:It->Option Nat}(h:PtR w b T rest vi mp vt items texts n f)(hi:i<texts.length)(s:ByteArray):
  ∃g cap,vt=.slice (some ⟨g,0,none⟩) texts.length cap/\texts.length<=cap/\w.cell? ⟨g,i,none⟩=some (.string texts[i])/\w.frozen? ⟨g,i,none⟩=false/\PtR (w.setCell ⟨g,i,none⟩ (.string s)) b T rest vi mp vt items (texts.set i s) n f/\Fr w (w.setCell ⟨g,i,none⟩ (.string s)) (FP b mp vi vt) (FP b mp vi vt):=by
 obtain⟨g,cap,rfl,_,hnc,hc,hz,ho⟩:=qda h.rt hi (.string s);have hgb:b≠g:=fun e=>h.tb (by rw[e];rfl)
 have hgm:mp≠g:=fun e=>h.tm (by rw[e];rfl)
 have st:∀k,k≠g->(w.setCell ⟨g,i,none⟩ (.string s)).heap[k]? = w.heap[k]? := fun k hk=>Below.heap_setCell _ _ _ _ hk
 refine⟨g,cap,rfl,hnc,by rw[hc];simp[hi],hz,⟨h.ty,(st b hgb).trans h.blk,qn h.ri fun k hk=>st k (fun e=>h.it k hk (by rw[e];rfl)),?_,h.num.far (st mp hgm)⟩,rfl,rfl,rfl,by simp,fun k hk hF=>st k (fun e=>hF (Or.inr (Or.inr (Or.inr (by rw[e];rfl))))),fun _ hk=>Or.inl hk⟩
 rw[List.length_set,List.map_set];exact ho
def TextP (T0:Tr) (w:World) (G:Nat->Prop) (b:Nat) (T:TypeId) (rest:List Value) (items:List It) (w':World):Prop:=PtO T0 w' G b T rest items/\Fr w w' G G
theorem q4s{T0:Tr}{w:World}{G:Nat->Prop}{b:Nat}{T:TypeId}{rest:List Value}{items:List It}(h:PtO T0 w G b T rest items)(i:Nat)(S:Tr)(hi:Rep items i S)(hS:InC T0 S):
  Calls Tryz.prog 115 #[.pointer (some ⟨b,0,none⟩),.int .i64 (i:Int)] w fun e w'=>e=.returned (.string (txB S))/\TextP T0 w G b T rest items w':=by
 obtain⟨texts,hp,ht⟩:=h.ex;obtain⟨vi,mp,vt,hr,hG⟩:=hp.ex;have hil:i<texts.length:=by rw[hp.tl];exact hi.lt
 obtain⟨g,cap,rfl,hcap,hc,hz,hr2,fr2⟩:=hr.setT hil (txB S);have c2:=hr.c2
 have hidx:∀w',(Instr.indexAt 101 (.slice (some ⟨g,0,none⟩) texts.length cap) (.int .i64 (i:Int))).run Tryz.prog w'=.ok (.pointer (some ⟨g,i,none⟩)) w':=fun w'=>by
  simp[Instr.indexAt,run_underlying Tryz.underlying101,asIntOf,q1D (show (Tryz.prog.info? 9).map (·.size)=some 1 by kernel_rfl),hil,Result.andThen,go_sem,qg]
 have hk:=q36 h.t0.kt hS;have hw:S.WF:=by rcases hk with k|k <;> exact k.wf
 have hti:texts[i]? = some texts[i]:=lge hil
 rcases ht i S hi with h0|h1
 ·rw[hti]at h0
  injection h0 with h0;rw[h0]at hc;have hglt:∀k,G k->k<w.heap.size:=h.lt;have hsz:=(q4U h.t0.sz hS).1;have hfl:=q33 S;have hwr:=q2b (T0:=T0) (T:=T) (b:=b) (rest:=rest) hglt S hw i hi w.drew (.slice none 0 0) [] (Nat.le_refl _) (h.up (Below.refl _ _).drew) ⟨rfl,Or.inl ⟨rfl,rfl⟩⟩ (by simp;omega)
  have HW1:Hid (∀w1 v1,GrowV w.drew w1 (.slice none 0 0) v1->w1.ownsRow w.heap.size 5 1 v1 ([]++S.flat).length (encY ([]++S.flat))->(convert 199 9 v1).run Tryz.prog w1=.ok (.string (txB S)) w1/\w1.cell? ⟨b,2,none⟩=some (.slice (some ⟨g,0,none⟩) texts.length cap)/\w1.cell? ⟨g,i,none⟩=some (.string ⟨#[]⟩)/\w1.frozen? ⟨g,i,none⟩=false /\
    (w1.setCell ⟨g,i,none⟩ (.string (txB S))).cell? ⟨b,2,none⟩=some (.slice (some ⟨g,0,none⟩) texts.length cap)/\(w1.setCell ⟨g,i,none⟩ (.string (txB S))).cell? ⟨g,i,none⟩=some (.string (txB S))/\TextP T0 w G b T rest items (w1.setCell ⟨g,i,none⟩ (.string (txB S)))):=by
   intro w1 v1 hg1 ho1;have hb1:Below w.heap.size w w1:=⟨hg1.gr.os,hg1.gr.tape,hg1.gr.output,hg1.gr.size,fun k hk=>hg1.gr.block k hk (fun e=>by cases e)⟩
   have hr1:=hr.up hb1;obtain⟨g',cap',e,_,hc',hz',hr2',fr2'⟩:=hr1.setT hil (txB S);injection e with e1 e2 e3;injection e1 with e1;injection e1 with e1;subst e1 e3;obtain⟨cs,hcs⟩:∃cs,(w1.setCell ⟨g,i,none⟩ (.string (txB S))).heap[g]? = some (.cells cs 9 (0,0)):=qeD hr2'.rt rfl
   have hown:=qda hr2'.rt (i:=i) (by rw[List.length_set];exact hil) (.string (txB S))
   obtain⟨g2,cap2,e2,_,_,hc2,_⟩:=hown;injection e2 with e2 _ _;injection e2 with e2;injection e2 with e2;subst e2;refine⟨qdr ho1 (q1U S hw),hr1.c2,by rw[hc',h0],hz',hr2'.c2,by rw[hc2];simp[hil],⟨h.t0,h.low,h.cov,texts.set i (txB S),⟨hp.nd,by rw[List.length_set];exact hp.tl,hp.few,hp.ok,fun s hs=>?_,vi,mp,_,hr2',hG⟩,fun n S' hn=>?_⟩,?_⟩
   ·rcases List.mem_or_eq_of_mem_set hs with hs|rfl
    ·exact hp.tok s hs
    ·unfold SOk;rw[q7h];omega
   ·by_cases e:n=i
    ·subst e
     have:=Rep.tree hi hn
     subst this;exact Or.inr (by simp[hil])
    ·rw[List.getElem?_set_ne (fun h=>e h.symm)]
     exact ht n S' hn
   ·exact((Fr.ofBelow hb1).trans fr2').alike (fun k hk=>(hG k).2 hk) (fun k hk=>(hG k).1 hk)
  have hz0:((⟨#[]⟩:ByteArray).toList == ([]:List UInt8))=true:=by rw[ByteArray.toList_eq];rfl
  clear h hp ht hr hr2 fr2 hG hi hS hk hw hti h0 hglt hsz hfl;generalize txB S=s at *;generalize S.flat=fl at *;generalize texts.length=L at *;go_enter Tryz.func115,Tryz.ntmps115
  go_upto_region 40 with fail
  go_region_with (first
   | (go_at_call 135;(with_reducible refine hwr.mono ?_);rintro e w1 ⟨v1,rfl,hg1,ho1⟩;have hq:=HW1.out w1 v1 hg1 ho1;have q1:=hq.1;have q0:=hq.2.1;have q2:=hq.2.2.1;have q3:=hq.2.2.2.1)
   | fail)
  all_goals
   have q4:=hq.2.2.2.2.1;have q5:=hq.2.2.2.2.2.1;have HQ:Hid _:=hq.2.2.2.2.2.2;clear hwr hq q0 q1 q2 q3 hg1 ho1 HW1 c2 hc hz;generalize w1.setCell ⟨g,i,none⟩ (.string s)=w2 at *;go_wp2;go_ret
   exact⟨rfl,HQ.out⟩
 ·rw[hti]at h1
  injection h1 with h1;rw[h1]at hc
  have hne:((txB S).toList == ([]:List UInt8))=false:=by
   rw[bqn];intro e;refine qhG S ?_
   have:(txB S).toList=(txB S).data.toList:=by rw[ByteArray.toList_eq]
   rw[this]at e;have e2:(txB S).data=#[]:=by simpa using e
   exact congrArg ByteArray.mk e2
  have HQ:Hid (TextP T0 w G b T rest items w):=⟨h,Fr.ofBelow (Below.refl _ _)⟩;clear h hp ht hr hr2 fr2 hG hi hS hk hw hti h1;generalize txB S=s at *;go_enter Tryz.func115,Tryz.ntmps115
  go_wp2;go_ret
  exact⟨rfl,HQ.out⟩
theorem q96{w:World}{ops:Array Oper}{o:Oper}{a:Act}{K:Act->World->Prop}{Q:Exit->Act->World->Prop}{E:Prop}(hw:Region.wanted o (yielded ops a.tmps)=true)(m x:Operand)
  (ho:o.op=.call { callee:=.builtin .delete,args:=#[m,x],argTypes:=#[100,140] }) (b n:Nat) (f:It->Option Nat) (y:It) (hm:a.eval m=.map (some b)) (hx:a.eval x=itV y)
  (h:NumOf w b n f) (hy:ItOk y) (hf:(f y).isSome=true)
  (hK:∀w',NumOf w' b (n - 1) (fun z=>if z=y then none else f z)->w.grownBy w' (some b)->K (a.put o.dst (.tuple #[])) w'):
  if Region.wanted o (yielded ops a.tmps)=true then Oper.wp Tryz.prog o a w K Q else E:=by
 rw[if_pos hw];obtain⟨w',hr,h1,h2⟩:=h.drop hy hf o.type;unfold Oper.wp execOp;simp only[ho,resolve,invoke,builtin,Sem.run_bind,Sem.run_pure,Result.andThen_ok,List.map_toArray,List.map_cons,List.map_nil,hm,hx,hr]
 exact hK w' h1 h2
def outI (items:List It) (n i:Nat) (y:It):Option Nat:=(posI items y).bind fun j=>if n<=j/\j<n+i then none else some j
theorem qez(items:List It)(n:Nat)(y:It):posI items y=outI items n 0 y:=by
 unfold outI
 cases posI items y with
 | none=>rfl
 | some j=>simp only[Option.bind_some];rw[if_neg (by omega)]
theorem qey{items:List It}(hn:items.Nodup){n i:Nat}(h:n+i<items.length)(y:It):(if y=items[n+i] then none else outI items n i y)=outI items n (i+1) y:=by
 unfold outI;by_cases e:y=items[n+i]
 ·rw[if_pos e,(q2J hn (j:=n+i)).2 (by rw[e];exact lge h)]
  simp only[Option.bind_some]
  rw[if_pos (by omega)]
 ·rw[if_neg e]
  cases hp:posI items y with
  | none=>rfl
  | some j =>
   have hj:=(q2J hn).1 hp;have:j≠n+i:=fun he=>e (by subst he;rw[lge h]at hj;injection hj with hj;exact hj.symm)
   simp only[Option.bind_some]
   by_cases c:n<=j/\j<n+i
   ·rw[if_pos c,if_pos (by omega)]
   ·rw[if_neg c,if_neg (by omega)]
theorem qdR{items:List It}(hn:items.Nodup){n i:Nat}(h:n+i<items.length):(outI items n i items[n+i]).isSome=true:=by
 unfold outI;rw[(q2J hn (j:=n+i)).2 (List.getElem?_eq_getElem h)];simp only[Option.bind_some]
 rw[if_neg (by omega)]
 rfl
theorem qfx{items:List It}(hn:items.Nodup){n:Nat}(h:n<=items.length)(y:It):outI items n (items.length - n) y=posI (items.take n) y:=by
 unfold outI
 cases hp:posI items y with
 | none =>
  rw[q1R]at hp;exact(q1R.2 (fun hy=>hp (List.mem_of_mem_take hy))).symm
 | some j =>
  have hj:=(q2J hn).1 hp;have hl:=qgU hp;simp only[Option.bind_some]
  by_cases c:j<n
  ·rw[if_neg (by omega)]
   refine ((q2J (hn.sublist (List.take_sublist _ _))).2 ?_).symm
   rw[List.getElem?_take,if_pos c];exact hj
  ·rw[if_pos (by omega)]
   refine (q1R.2 fun hy=>?_).symm
   obtain⟨i,hi⟩:=List.mem_iff_getElem?.1 hy;rw[List.getElem?_take]at hi;by_cases ci:i<n
   ·rw[if_pos ci]at hi
    have:=q3P hn hi hj
    omega
   ·rw[if_neg ci]at hi;cases hi
theorem qgZ{w:World}{a:Option Addr}{n cap m:Nat}{items:List It}(h:w.ownsRow 0 140 4 (.slice a n cap) n (encI items))(hl:items.length=n)(hm:m<=n):
  ∃a',(∀w',(Instr.sliceAt 99 (.slice a n cap) (some (.int .i64 (m:Int))) none none).run Tryz.prog w'=.ok (.slice a' (n - m) (cap - m)) w') /\
   ∀k (x:It),items[m+k]? = some x->∃g o,(∀w',(Instr.indexAt 99 (.slice a' (n - m) (cap - m)) (.int .i64 (k:Int))).run Tryz.prog w'=.ok (.pointer (some ⟨g,o,none⟩)) w') /\
    ∀w':World,w'.ownsRow 0 140 4 (.slice a n cap) n (encI items)->w'.cell? ⟨g,o,none⟩=some (.int .u8 (x.op:Int))/\w'.cell? ⟨g,o+1,none⟩=some (.int .u8 (x.p:Int))/\w'.cell? ⟨g,o+2,none⟩=some (.int .i64 x.a)/\w'.cell? ⟨g,o+3,none⟩=some (.int .i64 x.b):=by
 rcases h.2 with⟨e,e0⟩|⟨g,cap',cur,e,_,hcell,hnc,_,hsz,htk⟩
 ·injection e with e1 _ e3
  subst e1 e3 e0;obtain⟨a',h1,_⟩:=cut_n (P:=Tryz.prog) Tryz.underlying99 q1L none 0 0 m hm (Nat.le_refl _) (fun _=>rfl)
  exact⟨a',h1,fun k x hk=>absurd (List.getElem?_eq_some_iff.1 hk).1 (by omega)⟩
 ·injection e with e1 _ e3
  subst e1 e3;obtain⟨a',h1,_,h3⟩:=cut_n (P:=Tryz.prog) Tryz.underlying99 q1L (some ⟨g,0,none⟩) n cap m hm hnc (fun e=>by cases e)
  refine⟨a',h1,fun k x hx=>?_⟩
  obtain⟨hk,rfl⟩:=List.getElem?_eq_some_iff.1 hx;have ha:=h3 (by omega) _ rfl
  rw[qg,Nat.zero_add]at ha;subst ha;have hkn:k<n - m:=by omega
  refine⟨g,4*(m+k),fun w'=>?_,fun w' ho=>?_⟩
  ·simp[Instr.indexAt,run_underlying Tryz.underlying99,asIntOf,q1D q1L,hkn,Result.andThen,go_sem,qg,Nat.mul_comm]
  ·rcases ho.2 with⟨e,e0⟩|⟨g',cap',cur',e,_,hcell',hnc',_,hsz',htk'⟩
   ·cases e
   ·injection e with e1 _ e3
    injection e1 with e1;injection e1 with e1 _ _;subst e1
    have key:∀j,j<n*4->w'.cell? ⟨g,j,none⟩=(encI items)[j]? := fun j hj=>by
     rw[<- htk',List.getElem?_take,if_pos hj];simp[World.cell?,hcell']
    obtain⟨q0,q1,q2,q3⟩:=q4Q items (m+k) hk;refine⟨?_,?_,?_,?_⟩
    ·rw[key _ (by omega)];exact q0
    ·rw[key _ (by omega)];exact q1
    ·rw[key _ (by omega)];exact q2
    ·rw[key _ (by omega)];exact q3
structure Cut (w wr:World) (t mb L i n:Nat) (a:Option Addr) (cap:Nat) (items:List It):Prop where
 num:NumOf wr mb (L - i) (outI items n i)
 gr:w.grownBy wr (some mb)
theorem Cut.blk{w wr:World}{t mb i n cap:Nat}{a:Option Addr}{items:List It}(h:TabR w t a items.length cap mb items)(c:Cut w wr t mb items.length i n a cap items):wr.heap[t]? = some (.cells #[tbV t,.slice a items.length cap,.map (some mb)] 175 (0,0))/\wr.ownsRow 0 140 4 (.slice a items.length cap) items.length (encI items):=by
 obtain⟨es,cl,hmap⟩:=h.num.isMap;have hmt:t≠mb:=fun e=>by rw[<- e,h.blk]at hmap;cases hmap
 have hnm:(Value.slice a items.length cap).ownBlock≠some mb:=q4B h.row hmap (fun cs e=>by cases e)
 have st:∀k,k<w.heap.size->k≠mb->wr.heap[k]? = w.heap[k]? := fun k hk hne=>c.gr.block k hk (fun e=>hne (by injection e))
 exact⟨(st t (aes h.blk).1 hmt).trans h.blk,qn h.row fun k hk=>st k (qC h.row k hk) (fun e=>hnm (e ▸ hk))⟩
theorem qgf{w wr:World}{F:Nat->Prop}{t mb n cap:Nat}{a:Option Addr}{items:List It}(hI:TabI w F t items)(h:TabR w t a items.length cap mb items)(hF:∀k,F k↔(k=t\/k=mb\/(Value.slice a items.length cap).ownBlock=some k))(hn:n<=items.length)
  (c:Cut w wr t mb items.length (items.length - n) n a cap items):TabI (wr.setCell ⟨t,1,none⟩ (.slice a n cap)) F t (items.take n)/\Fr w (wr.setCell ⟨t,1,none⟩ (.slice a n cap)) F F:=by
 obtain⟨h1,h2⟩:=c.blk h;obtain⟨es,cl,hmap⟩:=c.num.isMap;have hmt:mb≠t:=fun e=>by rw[e,h1]at hmap;cases hmap
 have hne:(Value.slice a items.length cap).ownBlock≠some t:=q4B h2 h1 (fun cs e=>by injection e with _ e _;exact absurd e (by decide))
 have hlen:(items.take n).length=n:=by simp;omega
 obtain⟨a',cap',e,_,_,_,h4,h5⟩:=q4C h2 hn;injection e with e1 _ e3;subst e1 e3;rw[qea]at h4;refine⟨⟨hI.nd.sublist (List.take_sublist _ _),by have:=hI.few;omega,fun x hx=>hI.ok x (List.mem_of_mem_take hx),.slice a n cap,mb,?_,?_,?_,fun k=>?_⟩,?_⟩
 ·rw[heap_setCell_same wr t 1 _ _ _ h1];rfl
 ·rw[hlen]
  refine qn h4 fun k hk=>Below.heap_setCell _ _ _ _ ?_
  dsimp only
  rintro rfl
  rw[h5]at hk;exact hne hk
 ·rw[hlen]
  have:=c.num
  rw[show items.length - (items.length - n)=n by omega]at this
  exact(this.far (Below.heap_setCell _ _ _ _ (by dsimp only;exact hmt))).alike fun y _=>qfx hI.nd hn y
 ·rw[h5];exact hF k
 ·refine⟨c.gr.os,c.gr.tape,c.gr.output,by have:=c.gr.size;simpa using this,fun k hk hf=>?_,fun _ hk=>Or.inl hk⟩
  have hf':=fun e=>hf ((hF k).2 e)
  exact(Below.heap_setCell _ _ _ _ (by dsimp only;exact fun e=>hf' (Or.inl e))).trans (c.gr.block k hk (fun e=>hf' (Or.inr (Or.inl (by injection e)))))
theorem qaK{w:World}{F:Nat->Prop}{t:Nat}{items:List It}(h:TabI w F t items)(n:Nat)(hn:n<=items.length):
  Calls Tryz.prog 110 #[.pointer (some ⟨t,0,none⟩),.int .i64 (n:Int)] w fun e w'=>e=.returned (.tuple #[])/\TabI w' F t (items.take n)/\Fr w w' F F:=by
 obtain⟨a,cap,mb,hr,hF⟩:=h.read;have c1:=hr.c1;obtain⟨a',hcut,hat⟩:=qgZ hr.row rfl hn;have hpre:=fun w'=>pre_n (P:=Tryz.prog) Tryz.underlying99 q1L a items.length cap n hn hr.hc hr.nn w'
 have HR:Hid _:=hr;have HF:Hid _:=hF;have HI:Hid _:=h;have HAT:Hid _:=hat;have HC0:Hid (Cut w w t mb items.length 0 n a cap items):=⟨hr.num.alike fun y _=>qez items n y,⟨rfl,rfl,rfl,Nat.le_refl _,fun _ _ _=>rfl⟩⟩
 have HN:Hid (n<=items.length):=hn;have hfew:=h.few;clear h hr hF hat hn;generalize hL:items.length=L at *;have HL:Hid (items.length=L):=hL;clear hL;go_enter Tryz.func110,Tryz.ntmps110
 go_wp2
 go_loopw [13] (fun i wr=>∃k:Nat,k<=L - n/\i=.int .i64 k/\Hid (Cut w wr t mb L k n a cap items)) (fun i _=>(L - n) - (intOf i).toNat)
 case atStart=>exact⟨0,Nat.zero_le _,rfl,HC0⟩
 case round =>
  obtain⟨k,hk,rfl,HC⟩:=hrel;clear HC0 c1;by_cases hlt:k<L - n
  ·have hkl:n+k<items.length:=by have:=HL.out;omega
   have hx:items[n+k]? = some items[n+k]:=lge hkl
   have HX:Hid (ItOk items[n+k]):=HI.out.ok _ (List.getElem_mem hkl);have HTH:Hid ((outI items n k items[n+k]).isSome=true):=qdR HI.out.nd hkl;have HNX:Hid (∀y,(if y=items[n+k] then none else outI items n k y)=outI items n (k+1) y):=fun y=>qey HI.out.nd hkl y
   obtain⟨g,o,hio,hcs⟩:=HAT.out k _ hx;have HB:Hid _:=(show Cut w wr t mb items.length k n a cap items by rw[HL.out];exact HC.out).blk (by rw[HL.out];exact HR.out)
   rw[HL.out]at HB;obtain⟨q0,q1,q2,q3⟩:=hcs wr HB.out.2;generalize items[n+k]=x at *;obtain⟨op,p,xa,xb⟩:=x;dsimp only at q0 q1 q2 q3
   clear hx hkl hcs;have hb1:=qc wr (.cells #[.int .u8 (op:Int),.int .u8 (p:Int),.int .i64 xa,.int .i64 xb] 140);have c2:(wr.alloc (.cells #[.int .u8 (op:Int),.int .u8 (p:Int),.int .i64 xa,.int .i64 xb] 140)).cell? ⟨t,2,none⟩=some (.map (some mb)):=qp (qb HB.out.1 2) hb1;have hnum:NumOf (wr.alloc (.cells #[.int .u8 (op:Int),.int .u8 (p:Int),.int .i64 xa,.int .i64 xb] 140)).drew mb (L - k) (outI items n k):=HC.out.num.far (hb1.block mb HC.out.num.lt);have HGR:Hid (w.grownBy (wr.alloc (.cells #[.int .u8 (op:Int),.int .u8 (p:Int),.int .i64 xa,.int .i64 xb] 140)).drew (some mb)):=⟨HC.out.gr.os,HC.out.gr.tape,HC.out.gr.output,by have:=HC.out.gr.size;simp;omega,fun j hj hne=>(hb1.block j (by have:=HC.out.gr.size;omega)).trans (HC.out.gr.block j hj hne)⟩
   clear hb1 HB HC;go_wp2
   go_upto_region 15 with fail
   go_region_law ((refine q96 rfl _ _ rfl mb (L - k) (outI items n k) ⟨op,p,xa,xb⟩ rfl rfl hnum HX.out HTH.out ?_;intro w6 hn6 hg6))
   all_goals
    have HC6:Hid (Cut w w6 t mb L (k+1) n a cap items):=by
     refine⟨?_,⟨hg6.os.trans HGR.out.os,hg6.tape.trans HGR.out.tape,hg6.output.trans HGR.out.output,Nat.le_trans HGR.out.size hg6.size,fun j hj hne=>(hg6.block j (Nat.lt_of_lt_of_le hj HGR.out.size) hne).trans (HGR.out.block j hj hne)⟩⟩
     rw[show L - (k+1)=L - k - 1 by omega]
     exact hn6.alike fun y _=>HNX.out y
    clear hnum c2 hn6 hg6 HGR;go_wp2
    go_roundw
    case rel=>exact⟨k+1,by omega,by go_num,HC6⟩
    case measure=>simp[intOf] <;> omega
  ·obtain rfl:k=L - n:=by omega
   have HC':Hid (Cut w wr t mb items.length (items.length - n) n a cap items):=by show Cut _ _ _ _ _ _ _ _ _ _;rw[HL.out];exact HC.out
   have HR':Hid (TabR w t a items.length cap mb items):=by show TabR _ _ _ _ _ _ _;rw[HL.out];exact HR.out
   have hb:=HC'.out.blk HR'.out;rw[HL.out]at hb;have c1:wr.cell? ⟨t,1,none⟩=some (.slice a L cap):=qb hb.1 1;have z1:wr.frozen? ⟨t,1,none⟩=false:=frozen_of_row wr _ 1 _ _ hb.1;have HFIN:Hid _:=qgf HI.out HR'.out (by rw[HL.out];exact HF.out) (by rw[HL.out];exact HN.out) HC'.out
   clear hb HC';go_wp2
   go_end0
   exact⟨rfl,HFIN.out⟩
def TabB (t bx:Nat) (w:World) (G:Nat->Prop) (items:List It):Prop :=
 ∃F,TabI w F t items/\w.heap[bx]? = some (.cells #[tbV t] 135 (0,0))/\¬ F bx/\∀k,G k↔(F k\/k=bx)
theorem TabB.lt{t bx:Nat}{w:World}{G:Nat->Prop}{items:List It}(h:TabB t bx w G items):(∀k,G k->k<w.heap.size)/\items.length<=4096:=by
 obtain⟨F,h1,h2,_,h4⟩:=h;refine⟨fun k hk=>?_,h1.few⟩
 rcases (h4 k).1 hk with hk|rfl
 ·exact h1.lt k hk
 ·exact(aes h2).1
theorem TabB.far{t bx:Nat}{w w':World}{G:Nat->Prop}{items:List It}(h:TabB t bx w G items)(hb:∀k,G k->w'.heap[k]? = w.heap[k]?):TabB t bx w' G items:=by
 obtain⟨F,h1,h2,h3,h4⟩:=h;exact⟨F,h1.far (fun k hk=>hb k ((h4 k).2 (Or.inl hk))),(hb bx ((h4 bx).2 (Or.inr rfl))).trans h2,h3,h4⟩
theorem TabB.fr{t bx:Nat}{w w':World}{F F' G:Nat->Prop}{items:List It}(h2:w.heap[bx]? = some (.cells #[tbV t] 135 (0,0)))(h3:¬ F bx)(h4:∀k,G k↔(F k\/k=bx))(hT:TabI w' F' t items)(fr:Fr w w' F F'):∃G',TabB t bx w' G' items/\Fr w w' G G':=by
 have hl:=(aes h2).1
 refine⟨fun k=>F' k\/k=bx,⟨F',hT,(fr.keep bx hl h3).trans h2,fr.out h3 hl,fun k=>Iff.rfl⟩,⟨fr.os,fr.tape,fr.output,fr.size,fun k hk hg=>fr.keep k hk (fun hf=>hg ((h4 k).2 (Or.inl hf))),fun k hk=>?_⟩⟩
 rcases hk with hk|hk
 ·rcases fr.foot k hk with h|h
  ·exact Or.inl ((h4 k).2 (Or.inl h))
  ·exact Or.inr h
 ·exact Or.inl ((h4 k).2 (Or.inr hk))
def FindC (S:World->(Nat->Prop)->List It->Prop) (fd:Fnd) (fid bx:Nat):Prop:=∀(w:World) (G:Nat->Prop) (items:List It) (x:It),ItOk x->S w G items->Calls Tryz.prog fid #[itV x,.pointer (some ⟨bx,0,none⟩)] w fun e w' =>
 (∃r,fd items x=some r/\e=.returned (.tuple #[.int .i64 (r.2:Int),.bool true])/\∃G',S w' G' r.1/\Fr w w' G G')\/(fd items x=none/\e=.returned (.tuple #[.int .i64 0,.bool false])/\∃G',S w' G' items/\Fr w w' G G')
theorem q7Y(t bx:Nat):FindC (TabB t bx) kpF 108 bx:=by
 intro w G items x hx hS;obtain⟨F,h1,h2,h3,h4⟩:=hS;obtain⟨a,cap,mb,hr,_⟩:=h1.read;have hb:=qc w (itO x);have hr1:=hr.up hb;have c1:=hr1.c1;have c2:=hr1.c2;have cb:(w.alloc (itO x)).cell? ⟨bx,0,none⟩=some (.pointer (some ⟨t,0,none⟩)):=qp (qb h2 0) hb;have hlk:=fun m=>(show NumOf ((w.alloc (itO x)).drewN m) mb items.length (posI items) from hr1.num).look hx
 have HFIN:Hid (∀w',Below (w.alloc (itO x)).heap.size (w.alloc (itO x)) w'->∃G',TabB t bx w' G' items/\Fr w w' G G'):=fun w' hw=>TabB.fr h2 h3 h4 (h1.up (qd hb hw)) (Fr.same (qd hb hw))
 have HFIN2:Hid (∀(w1 w':World) (F':Nat->Prop),Below (w.alloc (itO x)).heap.size (w.alloc (itO x)) w1->TabI w' F' t (items++[x])->Fr w1 w' F F'->∃G',TabB t bx w' G' (items++[x])/\Fr w w' G G'):=fun w1 w' F' hw hT fr=>by
  have hw1:=qd hb hw;refine TabB.fr h2 h3 h4 hT ⟨fr.os.trans hw1.os,fr.tape.trans hw1.tape,fr.output.trans hw1.output,Nat.le_trans hw1.size fr.size,fun k hk hf=>(fr.keep k (Nat.lt_of_lt_of_le hk hw1.size) hf).trans (hw1.block k hk),fun k hk=>?_⟩
  rcases fr.foot k hk with h|h
  ·exact Or.inl h
  ·exact Or.inr (Nat.le_trans hw1.size h)
 have HI:Hid (∀w',Below (w.alloc (itO x)).heap.size (w.alloc (itO x)) w'->TabI w' F t items):=fun w' hw=>h1.up (qd hb hw)
 have HX:Hid _:=hx;clear h1 h2 h3 h4 hr hr1 hb hx
 cases hp:posI items x with
 | some j =>
  have HP:Hid (kpF items x=some (items,j)):=by
   show _=_
   unfold kpF;rw[show items.findIdx? (· = x)=some j from hp]
  rw[hp]at hlk;clear hp HFIN2;obtain⟨op,p,xa,xb⟩:=x;unfold itV at hlk;unfold itO at c1 c2 cb HFIN hlk;dsimp only[Option.getD,Option.isSome]at c1 c2 cb HFIN hlk
  unfold itV;dsimp only
  go_enter Tryz.func108,Tryz.ntmps108
  go_upto_region 15 with fail
  go_quiet (fail)
  go_wp2;go_ret2
  exact Or.inl ⟨_,HP.out,rfl,HFIN.out _ (below_drewN (Below.refl _ _) _)⟩
 | none =>
  rw[hp]at hlk;by_cases hl:items.length=4096
  ·have HP:Hid (kpF items x=none):=by
    show _=_
    unfold kpF;rw[show items.findIdx? (· = x)=none from hp];simp only
    rw[if_pos hl]
   have hl':((items.length:Int) == 4096)=true:=by rw[beq_iff_eq];omega
   clear hp hl;obtain⟨op,p,xa,xb⟩:=x;unfold itV at hlk;unfold itO at c1 c2 cb HFIN hlk;dsimp only[Option.getD,Option.isSome]at c1 c2 cb HFIN hlk
   unfold itV;dsimp only
   go_enter Tryz.func108,Tryz.ntmps108
   go_upto_region 15 with fail
   go_quiet (fail)
   go_wp2;go_ret2
   exact Or.inr ⟨HP.out,rfl,HFIN.out _ (below_drewN (Below.refl _ _) _)⟩
  ·have HP:Hid (kpF items x=some (items++[x],items.length)):=by
    show _=_
    unfold kpF;rw[show items.findIdx? (· = x)=none from hp];simp only
    rw[if_neg hl]
   have hadd:∀w',Below (w.alloc (itO x)).heap.size (w.alloc (itO x)) w'->_:=fun w' hw=>qaI (HI.out w' hw) x HX.out (q1R.1 hp) (by have:=(HI.out w' hw).few;omega)
   have hl':((items.length:Int) == 4096)=false:=by rw[bqn];omega
   clear hp hl HFIN;obtain⟨op,p,xa,xb⟩:=x;unfold itV at hlk hadd;unfold itO at c1 c2 cb HFIN2 hlk hadd;dsimp only[Option.getD,Option.isSome]at c1 c2 cb HFIN2 hlk hadd
   unfold itV;dsimp only
   go_enter Tryz.func108,Tryz.ntmps108
   go_upto_region 15 with fail
   go_quiet (fail)
   have hw1:=below_drewN (Below.refl (w.alloc (.cells #[.int .u8 (op:Int),.int .u8 (p:Int),.int .i64 xa,.int .i64 xb] 140)).heap.size (w.alloc (.cells #[.int .u8 (op:Int),.int .u8 (p:Int),.int .i64 xa,.int .i64 xb] 140))) nq;have hadd1:=hadd _ hw1;clear hadd
   go_wp2_with fail
   refine hadd1.mono ?_
   rintro e w2 ⟨rfl,F2,hT2,fr2⟩
   have HG:Hid _:=HFIN2.out _ _ _ hw1 hT2 fr2;clear hadd1 hT2 fr2 hw1;go_wp2;go_ret2
   exact Or.inl ⟨_,HP.out,rfl,HG.out⟩
def encM (ns:List Nat):List Value:=ns.map fun n:Nat=>Value.int .i64 (n:Int)
theorem qec(ks:List Nat)(m:Nat):(encM ks).take (m*1)=encM (ks.take m):=by simp[encM,List.map_take]
theorem q3p:(Tryz.prog.info? 3).map (·.size)=some 1:=by kernel_rfl
theorem q57:(Tryz.prog.info? 3).map (fun i=>(i.zero,i.size,i.bytes))=some (some (.int .i64 0),1,8):=by kernel_rfl
theorem q8b{w:World}{base L m:Nat}{v:Value}{ns:List Nat}(h:w.ownsRow base 3 1 v L (encM ns))(hm:m<=L):
  ∃a cap b,v=.slice a L cap/\(∀w',(Instr.sliceAt 27 (.slice a L cap) none (some (.int .i64 (m:Int))) none).run Tryz.prog w'=.ok (.slice a m cap) w')/\w.ownsRow base 3 1 (.slice a m cap) m (encM (ns.take m))/\(∀w',(Instr.sliceAt 27 (.slice a L cap) (some (.int .i64 (m:Int))) none none).run Tryz.prog w'=.ok (.slice b (L - m) (cap - m)) w')/\NsSl w b (L - m) (cap - m) (ns.drop m)/\(Value.slice a m cap).ownBlock=v.ownBlock:=by
 have hlen:ns.length=L:=by have:=h.1;simpa [encM] using this
 obtain⟨a,cap,rfl,h1,h2,h3,h4,h0⟩:=q4C h hm;rw[qec]at h4;obtain⟨b,h5,h6,h7⟩:=cut_n (P:=Tryz.prog) (T:=27) Tryz.underlying27 q3p a L cap m hm h1 h3;refine⟨a,cap,b,rfl,pre_n Tryz.underlying27 q3p a L cap m hm h1 h3,h4,h5,?_,h0⟩
 have had:∀k,k<L - m->∃g cur,a=some ⟨g,0,none⟩/\w.heap[g]? = some (.cells cur 3 (0,0))/\cur.toList.take (L*1)=encM ns/\adOf b k=⟨g,m+k,none⟩:=fun k hk=>by
  rcases h.2 with⟨e,e0⟩|⟨g,cap',cur,e,_,hcell,_,_,_,htk⟩
  ·omega
  ·injection e with e1 _ _
   subst e1;refine⟨g,cur,rfl,hcell,htk,?_⟩
   rw[h7 (by omega) _ rfl]
   simp[adOf,qg]
 refine⟨by simp[hlen],by omega,by omega,fun n k w' hk hn=>?_,fun k hk=>?_,fun k hk=>?_,h6⟩
 ·exact qX Tryz.underlying27 q3p (fun e=>by have:=h6 e;omega) k w' hk
 ·obtain⟨g,cur,_,hcell,htk,e⟩:=had k hk
  rw[e,qb hcell];have:cur.toList[m+k]? = (encM ns)[m+k]? := by rw[<- htk,List.getElem?_take,if_pos (by omega)]
  rw[<- Array.getElem?_toList,this];have hmk:m+k<ns.length:=by omega
  simp[encM,List.getD_eq_getElem?_getD,hmk]
 ·obtain⟨g,cur,_,hcell,_,e⟩:=had k hk
  rw[e];exact(aes hcell).1
structure NumSt (S:World->(Nat->Prop)->List It->Prop) (fd:Fnd) (w wr:World) (G G1:Nat->Prop) (items items1:List It) (a:Option Addr) (len cap:Nat) (ts:List Tk) (v:Value) (st:List Nat) (k:Nat):Prop where
 s:S wr G1 items1
 fr:Fr w wr G G1
 tk:TkSl wr a len cap ts
 ap:0<len->∀x,a=some x->¬ G1 x.block
 row:wr.ownsRow w.heap.size 3 1 v st.length (encM st)
 off:∀k,v.ownBlock=some k->¬ G1 k
 ns:nS fd (ts.take k) (items,[])=some (items1,st)
 lt:∀j∈st,j<items1.length
 pre:∃l,items1=items++l
 few:st.length<=k
def EntersT (F:FuncId):Prop:=∀args w,(callFunc F args).run Tryz.prog w=.ok (.enter F args) w
theorem qgv{op p:Nat}{ns:List Nat}{N:Nat}(h1:op<256)(h2:p<256)(hN:N<=4096)(h:∀j∈ns,j<N):ItOk (itemOf (op,p) ns):=by
 match ns,h with
 | [],_=>exact⟨h1,h2,by show (-1:Int)<=-1;omega,by show (-1:Int)<100000000;omega,by show (-1:Int)<=-1;omega,by show (-1:Int)<100000000;omega⟩
 | [x],h =>
  have:=h x (by simp)
  exact⟨h1,h2,by show (-1:Int)<=(x:Int);omega,by show (x:Int)<100000000;omega,by show (-1:Int)<=-1;omega,by show (-1:Int)<100000000;omega⟩
 | x::y::_,h =>
  have:=h x (by simp)
  have:=h y (by simp)
  exact⟨h1,h2,by show (-1:Int)<=(x:Int);omega,by show (x:Int)<100000000;omega,by show (-1:Int)<=(y:Int);omega,by show (y:Int)<100000000;omega⟩
theorem Fr.trans'{w w1 w2:World}{F F1 F2:Nat->Prop}(h:Fr w w1 F F1)(k:Fr w1 w2 F1 F2):Fr w w2 F F2 :=
 ⟨k.os.trans h.os,k.tape.trans h.tape,k.output.trans h.output,Nat.le_trans h.size k.size,fun j hj hf=>(k.keep j (Nat.lt_of_lt_of_le hj h.size) (fun h1=>by
  rcases h.foot j h1 with e|e
  ·exact hf e
  ·omega)).trans (h.keep j hj hf),fun j hj=>by
  rcases k.foot j hj with e|e
  ·exact h.foot j e
  ·exact Or.inr (Nat.le_trans h.size e)⟩
theorem FindC.uni{S:World->(Nat->Prop)->List It->Prop}{fd:Fnd}{fid bx:Nat}(h:FindC S fd fid bx)(w:World)(G:Nat->Prop)(items:List It)(x:It)(hx:ItOk x)(hS:S w G items):Calls Tryz.prog fid #[itV x,.pointer (some ⟨bx,0,none⟩)] w fun e w' =>
  ∃(j:Nat) (f:Bool),e=.returned (.tuple #[.int .i64 (j:Int),.bool f])/\((f=true/\∃items',fd items x=some (items',j)/\∃G',S w' G' items'/\Fr w w' G G')\/(f=false/\fd items x=none/\∃G',S w' G' items/\Fr w w' G G')) :=
 (h w G items x hx hS).mono fun e w' hq=>by
  rcases hq with⟨⟨r,j⟩,h1,h2,h3⟩|⟨h1,h2,h3⟩
  ·exact⟨j,true,h2,Or.inl ⟨rfl,r,h1,h3⟩⟩
  ·exact⟨0,false,h2,Or.inr ⟨rfl,h1,h3⟩⟩
theorem q6R(S:World->(Nat->Prop)->List It->Prop)(fd:Fnd)(fid bx:Nat)(hE:EntersT fid)(hFd:FindC S fd fid bx)(hP:FdOk fd)
  (hlt:∀{w G items},S w G items->(∀k,G k->k<w.heap.size)/\items.length<=4096) (hfar:∀{w w' G items},S w G items->(∀k,G k->w'.heap[k]? = w.heap[k]?)->S w' G items)
  (w:World) (G:Nat->Prop) (items:List It) (a:Option Addr) (len cap:Nat) (ts:List Tk) (T:Tr) (hS:S w G items) (hT:TkSl w a len cap ts) (hA:0<len->∀x,a=some x->¬ G x.block)
  (hl:0<len) (hg:GGood ts T) (hf:fewL false ts=true):
  Calls Tryz.prog 107 #[.slice a len cap,.func (.func fid) #[] #[.pointer (some ⟨bx,0,none⟩)]] w fun e w'=>∃G' items',S w' G' items'/\Fr w w' G G'/\(∃l,items'=items++l)/\(∃k st,nS fd (ts.take k) (items,[])=some (items',st)) /\
   ((∃j st,nS fd ts (items,[])=some (items',st++[j])/\e=.returned (.tuple #[.int .i64 (j:Int),.bool true]))\/(nS fd ts (items,[])=none/\e=.returned (.tuple #[.int .i64 0,.bool false]))):=by
 have HS0:Hid (NumSt S fd w w G G items items a len cap ts (.slice none 0 0) [] 0):=⟨hS,Fr.same (Below.refl _ _),hT,hA,⟨rfl,Or.inl ⟨rfl,rfl⟩⟩,fun k hk=>(by cases hk),rfl,fun j hj=>(by simp at hj),⟨[],by simp⟩,Nat.le_refl _⟩
 have HLEN:Hid (ts.length=len):=hT.hlen;have HT0:Hid _:=hT;have HA0:Hid _:=hA;have HG:Hid _:=hg;have hl2:len<=2048:=by have:=hg.few;have:=hT.hlen;omega
 have HF:Hid _:=hf;have HFD:Hid _:=hFd;have HLT:Hid (∀{w G items},S w G items->(∀k,G k->k<w.heap.size)/\items.length<=4096):=hlt;have HFAR:Hid (∀{w w' G items},S w G items->(∀k,G k->w'.heap[k]? = w.heap[k]?)->S w' G items):=hfar;have HP:Hid _:=hP;unfold EntersT at hE;clear hS hT hA hg hf hFd hlt hfar hP;go_enter Tryz.func107,Tryz.ntmps107
 go_wp2
 go_loopw [4,5,6,12] (fun i b v c wr=>∃k:Nat,k<=len/\c=.int .i64 k/\∃(j:Nat) (f:Bool),i=.int .i64 (j:Int)/\b=.bool f/\∃G1 items1 st,Hid (NumSt S fd w wr G G1 items items1 a len cap ts v st k)/\Hid (0<k->f=true/\∃st',st=st'++[j])) (fun _ _ _ c _=>len - (intOf c).toNat)
 case atStart=>exact⟨0,Nat.zero_le _,rfl,0,false,rfl,rfl,G,items,[],HS0,fun h=>absurd h (by omega)⟩
 case round =>
  obtain⟨k,hk,rfl,j,f,rfl,rfl,G1,items1,st,HN,HJ⟩:=hrel;clear HS0;have hfw:=HN.out.few;by_cases hlt:k<len
  ·have hxl:k<ts.length:=by have:=HLEN.out;omega
   obtain⟨g1,o1,s1,hi1,hx0,hx1,hg1,_⟩:=HN.out.tk.at Tryz.underlying22 q1G k hlt;have hidx:=fun w'=>hi1 len w' hlt
   clear hi1;have HNX:Hid (nS fd (ts.take (k+1)) (items,[])=nStep fd (items1,st) ts[k]):=qgJ fd hxl HN.out.ns;have HOFF:Hid (nStep fd (items1,st) ts[k]=none->nS fd ts (items,[])=none):=fun h=>qhx fd (k:=k+1) (HNX.out.trans h)
   have hdep:takC ts[k]<=st.length:=by
    have:=(HG.out.ok k hxl).2
    rw[<- qeq fd (ts.take k) (items,[]) (items1,st) [] rfl HN.out.ns]at this;exact this
   obtain⟨b,hfa⟩:=qef hxl HF.out;have hok:=HN.out.tk.ok ts[k] (List.getElem_mem hxl);generalize ts[k]=q at *;obtain⟨op,p⟩:=q;dsimp only at hx0 hx1 HNX hfa hok
   obtain⟨htn,h23,n3,n9,n10,n13,n14,_⟩:=q5G hfa;have hc:=q1S htn;clear hfa htn;have hTk:=fun w'=>q7Z op w' h23 n3 n9 n10
   rw[<- hc]at hTk;have hn2:takC (op,p)<=2:=by rw[hc];exact q63 op
   have HSTEP:Hid (nStep fd (items1,st) (op,p)=(fd items1 (itemOf (op,p) (st.drop (st.length - takC (op,p))))).map fun r=>(r.1,st.take (st.length - takC (op,p))++[r.2])):=rfl
   clear hc;generalize takC (op,p)=n at *;obtain⟨M,hM⟩:∃M,M=st.length - n:=⟨_,rfl⟩
   rw[<- hM]at HSTEP;obtain⟨av,cv,bv,rfl,hpre,hown,hcut,hns,hob⟩:=q8b HN.out.row (m:=M) (by omega)
   rw[show st.length - M=n by omega]at hcut hns
   have HO:Hid _:=hown;have HOB:Hid _:=hob;have HIX:Hid (ItOk (itemOf (op,p) (st.drop M))):=qgv hok.1 hok.2 (HLT.out HN.out.s).2 (fun j hj=>HN.out.lt j (List.mem_of_mem_drop hj))
   have hb1:=qc wr (.cells #[.int .u8 (op:Int),.int .u8 (p:Int)] 43);have hwr:IntKind.i64.wrap ((st.length:Int) - (n:Int))=(M:Int):=by rw[IntKind.wrap_i64];omega
   have hML:M<=st.length:=by omega
   have HIT:Hid (∀w',Below wr.heap.size wr w'->Calls Tryz.prog 131 #[.agg #[.int .u8 (op:Int),.int .u8 (p:Int)],.slice bv n (cv - M)] w' fun e w''=>e=.returned (itV (itemOf (op,p) (st.drop M)))/\Below w'.heap.size w' w''):=fun w' hb=>q6Q op p bv n (cv - M) (st.drop M) w' (hns.up hb) hn2
   have HFI:Hid (∀w',Below wr.heap.size wr w'->S w' G1 items1):=fun w' hb=>HFAR.out HN.out.s fun k hk=>hb.block k ((HLT.out HN.out.s).1 k hk)
   clear hns hown hob hM
   go_wp2_with (go_at_call 130;refine (hTk _).mono ?_;rintro e w' ⟨rfl,rfl⟩)
   have ct0:(wr.alloc (.cells #[.int .u8 (op:Int),.int .u8 (p:Int)] 43)).cell? ⟨wr.heap.size,0,none⟩=some (.int .u8 (op:Int)):=qb (MapKept.heap_alloc wr _).1 0;have ct1:(wr.alloc (.cells #[.int .u8 (op:Int),.int .u8 (p:Int)] 43)).cell? ⟨wr.heap.size,1,none⟩=some (.int .u8 (p:Int)):=qb (MapKept.heap_alloc wr _).1 1;have hitem:=HIT.out (wr.alloc (.cells #[.int .u8 (op:Int),.int .u8 (p:Int)] 43)).drew hb1.drew;have HB1:Hid _:=hb1.drew;have hz1:(wr.alloc (.cells #[.int .u8 (op:Int),.int .u8 (p:Int)] 43)).heap.size=wr.heap.size+1:=by simp
   clear hb1;generalize st.drop M=dk at *;generalize itemOf (op,p) dk=x at *
   go_region_with (first
    | (go_at_call 131;(with_reducible refine hitem.mono ?_);rintro e w2 ⟨rfl,hb2⟩;have hfind:=FindC.uni HFD.out w2 G1 items1 x HIX.out (HFI.out w2 (qd HB1.out hb2)))
    | ((with_reducible refine hfind.mono ?_);rintro e w3 ⟨j3,f3,rfl,hw3⟩)
    | fail)
   all_goals
    have HB2:Hid (Below wr.heap.size wr w2):=qd HB1.out hb2;clear hitem hfind hb2 HB1 ct0 ct1 HIT HFI hE hcut hpre hidx hx0 hx1 hTk;rcases hw3 with⟨rfl,items2,hfd,G2,hS2,fr2⟩|⟨rfl,hfd,G2,hS2,fr2⟩
    ·have HSTEP2:Hid (nS fd (ts.take (k+1)) (items,[])=some (items2,st.take M++[j3])):=by
      show _=_
      rw[HNX.out,HSTEP.out,hfd];rfl
     have hoff1:∀q,(Value.slice av M cv).ownBlock=some q->¬ G1 q:=fun q hq=>HN.out.off q (HOB.out ▸ hq)
     have HO3:Hid (w3.ownsRow w.heap.size 3 1 (.slice av M cv) M (encM (st.take M))):=fr2.own (q1a HO.out HB2.out) hoff1;have hlt1:=qC HO.out;have HOFF3:Hid (∀q,(Value.slice av M cv).ownBlock=some q->¬ G2 q):=fun q hq=>fr2.out (hoff1 q hq) (Nat.lt_of_lt_of_le (hlt1 q hq) HB2.out.size)
     have HFR:Hid (Fr w w3 G G2):=HN.out.fr.trans' ((Fr.same HB2.out).trans' fr2);have HTK:Hid (TkSl w3 a len cap ts):=fr2.tks (HN.out.tk.up HB2.out) HN.out.ap
     have HAP:Hid (0<len->∀x,a=some x->¬ G2 x.block):=fun h x hx=>by
      subst hx;have:=(HN.out.tk.up HB2.out).lt h
      exact fr2.out (HN.out.ap h x rfl) this
     have HS3:Hid _:=hS2;obtain⟨l2,hl2'⟩:=HP.out.pre hfd;have hj3:j3<items2.length:=HP.out.lt hfd
     have HPRE:Hid (∃l,items2=items++l):=by
      obtain⟨l,hl⟩:=HN.out.pre;exact⟨l++l2,by rw[show items2=items1++l2 from hl2',hl,List.append_assoc]⟩
     have HLL:Hid (∀j∈st.take M++[j3],j<items2.length):=fun j hj=>by
      rcases List.mem_append.1 hj with hj|hj
      ·have:=HN.out.lt j (List.mem_of_mem_take hj)
       rw[show items2=items1++l2 from hl2',List.length_append];omega
      ·simp at hj;omega
     have HTL:Hid ((st.take M).length=M):=by show _=_;simp;omega
     have hz3:=fr2.size;have hwz:=HN.out.fr.size;have hw2z:=HB2.out.size;clear hfd hS2 fr2 hoff1 hlt1 HNX HSTEP HOFF HN HJ HO HOB hl2' HIX HB2;generalize st.take M=tk at *;have hc4:(w3.alloc (.cells #[.int .i64 (j3:Int)] 3)).cell? ⟨w3.heap.size,0,none⟩=some (.int .i64 (j3:Int)):=qb (MapKept.heap_alloc w3 _).1 0;have HO4:Hid ((w3.alloc (.cells #[.int .i64 (j3:Int)] 3)).ownsRow w.heap.size 3 1 (.slice av M cv) M (encM tk)):=World.ownsRow.alloc HO3.out _;have hz4:w.heap.size<=(w3.alloc (.cells #[.int .i64 (j3:Int)] 3)).heap.size:=by simp;omega
     go_wp2_with (at_builtin;refine qe4 Tryz.underlying27 q57 rfl (by decide) rfl _ _ rfl w.heap.size _ M (encM tk) (.int .i64 (j3:Int)) w3.heap.size rfl rfl HO4.out hc4 rfl (by omega) hz4 ?_)
     intro v4 w4 hown4 hgr4 hloc4;have hbn:=qc w3 (.cells #[.int .i64 (j3:Int)] 3);have hge:=q1Q HO3.out;have hG2:=(HLT.out HS3.out).1;have hs4:=hgr4.size;have hsn:=hbn.size;have HFR4:Hid (Fr w w4 G G2):=⟨hgr4.os.trans (hbn.os.trans HFR.out.os),hgr4.tape.trans (hbn.tape.trans HFR.out.tape),hgr4.output.trans (hbn.output.trans HFR.out.output),by omega,fun q hq hg=>(hgr4.block q (by omega) (fun e=>by have:=hge q e.symm;omega)).trans ((hbn.block q (by omega)).trans (HFR.out.keep q hq hg)),HFR.out.foot⟩
     have HNEW:Hid (NumSt S fd w w4 G G2 items items2 a len cap ts v4 (tk++[j3]) (k+1)):=by
      refine⟨HFAR.out HS3.out fun q hq=>(hgr4.block q (by have:=hG2 q hq;omega) (fun e=>HOFF3.out q e.symm hq)).trans (hbn.block q (hG2 q hq)),HFR4.out,HFR4.out.tks HT0.out HA0.out,HAP.out,?_,fun q hq hg=>?_,HSTEP2.out,HLL.out,HPRE.out,?_⟩
      ·rw[List.length_append,HTL.out]
       unfold encM at hown4 ⊢;rw[List.map_append];exact hown4
      ·rcases hloc4 with e|e
       ·exact HOFF3.out q (e ▸ hq) hg
       ·rw[e]at hq;injection hq with hq;have:=hG2 q hg;omega
      ·rw[List.length_append,HTL.out];simp;omega
     clear hown4 hgr4 hloc4 hc4 HO4 HO3 hbn hge hG2;go_wp2
     go_roundw
     case rel=>exact⟨k+1,by omega,by go_num,j3,true,rfl,rfl,G2,items2,tk++[j3],HNEW,fun _=>⟨rfl,tk,rfl⟩⟩
     case measure=>simp[intOf] <;> omega
    ·have HNO:Hid (nS fd ts (items,[])=none):=HOFF.out (by rw[HSTEP.out,hfd];rfl)
     have HFR:Hid (Fr w w3 G G2):=HN.out.fr.trans' ((Fr.same HB2.out).trans' fr2);have HS3:Hid _:=hS2;have HPRE:Hid _:=HN.out.pre;have HSO:Hid _:=HN.out.ns;clear hfd hS2 fr2 HNX HSTEP HOFF HN HJ HO HOB HIX HB2;go_wp2;go_ret2
     exact⟨G2,items1,HS3.out,HFR.out,HPRE.out,⟨_,_,HSO.out⟩,Or.inr ⟨HNO.out,rfl⟩⟩
  ·obtain rfl:k=len:=by omega
   obtain⟨rfl,st',rfl⟩:=HJ.out hl
   have HYES:Hid (nS fd ts (items,[])=some (items1,st'++[j])):=by
    have:=HN.out.ns
    rw[List.take_of_length_le (by have:=HLEN.out;omega)]at this
    exact this
   have HFR:Hid _:=HN.out.fr;have HS3:Hid _:=HN.out.s;have HPRE:Hid _:=HN.out.pre;have HSO:Hid _:=HN.out.ns;clear HN HJ hfw;go_wp2;go_ret2
   exact⟨G1,items1,HS3.out,HFR.out,HPRE.out,⟨_,_,HSO.out⟩,Or.inl ⟨j,st',HYES.out,rfl⟩⟩
def TabT (w:World) (F:Nat->Prop) (t:Nat) (items:List It):Prop:=TabI w F t items/\TabIs items
theorem qfc:∀T:Tr,0<T.flat.length
 | .leaf _=>by simp[Tr.flat]
 | .un _ _=>by simp[Tr.flat]
 | .bin _ _ _=>by simp[Tr.flat];omega
structure Chkd (ts:List Tk):Prop where
 pos:0<ts.length
 few:fewL false ts=true
 good:∃T,GGood ts T
theorem chkd{ts:List Tk}(h:chkE ts=0):Chkd ts:=by
 obtain⟨hl,hk⟩:=q30.1 h;have hf:=((q44 ts).1 hk).1;obtain⟨T,hW,_,_,rfl⟩:=hk;exact⟨qfc T,hf,T,ggood hW hl⟩
theorem qfV{w w':World}{F:Nat->Prop}{t:Nat}{items:List It}(h:TabI w F t items)(hb:Below (w.alloc (.cells #[tbV t] 135)).heap.size (w.alloc (.cells #[tbV t] 135)) w'):TabB t w.heap.size w' (fun k=>F k\/k=w.heap.size) items:=by
 have hb1:=qc w (.cells #[tbV t] 135);refine⟨F,h.up (qd hb1 hb),(hb.block _ (by simp)).trans (MapKept.heap_alloc w _).1,fun hf=>?_,fun k=>Iff.rfl⟩
 have:=h.lt _ hf
 omega
theorem qce{w w1 w2:World}{F G':Nat->Prop}{t:Nat}{items:List It}(hb:Below w.heap.size w w1)(hB:TabB t w.heap.size w2 G' items)(fr:Fr w1 w2 (fun k=>F k\/k=w.heap.size) G'):∃F',TabI w2 F' t items/\Fr w w2 F F':=by
 obtain⟨F',h1,_,_,h4⟩:=hB;refine⟨F',h1,fr.os.trans hb.os,fr.tape.trans hb.tape,fr.output.trans hb.output,Nat.le_trans hb.size fr.size,fun k hk hf=>(fr.keep k (Nat.lt_of_lt_of_le hk hb.size) (fun h=>?_)).trans (hb.block k hk),fun k hk=>?_⟩
 ·rcases h with h|h
  ·exact hf h
  ·omega
 ·rcases fr.foot k ((h4 k).2 (Or.inl hk)) with (h|h)|h
  ·exact Or.inl h
  ·exact Or.inr (by omega)
  ·exact Or.inr (Nat.le_trans hb.size h)
theorem q8y:EntersT 108:=fun _ _=>rfl
theorem qfm{items items':List It}{ts:List Tk}{st:List Nat}{j:Nat}(hl:items.length<=4096)(hc:chkE ts=0)(h:nS kpF ts (items,[])=some (items',st++[j])):keepE items ts=0/\keepI items ts=items'/\keepN items ts=j:=by
 rw[q9n ts (items,[]) hl]at h;by_cases c:(tkS ts (items,[])).1.length<=4096
 ·rw[if_pos c]at h
  injection h with h;have e1:kI items ts=items':=by unfold kI;rw[h]
  have e2:kN items ts=j:=by unfold kN;rw[h];simp
  have e0:keepE items ts=0:=by
   unfold keepE;rw[if_neg (by omega),if_neg (by unfold kI;omega)]
  exact⟨e0,by unfold keepI;rw[if_pos e0,e1],by unfold keepN;rw[if_pos e0,e2]⟩
 ·rw[if_neg c]at h;cases h
theorem qgw{items:List It}{ts:List Tk}(hl:items.length<=4096)(hc:chkE ts=0)(h:nS kpF ts (items,[])=none):keepE items ts=3/\keepI items ts=items/\keepN items ts=0:=by
 rw[q9n ts (items,[]) hl]at h;by_cases c:(tkS ts (items,[])).1.length<=4096
 ·rw[if_pos c]at h;cases h
 ·have e0:keepE items ts=3:=by
   unfold keepE;rw[if_neg (by omega),if_pos (by unfold kI;omega)]
  exact⟨e0,by unfold keepI;rw[if_neg (by omega)],by unfold keepN;rw[if_neg (by omega)]⟩
theorem qbR{items:List It}{ts:List Tk}(hc:chkE ts≠0):keepE items ts=chkE ts/\keepI items ts=items/\keepN items ts=0:=by
 have e0:keepE items ts=chkE ts:=by unfold keepE;rw[if_pos hc]
 exact⟨e0,by unfold keepI;rw[if_neg (by omega)],by unfold keepN;rw[if_neg (by omega)]⟩
theorem Fr.self{w w':World}{F:Nat->Prop}{t:Nat}{items:List It}(h:TabT w F t items)(hb:Below w.heap.size w w'):∃F',TabT w' F' t items/\Fr w w' F F':=⟨F,⟨h.1.up hb,h.2⟩,Fr.same hb⟩
theorem q4u{w:World}{F:Nat->Prop}{t:Nat}{items:List It}(a:Option Addr)(len cap:Nat)(ts:List Tk)(h:TabT w F t items)(hT:TkSl w a len cap ts)(hA:0<len->∀x,a=some x->¬ F x.block):
  Calls Tryz.prog 72 #[.pointer (some ⟨t,0,none⟩),.slice a len cap] w fun e w'=>e=.returned (.tuple #[.int .i64 (keepN items ts:Int),.int .i64 (keepE items ts:Int)])/\∃F',TabT w' F' t (keepI items ts)/\Fr w w' F F':=by
 have hb1:=qc w (.cells #[tbV t] 135);obtain⟨aa,ca,mb,hr,_⟩:=(h.1.up hb1).read;have hm:=q3m hr;have HI:Hid _:=h;have hck:=q7n a len cap ts (w.alloc (.cells #[tbV t] 135)) (hT.up hb1);have cb:∀w',Below (w.alloc (.cells #[tbV t] 135)).heap.size (w.alloc (.cells #[tbV t] 135)) w'->w'.cell? ⟨w.heap.size,0,none⟩=some (.pointer (some ⟨t,0,none⟩)):=fun w' hb=>qp (qb (MapKept.heap_alloc w _).1 0) hb
 have cb0:=cb _ (Below.refl _ _);by_cases hc:chkE ts=0
 ·have HC:Hid _:=hc
  have hck':=chkd hc;have HCK:Hid _:=hck';rw[hc]at hck;have HT:Hid _:=hT;have HA:Hid _:=hA;have HCB:Hid _:=cb;clear hT hA h hr cb hc hck' hb1;unfold tbV at hm hck cb0 HCB;go_enter Tryz.func72,Tryz.ntmps72
  go_wp2_with fail
  refine hm.mono ?_
  rintro e w1 ⟨rfl,hw1⟩
  obtain rfl:=hw1.symm
  go_wp2_with fail
  refine hck.mono ?_
  rintro e w2 ⟨rfl,hb2⟩
  have HB2:Hid (Below w.heap.size w w2):=qd (qc w _) hb2;have cb2:=HCB.out w2 hb2;obtain⟨a2,k2,m2,hr2,_⟩:=(HI.out.1.up HB2.out).read;have c1:=hr2.c1;obtain⟨T,hgood⟩:=HCK.out.good
  have hnum:=q6R (TabB t w.heap.size) kpF 108 w.heap.size q8y (q7Y t w.heap.size) qhs TabB.lt TabB.far w2 (fun k=>F k\/k=w.heap.size) items a len cap ts T (qfV HI.out.1 hb2) (HT.out.up HB2.out) (fun hp x hx hg=>by
   rcases hg with hg|hg
   ·exact HA.out hp x hx hg
   ·subst hx;have:=HT.out.lt hp;omega) (by have:=HCK.out.pos;have:=HT.out.hlen;omega) hgood HCK.out.few
  clear hm hck hr2 hb2 cb0 HCB hgood
  go_wp2_with fail
  refine hnum.mono ?_
  rintro e w3 ⟨G3,items3,hB3,fr3,⟨l3,hl3⟩,⟨q3,st3,hq3⟩,(⟨j,st,hns,rfl⟩|⟨hns,rfl⟩)⟩
  ·obtain⟨k1,k2,k3⟩:=qfm HI.out.1.few HC.out hns
   have HK:Hid _:=And.intro k1 (And.intro k2 k3);obtain⟨F3,hI3,hf3⟩:=qce HB2.out hB3 fr3;have HF:Hid _:=And.intro hI3 hf3;have HIS:Hid (TabIs (keepI items ts)):=(kept HI.out.2 k1).is;clear hnum hB3 fr3 hl3 hq3 hns k1 k2 k3 hI3 hf3 c1 cb2;go_wp2;go_ret2
   rw[HK.out.1,HK.out.2.2];exact⟨rfl,F3,⟨by rw[HK.out.2.1];exact HF.out.1,HIS.out⟩,HF.out.2⟩
  ·have HK:Hid _:=qgw HI.out.1.few HC.out hns
   obtain⟨F3,hI3,hf3⟩:=qce HB2.out hB3 fr3;have HF:Hid _:=hf3
   have cb3:w3.cell? ⟨w.heap.size,0,none⟩=some (.pointer (some ⟨t,0,none⟩)):=by
    obtain⟨F',_,h2,_⟩:=hB3;exact qb h2 0
   have hcut:=qaK hI3 items.length (by rw[hl3];simp)
   rw[show items3.take items.length=items by rw[hl3];simp]at hcut
   clear hnum hB3 fr3 hl3 hq3 hns hI3 hf3 c1 cb2
   go_wp2_with fail
   refine hcut.mono ?_
   rintro e w4 ⟨rfl,hI4,fr4⟩
   have HI4:Hid _:=And.intro hI4 fr4;clear hcut hI4 fr4;go_wp2;go_ret2
   rw[HK.out.1,HK.out.2.2,HK.out.2.1];exact⟨rfl,F3,⟨HI4.out.1,HI.out.2⟩,HF.out.trans' HI4.out.2⟩
 ·have HK:Hid _:=qbR (items:=items) hc
  have hc':¬ (chkE ts:Int)=0:=by omega
  have hc2:((chkE ts:Int) == 0)=false:=by rw[bqn];exact hc'
  clear hT hA h hr cb hb1 hc;unfold tbV at hm hck cb0;generalize chkE ts=E at *;go_enter Tryz.func72,Tryz.ntmps72
  go_wp2_with fail
  refine hm.mono ?_
  rintro e w1 ⟨rfl,hw1⟩
  obtain rfl:=hw1.symm
  go_wp2_with fail
  refine hck.mono ?_
  rintro e w2 ⟨rfl,hb2⟩
  have HB2:Hid (Below w.heap.size w w2):=qd (qc w _) hb2;clear hm hck hb2 cb0;go_wp2;go_ret2
  rw[HK.out.1,HK.out.2.2,HK.out.2.1];exact⟨rfl,Fr.self HI.out HB2.out⟩
def encU (ws:List Nat):Array Value:=(ws.map fun (x:Nat)=>Value.int .u64 (x:Int)).toArray
def RowU (w:World) (g:Nat) (ws:List Nat):Prop:=w.heap[g]? = some (.cells (encU ws) 46 (0,0))
theorem RowU.lt{w:World}{g:Nat}{ws:List Nat}(h:RowU w g ws):g<w.heap.size:=(aes h).1
theorem RowU.up{w w':World}{g:Nat}{ws:List Nat}(h:RowU w g ws)(hb:Below w.heap.size w w'):RowU w' g ws:=(hb.block g h.lt).trans h
theorem RowU.grown{w w':World}{g:Nat}{ws:List Nat}{row:Option Nat}(h:RowU w g ws)(hb:w.grownBy w' row)(hne:row≠some g):RowU w' g ws:=(hb.block g h.lt (fun e=>hne e.symm)).trans h
theorem RowU.cell{w:World}{g:Nat}{ws:List Nat}(h:RowU w g ws){i:Nat}(hi:i<ws.length):w.cell? ⟨g,i,none⟩=some (.int .u64 (ws.getD i 0:Nat)):=by
 unfold RowU encU at h;simp[World.cell?,h,List.getD_eq_getElem?_getD,List.getElem?_eq_getElem hi]
theorem RowU.fz{w:World}{g:Nat}{ws:List Nat}(h:RowU w g ws)(i:Nat):w.frozen? ⟨g,i,none⟩=false:=frozen_of_row w g i _ _ h
theorem RowU.set{w:World}{g:Nat}{ws:List Nat}(h:RowU w g ws)(i x:Nat):RowU (w.setCell ⟨g,i,none⟩ (.int .u64 (x:Int))) g (ws.set i x):=by
 have:=heap_setCell_same w g i _ _ (.int .u64 (x:Int)) h
 unfold RowU encU;rw[this];simp[encU,List.map_set]
theorem wr64(n:Int)(h:0<=n/\n<=1000000000):wrap64 n=n:=by unfold wrap64;omega
theorem q5C:(Tryz.prog.info? 46).map (·.size)=some 1:=by kernel_rfl
theorem q3V(g o n cap k:Nat)(w:World)(hk:k<n):(Instr.indexAt 26 (.slice (some ⟨g,o,none⟩) n cap) (.int .i64 (k:Int))).run Tryz.prog w=.ok (.pointer (some ⟨g,o+k,none⟩)) w:=by
 have:=qX (P:=Tryz.prog) (T:=26) (e:=46) Tryz.underlying26 q5C (a:=some ⟨g,o,none⟩) (cap:=cap) (n:=n) (by simp) k w hk
 simpa [adOf,qg] using this
theorem q4k(g W k:Nat)(ws:List Nat)(w:World)(hR:RowU w g ws)(hW:OkW W ws)(hk:k / 64<W)(hk2:k<=1000000):
  Calls Tryz.prog 92 #[.slice (some ⟨g,0,none⟩) W W,.int .i64 (k:Int)] w fun e w'=>e=.returned (.bool (hasW ws k))/\w'=w:=by
 have hc:=hR.cell (i:=k / 64) (by rw[hW.1];exact hk)
 have hi:=fun w=>q3V g 0 W W (k / 64) w hk
 simp only[Nat.zero_add]at hi
 have HB:Hid (∀m:Int,m=((k % 64:Nat):Int)->(bits .and .u64 (((ws.getD (k / 64) 0:Nat):Int) / 2 ^ m.toNat) 1 == 1)=hasW ws k):=fun m hm=>by
  subst hm;exact qh7 _ _ (hW.2 _)
 have e1:(k:Int).tdiv 64=((k / 64:Nat):Int):=by
  rw[Int.tdiv_eq_ediv_of_nonneg (by omega)];omega
 have e2:(k:Int).tmod 64=((k % 64:Nat):Int):=by
  rw[Int.tmod_eq_emod_of_nonneg (by omega)];omega
 generalize ws.getD (k / 64) 0=x at *;generalize hasW ws k=r at *;have h64:k % 64<64:=Nat.mod_lt _ (by decide)
 have h65:k / 64<=1000000:=by omega
 generalize k / 64=q at *;generalize k % 64=s at *;have w1:=wr64 (q:Int) (by omega)
 have w2:=wr64 (s:Int) (by omega)
 clear hR hW;go_enter Tryz.func92,Tryz.ntmps92
 go_wp2;go_ret
 exact⟨by rw[<- HB.out _ rfl];rfl,rfl⟩
theorem q3n(g W k:Nat)(ws:List Nat)(w:World)(hR:RowU w g ws)(hW:OkW W ws)(hk:k / 64<W)(hk2:k<=1000000):
  Calls Tryz.prog 92 #[.slice (some ⟨g,0,none⟩) W W,.int .i64 (k:Int)] w fun e w'=>e=.returned (.bool (hasW ws k))/\Below w.heap.size w w' :=
 (q4k g W k ws w hR hW hk hk2).mono fun _ _ h=>⟨h.1,h.2 ▸ Below.refl _ _⟩
theorem qbr(g W q:Nat)(w:World)(hq:q<W):(Instr.sliceAt 26 (.slice (some ⟨g,0,none⟩) W W) (some (.int .i64 (q:Int))) none none).run Tryz.prog w=.ok (.slice (some ⟨g,q,none⟩) (W - q) (W - q)) w:=by
 simp[Instr.sliceAt,Instr.slice,run_underlying Tryz.underlying26,q51 q5C,go_sem,qg,Nat.le_of_lt hq]
 omega
theorem q3o(g W k:Nat)(ws:List Nat)(w:World)(hR:RowU w g ws)(hW:OkW W ws)(hk:k / 64<W)(hk2:k<=1000000):
  Calls Tryz.prog 91 #[.slice (some ⟨g,0,none⟩) W W,.int .i64 (k:Int)] w fun e w'=>e=.returned (.tuple #[])/\RowU w' g (putW ws k)/\w.grownBy w' (some g):=by
 have hc:=hR.cell (i:=k / 64) (by rw[hW.1];exact hk)
 have hz:=hR.fz (k / 64);have hi:=fun w=>q3V g 0 W W (k / 64) w hk
 simp only[Nat.zero_add]at hi
 have hx:=hW.2 (k / 64)
 have HB:Hid (∀m:Nat,m=2 ^ (k % 64)->bits .or .u64 ((ws.getD (k / 64) 0:Nat):Int) (m:Int)=((ws.getD (k / 64) 0 ||| 2 ^ (k % 64):Nat):Int)):=fun m hm=>by
  subst hm;exact u64_or_nat _ _ hx (by rw[two64];exact Nat.pow_lt_pow_right (by decide) (by omega))
 have HR:Hid (RowU (w.setCell ⟨g,k / 64,none⟩ (.int .u64 ((ws.getD (k / 64) 0 ||| 2 ^ (k % 64):Nat):Int))) g (putW ws k)):=hR.set _ _
 have e1:(k:Int).tdiv 64=((k / 64:Nat):Int):=by
  rw[Int.tdiv_eq_ediv_of_nonneg (by omega)];omega
 have e2:(k:Int).tmod 64=((k % 64:Nat):Int):=by
  rw[Int.tmod_eq_emod_of_nonneg (by omega)];omega
 have h64:k % 64<64:=Nat.mod_lt _ (by decide)
 have h65:k / 64<=1000000:=by omega
 have HP:Hid (2 ^ (k % 64)<18446744073709551616):=by show _<_;rw[two64];exact Nat.pow_lt_pow_right (by decide) (by omega)
 generalize ws.getD (k / 64) 0=x at *;generalize putW ws k=r at *;generalize k / 64=q at *;generalize k % 64=s at *;have w1:=wr64 (q:Int) (by omega)
 have w2:=wr64 (s:Int) (by omega)
 clear hR hW;go_enter Tryz.func91,Tryz.ntmps91
 go_wp2
 go_region
 go_wp2
 go_end0
 have e:bits BinOp.or IntKind.u64 (x:Int) (IntKind.u64.wrap (2 ^ s))=((x ||| 2 ^ s:Nat):Int):=by
  have e3:IntKind.u64.wrap (2 ^ s)=((2 ^ s:Nat):Int):=by
   have:=HP.out
   rw[IntKind.wrap_u64,show ((2:Int) ^ s)=((2 ^ s:Nat):Int) by simp]
   generalize 2 ^ s=y at this ⊢
   omega
  rw[e3];exact HB.out _ rfl
 rw[e];exact⟨rfl,HR.out,⟨rfl,rfl,rfl,by simp,fun k hk hne=>Below.heap_setCell _ _ _ _ (fun e=>hne (congrArg some e))⟩⟩
theorem q2U(g g' W p:Nat)(ws us:List Nat)(w:World)(hR:RowU w g ws)(hR':RowU w g' us)(hW:OkW W ws)(hU:OkW W us)(hs:g=g'->ws=us)(hp:p / 64<W)(hp2:W<=1000000):
  Calls Tryz.prog 93 #[.slice (some ⟨g,0,none⟩) W W,.slice (some ⟨g',0,none⟩) W W,.int .i64 (p:Int)] w fun e w'=>e=.returned (.bool (decide (joinW ws us (p / 64)≠ws)))/\RowU w' g (joinW ws us (p / 64))/\w.grownBy w' (some g):=by
 have e1:(p:Int).tdiv 64=((p / 64:Nat):Int):=by
  rw[Int.tdiv_eq_ediv_of_nonneg (by omega)];omega
 have h1:=fun w=>qbr g W (p / 64) w (by omega)
 have h2:=fun w=>qbr g' W (p / 64) w (by omega)
 unfold joinW;rw[hW.1];generalize p / 64=q at *;have w1:=wr64 (q:Int) (by omega)
 have HR:Hid (RowU w g ws):=hR;have HR':Hid (RowU w g' us):=hR';have HW:Hid (OkW W ws):=hW;have HU:Hid (OkW W us):=hU;have HS:Hid (g=g'->ws=us):=hs;clear hR hR' hW hU hs;go_enter Tryz.func93,Tryz.ntmps93
 go_wp2
 go_loopw [7,19] (fun r i wr=>∃k:Nat,k<=W - q/\i=.int .i64 k/\(∃bb:Bool,r=.bool bb/\Hid (bb=decide (joinT ws us q (q+k)≠ws)))/\Hid (RowU wr g (joinT ws us q (q+k)))/\Hid (RowU wr g' us)/\Hid (w.grownBy wr (some g))) (fun _ i _=>W - q - (intOf i).toNat)
 case atStart=>exact⟨0,Nat.zero_le _,rfl,⟨false,rfl,by show _=_;rw[Nat.add_zero,q9K];simp⟩,by show RowU _ _ _;rw[Nat.add_zero,q9K];exact HR.out,HR'.out,⟨rfl,rfl,rfl,Nat.le_refl _,fun _ _ _=>rfl⟩⟩
 case round =>
  obtain⟨k,hk,rfl,⟨bb,rfl,HB⟩,HG,HG',HF⟩:=hrel;clear h1 h2;by_cases hlt:k<W - q
  ·have hi1:=fun w=>q3V g q (W - q) (W - q) k w hlt
   have hi2:=fun w=>q3V g' q (W - q) (W - q) k w hlt
   have hlw:q+k<ws.length:=by rw[HW.out.1];omega
   have hc1:=HG.out.cell (i:=q+k) (by rw[q2e];exact hlw)
   have hc2:=HG'.out.cell (i:=q+k) (by rw[HU.out.1];omega)
   have hz1:=HG.out.fz (q+k);have e3:(joinT ws us q (q+k)).getD (q+k) 0=ws.getD (q+k) 0:=by rw[q1C,if_neg (by omega)]
   rw[e3]at hc1;have hx:=HW.out.2 (q+k);have hy:=HU.out.2 (q+k);have HN1:Hid _:=qdF ws us q (q+k) (by omega) hlw
   have HN2:Hid (ws.getD (q+k) 0 ||| us.getD (q+k) 0=ws.getD (q+k) 0->joinT ws us q (q+k+1)=joinT ws us q (q+k)):=fun h=>qdG h (by omega) hlw
   have HNE:Hid (ws.getD (q+k) 0 ||| us.getD (q+k) 0≠ws.getD (q+k) 0->joinT ws us q (q+k+1)≠ws/\g≠g'):=fun h=>by
    refine⟨fun e=>h ?_,fun e=>h ?_⟩
    ·have:=congrArg (fun l=>l.getD (q+k) 0) e
     simp only[q1C]at this
     rwa [if_pos ⟨by omega,by omega,hlw⟩]at this
    ·rw[<- HS.out e,Nat.or_self]
   have HO:Hid _:=u64_or_nat _ _ hx hy;have HA:Hid _:=u64_andNot_nat _ _ hy hx;have HZ:Hid _:=qcM _ _ hy hx;generalize ws.getD (q+k) 0=x at *;generalize us.getD (q+k) 0=y at *;by_cases hc:x ||| y=x
   ·have hc':bits .andNot .u64 (y:Int) (x:Int)=0:=by rw[HA.out,HZ.out.2 hc];rfl
    have HN:Hid (joinT ws us q (q+(k+1))=joinT ws us q (q+k)):=HN2.out hc;clear hc HZ HA HO HN1 HN2 HNE hx hy e3 hlw;go_wp2
    go_roundw
    case rel=>exact⟨k+1,by omega,by go_num,⟨bb,rfl,by show _=_;rw[HN.out];exact HB.out⟩,by show RowU _ _ _;rw[HN.out];exact HG.out,HG'.out,HF.out⟩
    case measure=>simp[intOf];omega
   ·have hc':bits .andNot .u64 (y:Int) (x:Int)≠0:=by
     rw[HA.out];intro h;exact hc (HZ.out.1 (by omega))
    have hc2':=HO.out;obtain⟨hn1,hn2⟩:=HNE.out hc;have HN:Hid (true=decide (joinT ws us q (q+(k+1))≠ws)):=(decide_eq_true hn1).symm;have HRN:Hid _:=HG.out.set (q+k) (x ||| y);have HG2:Hid (g≠g'):=hn2;clear hn1 hn2 hc HZ HA HO HN2 HNE hx hy e3 hlw;go_wp2
    go_roundw
    case rel =>
     refine⟨k+1,by omega,by go_num,⟨true,rfl,HN⟩,?_,?_,?_⟩
     ·show RowU _ _ _
      rw[show q+(k+1)=q+k+1 by omega,HN1.out]
      exact HRN.out
     ·exact(Below.heap_setCell _ _ _ _ (fun e=>HG2.out e.symm)).trans HG'.out
     ·exact HF.out.trans ⟨rfl,rfl,rfl,by simp,fun k hk hne=>Below.heap_setCell _ _ _ _ (fun e=>hne (congrArg some e))⟩
    case measure=>simp[intOf];omega
  ·obtain rfl:k=W - q:=by omega
   have HE:Hid (q+(W - q)=W):=by show _=_;omega
   go_wp2;go_ret
   refine⟨?_,?_,HF.out⟩
   ·rw[HB.out,HE.out];rfl
   ·have:=HG.out;rw[HE.out]at this;exact this
def wordsN (P:Nat):Nat:=(P+63) / 64
structure EndAt (w:World) (g P:Nat) (rs:Nat->List Nat):Prop where
 outer:∃cur:Array Value,w.heap[g]? = some (.cells cur 26 (0,0))/\cur.size=P/\∀i,i<P->cur[i]? = some (.slice (some ⟨g+1+i,0,none⟩) (wordsN P) (wordsN P))
 rows:∀i,i<P->RowU w (g+1+i) (rs i)
 ok:∀i,i<P->OkW (wordsN P) (rs i)
theorem EndAt.cell{w:World}{g P:Nat}{rs:Nat->List Nat}(h:EndAt w g P rs){i:Nat}(hi:i<P):w.cell? ⟨g,i,none⟩=some (.slice (some ⟨g+1+i,0,none⟩) (wordsN P) (wordsN P)):=by
 obtain⟨cur,h1,_,h3⟩:=h.outer;rw[qb h1,h3 i hi]
structure Only (g:Nat) (w w':World):Prop where
 os:w'.os=w.os
 tape:w'.tape=w.tape
 output:w'.output=w.output
 size:w.heap.size<=w'.heap.size
 block:∀k,k<w.heap.size->(k<g\/∀c z,w.heap[k]? ≠ some (.cells c 46 z))->w'.heap[k]? = w.heap[k]?
theorem Only.refl(g:Nat)(w:World):Only g w w:=⟨rfl,rfl,rfl,Nat.le_refl _,fun _ _ _=>rfl⟩
theorem Only.trans{g:Nat}{a b c:World}(h:Only g a b)(k:Only g b c):Only g a c :=
 ⟨k.os.trans h.os,k.tape.trans h.tape,k.output.trans h.output,Nat.le_trans h.size k.size,fun i hi hk=>by
  have e:=h.block i hi hk;refine (k.block i (Nat.lt_of_lt_of_le hi h.size) ?_).trans e
  rcases hk with hk|hk
  ·exact Or.inl hk
  ·exact Or.inr (by rw[e];exact hk)⟩
theorem Only.of_row{g j:Nat}{w w':World}{ws:List Nat}(hr:RowU w j ws)(h:w.grownBy w' (some j))(hg:g<=j):Only g w w' :=
 ⟨h.os,h.tape,h.output,h.size,fun k hk hc=>h.block k hk fun e=>by
  injection e with e;subst e;rcases hc with hc|hc
  ·omega
  ·exact hc _ _ hr⟩
theorem Only.below{g B:Nat}{w w':World}(h:Only g w w')(hB:B<=g)(hs:B<=w.heap.size):Below B w w':=⟨h.os,h.tape,h.output,h.size,fun k hk=>h.block k (by omega) (Or.inl (by omega))⟩
theorem EndAt.keep{w w':World}{g P:Nat}{rs:Nat->List Nat}(h:EndAt w g P rs)(hk:∀k c t z,w.heap[k]? = some (.cells c t z)->(t=26\/t=46)->g<=k->k<=g+P->w'.heap[k]? = w.heap[k]?):EndAt w' g P rs:=by
 obtain⟨cur,h1,h2,h3⟩:=h.outer;exact⟨⟨cur,(hk g _ _ _ h1 (Or.inl rfl) (Nat.le_refl _) (Nat.le_add_right _ _)).trans h1,h2,h3⟩,fun i hi=>(hk _ _ _ _ (h.rows i hi) (Or.inr rfl) (by omega) (by omega)).trans (h.rows i hi),h.ok⟩
theorem EndAt.up{w w':World}{g P:Nat}{rs:Nat->List Nat}(h:EndAt w g P rs)(hb:Below w.heap.size w w'):EndAt w' g P rs :=
 h.keep fun k _ _ _ hc _ _ _=>hb.block k (aes hc).1
theorem EndAt.lt{w:World}{g P:Nat}{rs:Nat->List Nat}(h:EndAt w g P rs):g+P<w.heap.size:=by
 cases P with
 | zero=>obtain⟨cur,h1,_⟩:=h.outer;exact(aes h1).1
 | succ P=>have:=(h.rows P (Nat.lt_succ_self _)).lt;omega
theorem EndAt.turn{w w':World}{g P i:Nat}{rs:Nat->List Nat}{x:List Nat}(h:EndAt w g P rs)(hi:i<P)(hr:RowU w' (g+1+i) x)(ho:OkW (wordsN P) x)(hb:w.grownBy w' (some (g+1+i))):EndAt w' g P (upd rs i x):=by
 obtain⟨cur,h1,h2,h3⟩:=h.outer;have hlt:=h.lt;refine⟨⟨cur,(hb.block g (by omega) (fun e=>by injection e with e;omega)).trans h1,h2,h3⟩,fun j hj=>?_,fun j hj=>?_⟩
 ·by_cases e:j=i
  ·subst e;rw[q26];exact hr
  ·rw[q1T _ _ e];exact(h.rows j hj).grown hb (fun e'=>by injection e' with e';omega)
 ·by_cases e:j=i
  ·subst e;rw[q26];exact ho
  ·rw[q1T _ _ e];exact h.ok j hj
theorem made1(v:Value)(n:Nat):madeCells #[v] n=(List.replicate n v).toArray:=by
 apply Array.ext_getElem?
 intro i;by_cases h:i<n
 ·simp[madeCells,h,Nat.mod_one]
 ·simp[madeCells,h]
theorem qaZ:(Tryz.prog.info? 46).map (fun i=>(i.zero,i.size,i.bytes))=some (some (.int .u64 0),1,8):=by kernel_rfl
theorem qct:(Tryz.prog.info? 26).map (fun i=>(i.zero,i.size,i.bytes))=some (some (.slice none 0 0),1,24):=by kernel_rfl
theorem qcJ:(Tryz.prog.info? 26).map (·.size)=some 1:=by kernel_rfl
theorem qdp(l:Nat)(hb:l<=1000000)(w:World):
  (Instr.makeSlice 26 (.int .i64 (l:Int)) (.int .i64 (l:Int))).run Tryz.prog w=.ok (.slice (some ⟨w.heap.size,0,none⟩) l l) (w.alloc (.cells (encU (List.replicate l 0)) 46)):=by
 obtain⟨i,hi,hz0,hz1,hz2⟩:=info_parts qaZ;have:=run_make (P:=Tryz.prog) w 26 46 i (.int .u64 0) Tryz.underlying26 hi hz0 .i64 .i64 (l:Int) (l:Int) (by omega) (by omega) (by rw[hz2];omega) (by omega)
 rw[this,hz1];simp only[Int.toNat_natCast,Nat.mul_one]
 have e:(Value.int .u64 0).cells=#[.int .u64 0]:=rfl;rw[e,made1];simp[encU]
theorem qcD(l:Nat)(hb:l<=1000000)(w:World):
  (Instr.makeSlice 61 (.int .i64 (l:Int)) (.int .i64 (l:Int))).run Tryz.prog w=.ok (.slice (some ⟨w.heap.size,0,none⟩) l l) (w.alloc (.cells (List.replicate l (Value.slice none 0 0)).toArray 26)):=by
 obtain⟨i,hi,hz0,hz1,hz2⟩:=info_parts qct;have:=run_make (P:=Tryz.prog) w 61 26 i (.slice none 0 0) Tryz.underlying61 hi hz0 .i64 .i64 (l:Int) (l:Int) (by omega) (by omega) (by rw[hz2];omega) (by omega)
 rw[this,hz1];simp only[Int.toNat_natCast,Nat.mul_one]
 have e:(Value.slice none 0 0).cells=#[.slice none 0 0]:=rfl;rw[e,made1]
theorem qP(g n k:Nat)(w:World)(hk:k<n):(Instr.indexAt 61 (.slice (some ⟨g,0,none⟩) n n) (.int .i64 (k:Int))).run Tryz.prog w=.ok (.pointer (some ⟨g,k,none⟩)) w:=by
 have:=qX (P:=Tryz.prog) (T:=61) (e:=26) Tryz.underlying61 qcJ (a:=some ⟨g,0,none⟩) (cap:=n) (n:=n) (by simp) k w hk
 simpa [adOf,qg] using this
structure NowAt (w:World) (g P k:Nat):Prop where
 outer:∃cur:Array Value,w.heap[g]? = some (.cells cur 26 (0,0))/\cur.size=P/\∀i,i<k->cur[i]? = some (.slice (some ⟨g+1+i,0,none⟩) (wordsN P) (wordsN P))
 rows:∀i,i<k->RowU w (g+1+i) (List.replicate (wordsN P) 0)
 size:w.heap.size=g+1+k
theorem q2t(P:Nat)(w:World)(hP:P<=100000):
  Calls Tryz.prog 90 #[.int .i64 (P:Int)] w fun e w'=>e=.returned (.slice (some ⟨w.heap.size,0,none⟩) P P)/\EndAt w' w.heap.size P (fun _=>List.replicate (wordsN P) 0)/\Below w.heap.size w w':=by
 have e1:((P:Int)+63).tdiv 64=(wordsN P:Int):=by
  rw[Int.tdiv_eq_ediv_of_nonneg (by omega)];unfold wordsN;omega
 have hWb:wordsN P<=100000:=by unfold wordsN;omega
 have w2:=wr64 (wordsN P:Int) (by omega)
 have w1:wrap64 ((P:Int)+63)=(P:Int)+63:=wr64 _ (by omega)
 have hm1:=qcD P (by omega)
 have hm2:=qdp (wordsN P) (by omega)
 go_enter Tryz.func90,Tryz.ntmps90
 go_wp2;clear hm1
 go_loopw [9] (fun i wr=>∃k:Nat,k<=P/\i=.int .i64 k/\Hid (NowAt wr w.heap.size P k)/\Hid (Below w.heap.size w wr)) (fun i _=>P - (intOf i).toNat)
 case atStart =>
  refine⟨0,Nat.zero_le _,rfl,⟨⟨_,(MapKept.heap_alloc w _).1,by simp,fun i hi=>absurd hi (by omega)⟩,fun i hi=>absurd hi (by omega),by simp⟩,qc _ _⟩
 case round =>
  obtain⟨k,hk,rfl,HN,HB⟩:=hrel;by_cases hlt:k<P
  ·have hi1:=fun w'=>qP w.heap.size P k w' hlt
   obtain⟨cur,ho1,ho2,ho3⟩:=HN.out.outer;have hsz:=HN.out.size;have HO:Hid (wr.heap[w.heap.size]? = some (.cells cur 26 (0,0))):=ho1;have HO3:Hid _:=ho3;have hcm:=qb ((Below.heap_alloc wr (.cells (encU (List.replicate (wordsN P) 0)) 46) w.heap.size (by omega)).trans ho1) k
   rw[Array.getElem?_eq_getElem (by omega)]at hcm
   have hzm:=frozen_of_row _ w.heap.size k _ _ ((Below.heap_alloc wr (.cells (encU (List.replicate (wordsN P) 0)) 46) w.heap.size (by omega)).trans ho1)
   clear ho1 ho3;go_wp2
   go_roundw
   case rel =>
    have hlw:w.heap.size<wr.heap.size:=by omega
    have hne:w.heap.size≠wr.heap.size:=by omega
    refine⟨k+1,by omega,by go_num,⟨⟨cur.setIfInBounds k (.slice (some ⟨w.heap.size+1+k,0,none⟩) (wordsN P) (wordsN P)),?_,by simpa using ho2,fun i hi=>?_⟩,fun i hi=>?_,by simp;omega⟩,?_⟩
    ·exact heap_setCell_same _ _ _ _ _ _ ((Below.heap_alloc wr _ w.heap.size hlw).trans HO.out)
    ·rw[Array.getElem?_setIfInBounds]
     by_cases e:k=i
     ·subst e;rw[if_pos rfl,if_pos (by omega)]
     ·rw[if_neg e];exact HO3.out i (by omega)
    ·refine (Below.heap_setCell _ _ _ _ (fun e=>by dsimp only at e;omega)).trans ?_
     by_cases e:i=k
     ·subst e
      rw[<- hsz];exact(MapKept.heap_alloc wr _).1
     ·have:=HN.out.rows i (by omega)
      exact(Below.heap_alloc wr _ _ this.lt).trans this
    ·exact(HB.out.trans ((qc _ _).mono (by omega))).setCell (Nat.le_refl _) _
   case measure=>simp[intOf];omega
  ·obtain rfl:k=P:=by omega
   go_wp2;go_ret
   exact⟨rfl,⟨HN.out.outer,HN.out.rows,fun _ _=>OkW.zero _⟩,HB.out⟩
def ValAt (w:World) (g:Nat) (bs:List Bool):Prop:=w.heap[g]? = some (.cells (bs.map Value.bool).toArray 4 (0,0))
theorem ValAt.lt{w:World}{g:Nat}{bs:List Bool}(h:ValAt w g bs):g<w.heap.size:=(aes h).1
theorem ValAt.up{w w':World}{g:Nat}{bs:List Bool}(h:ValAt w g bs)(hb:Below w.heap.size w w'):ValAt w' g bs:=(hb.block g h.lt).trans h
theorem ValAt.cell{w:World}{g:Nat}{bs:List Bool}(h:ValAt w g bs){i:Nat}(hi:i<bs.length):w.cell? ⟨g,i,none⟩=some (.bool (bs.getD i false)):=by
 unfold ValAt at h;simp[World.cell?,h,List.getD_eq_getElem?_getD,List.getElem?_eq_getElem hi]
theorem ValAt.fz{w:World}{g:Nat}{bs:List Bool}(h:ValAt w g bs)(i:Nat):w.frozen? ⟨g,i,none⟩=false:=frozen_of_row w g i _ _ h
theorem ValAt.set{w:World}{g:Nat}{bs:List Bool}(h:ValAt w g bs)(i:Nat)(b:Bool):ValAt (w.setCell ⟨g,i,none⟩ (.bool b)) g (bs.set i b):=by
 have:=heap_setCell_same w g i _ _ (.bool b) h
 unfold ValAt;rw[this];simp[List.map_set]
theorem ql(g n k:Nat)(w:World)(hk:k<n):(Instr.indexAt 28 (.slice (some ⟨g,0,none⟩) n n) (.int .i64 (k:Int))).run Tryz.prog w=.ok (.pointer (some ⟨g,k,none⟩)) w:=by
 have:=qX (P:=Tryz.prog) (T:=28) (e:=4) Tryz.underlying28 q6h (a:=some ⟨g,0,none⟩) (cap:=n) (n:=n) (by simp) k w hk
 simpa [adOf,qg] using this
theorem qco:(Tryz.prog.info? 4).map (fun i=>(i.zero,i.size,i.bytes))=some (some (.bool false),1,1):=by kernel_rfl
theorem qA(l:Nat)(hb:l<=1000000)(w:World):
  (Instr.makeSlice 28 (.int .i64 (l:Int)) (.int .i64 (l:Int))).run Tryz.prog w=.ok (.slice (some ⟨w.heap.size,0,none⟩) l l) (w.alloc (.cells (Array.replicate l (Value.bool false)) 4)):=by
 obtain⟨i,hi,hz0,hz1,hz2⟩:=info_parts qco;have:=run_make (P:=Tryz.prog) w 28 4 i (.bool false) Tryz.underlying28 hi hz0 .i64 .i64 (l:Int) (l:Int) (by omega) (by omega) (by rw[hz2];omega) (by omega)
 rw[this,hz1];simp only[Int.toNat_natCast,Nat.mul_one]
 have e:(Value.bool false).cells=#[.bool false]:=rfl;rw[e,made1];simp
theorem ValAt.made(w:World)(l:Nat):ValAt (w.alloc (.cells (Array.replicate l (Value.bool false)) 4)) w.heap.size (List.replicate l false):=by
 unfold ValAt;rw[(MapKept.heap_alloc w _).1];simp
def stpF (bs:List Bool) (P i j:Nat):Bool:=bs.getD i false&&decide (i+1<P)&&decide (j=i+1)
def tstF (bs:List Bool) (_P i j:Nat):Bool:=bs.getD i false&&decide (j=i)
theorem q8J(gb P:Nat)(bs:List Bool)(w:World)(hP:P<=100000)(hV:ValAt w gb bs)(hl:bs.length=P):
  Calls Tryz.prog 60 #[.slice (some ⟨gb,0,none⟩) P P] w fun e w'=>e=.returned (.slice (some ⟨w.heap.size,0,none⟩) P P)/\(∃rs,EndAt w' w.heap.size P rs/\∀i,i<P->∀j,hasW (rs i) j=stpF bs P i j)/\Below w.heap.size w w':=by
 have hnow:=q2t P w hP;go_enter Tryz.func60,Tryz.ntmps60
 go_wp2_with fail
 refine hnow.mono ?_
 rintro e w1 ⟨rfl,hE1,hB1⟩
 have HE1:Hid (EndAt w1 w.heap.size P (fun _=>List.replicate (wordsN P) 0)):=hE1
 have HV1:Hid (ValAt w1 gb bs):=hV.up hB1;have HB1:Hid (Below w.heap.size w w1):=hB1;have HVL:Hid (gb<w.heap.size):=hV.lt;clear hnow hE1 hB1 hV;go_wp2
 go_loopw [11] (fun i wr=>∃k:Nat,k<=P/\i=.int .i64 k/\(∃rs,Hid (EndAt wr w.heap.size P rs)/\Hid (∀i,i<k->∀j,hasW (rs i) j=stpF bs P i j)/\Hid (∀i,k<=i->rs i=List.replicate (wordsN P) 0))/\Hid (ValAt wr gb bs)/\Hid (Below w.heap.size w wr)) (fun i _=>P - (intOf i).toNat)
 case atStart=>exact⟨0,Nat.zero_le _,rfl,⟨_,HE1,fun i hi=>absurd hi (by omega),fun _ _=>rfl⟩,HV1,HB1⟩
 case round =>
  obtain⟨k,hk,rfl,⟨rs,HE,HD,HZ⟩,HV,HB⟩:=hrel;clear HE1 HV1 HB1;by_cases hlt:k<P
  ·have hi1:=fun w'=>ql gb P k w' hlt
   have hi2:=fun w'=>qP w.heap.size P k w' hlt
   have hc1:=HV.out.cell (i:=k) (by omega)
   have hc2:=HE.out.cell hlt;have HF:Hid (∀j,stpF bs P k j=(bs.getD k false&&decide (k+1<P)&&decide (j=k+1))):=fun j=>rfl
   have HZk:Hid (rs k=List.replicate (wordsN P) 0):=HZ.out k (Nat.le_refl _);generalize bs.getD k false=q at *
   have HNO:Hid ((q&&decide (k+1<P))=false->(∀i,i<k+1->∀j,hasW (rs i) j=stpF bs P i j)):=fun hq i hi j=>by
    by_cases e:i=k
    ·subst e;rw[HZk.out,q2C,HF.out,hq];rfl
    ·exact HD.out i (by omega) j
   have HZn:Hid (∀i,k+1<=i->rs i=List.replicate (wordsN P) 0):=fun i hi=>HZ.out i (by omega)
   cases q with
   | false =>
    go_wp2
    go_roundw
    case rel=>exact⟨k+1,by omega,by go_num,⟨rs,HE,HNO.out (by simp),HZn⟩,HV,HB⟩
    case measure=>simp[intOf];omega
   | true =>
    by_cases hc:k+1<P
    ·have hck:(k:Int)+1<(P:Int):=by omega
     have hput:=q3o (w.heap.size+1+k) (wordsN P) (k+1) (rs k) wr (HE.out.rows k hlt) (HE.out.ok k hlt) (by unfold wordsN;omega) (by omega)
     have HPW:Hid (∀j,hasW (putW (rs k) (k+1)) j=decide (j=k+1)):=fun j=>by rw[q72 (HE.out.ok k hlt) (by unfold wordsN;omega),HZk.out,q2C,Bool.false_or]
     have HPO:Hid (OkW (wordsN P) (putW (rs k) (k+1))):=(HE.out.ok k hlt).put
     go_wp2_with fail
     rw[show ((k+1:Nat):Int)=(k:Int)+1 by omega]at hput
     refine hput.mono ?_
     rintro e w2 ⟨rfl,hr2,hg2⟩
     have HE2:Hid (EndAt w2 w.heap.size P (upd rs k (putW (rs k) (k+1)))):=HE.out.turn hlt hr2 HPO.out hg2;have HV2:Hid (ValAt w2 gb bs):=(hg2.block gb HV.out.lt (fun e=>by injection e with e;have:=HVL.out;omega)).trans HV.out
     have HB2:Hid (Below w.heap.size w w2):=HB.out.grown hg2 HB.out.size (fun j e=>by injection e with e;omega)
     clear hput hr2 hg2 hc1 hc2;go_wp2
     go_roundw
     case rel =>
      refine⟨k+1,by omega,by go_num,⟨_,HE2,fun i hi j=>?_,fun i hi=>?_⟩,HV2,HB2⟩
      ·by_cases e:i=k
       ·subst e;rw[q26,HPW.out,HF.out];simp[hc]
       ·rw[q1T _ _ e];exact HD.out i (by omega) j
      ·rw[q1T _ _ (by omega)];exact HZ.out i (by omega)
     case measure=>simp[intOf];omega
    ·have hck:¬ (k:Int)+1<(P:Int):=by omega
     go_wp2
     go_roundw
     case rel=>exact⟨k+1,by omega,by go_num,⟨rs,HE,HNO.out (by simp[hc]),HZn⟩,HV,HB⟩
     case measure=>simp[intOf];omega
  ·obtain rfl:k=P:=by omega
   go_wp2;go_ret
   exact⟨rfl,⟨rs,HE.out,HD.out⟩,HB.out⟩
theorem q8K(gb P:Nat)(bs:List Bool)(w:World)(hP:P<=100000)(hV:ValAt w gb bs)(hl:bs.length=P):
  Calls Tryz.prog 61 #[.slice (some ⟨gb,0,none⟩) P P] w fun e w'=>e=.returned (.slice (some ⟨w.heap.size,0,none⟩) P P)/\(∃rs,EndAt w' w.heap.size P rs/\∀i,i<P->∀j,hasW (rs i) j=tstF bs P i j)/\Below w.heap.size w w':=by
 have hnow:=q2t P w hP;go_enter Tryz.func61,Tryz.ntmps61
 go_wp2_with fail
 refine hnow.mono ?_
 rintro e w1 ⟨rfl,hE1,hB1⟩
 have HE1:Hid (EndAt w1 w.heap.size P (fun _=>List.replicate (wordsN P) 0)):=hE1
 have HV1:Hid (ValAt w1 gb bs):=hV.up hB1;have HB1:Hid (Below w.heap.size w w1):=hB1;have HVL:Hid (gb<w.heap.size):=hV.lt;clear hnow hE1 hB1 hV;go_wp2
 go_loopw [11] (fun i wr=>∃k:Nat,k<=P/\i=.int .i64 k/\(∃rs,Hid (EndAt wr w.heap.size P rs)/\Hid (∀i,i<k->∀j,hasW (rs i) j=tstF bs P i j)/\Hid (∀i,k<=i->rs i=List.replicate (wordsN P) 0))/\Hid (ValAt wr gb bs)/\Hid (Below w.heap.size w wr)) (fun i _=>P - (intOf i).toNat)
 case atStart=>exact⟨0,Nat.zero_le _,rfl,⟨_,HE1,fun i hi=>absurd hi (by omega),fun _ _=>rfl⟩,HV1,HB1⟩
 case round =>
  obtain⟨k,hk,rfl,⟨rs,HE,HD,HZ⟩,HV,HB⟩:=hrel;clear HE1 HV1 HB1;by_cases hlt:k<P
  ·have hi1:=fun w'=>ql gb P k w' hlt
   have hi2:=fun w'=>qP w.heap.size P k w' hlt
   have hc1:=HV.out.cell (i:=k) (by omega)
   have hc2:=HE.out.cell hlt;have HF:Hid (∀j,tstF bs P k j=(bs.getD k false&&decide (j=k))):=fun j=>rfl
   have HZk:Hid (rs k=List.replicate (wordsN P) 0):=HZ.out k (Nat.le_refl _);generalize bs.getD k false=q at *
   have HNO:Hid ((q)=false->(∀i,i<k+1->∀j,hasW (rs i) j=tstF bs P i j)):=fun hq i hi j=>by
    by_cases e:i=k
    ·subst e;rw[HZk.out,q2C,HF.out,hq];rfl
    ·exact HD.out i (by omega) j
   have HZn:Hid (∀i,k+1<=i->rs i=List.replicate (wordsN P) 0):=fun i hi=>HZ.out i (by omega)
   cases q with
   | false =>
    go_wp2
    go_roundw
    case rel=>exact⟨k+1,by omega,by go_num,⟨rs,HE,HNO.out (by simp),HZn⟩,HV,HB⟩
    case measure=>simp[intOf];omega
   | true =>
    have hput:=q3o (w.heap.size+1+k) (wordsN P) (k) (rs k) wr (HE.out.rows k hlt) (HE.out.ok k hlt) (by unfold wordsN;omega) (by omega)
    have HPW:Hid (∀j,hasW (putW (rs k) (k)) j=decide (j=k)):=fun j=>by rw[q72 (HE.out.ok k hlt) (by unfold wordsN;omega),HZk.out,q2C,Bool.false_or]
    have HPO:Hid (OkW (wordsN P) (putW (rs k) (k))):=(HE.out.ok k hlt).put
    go_wp2_with fail
    refine ( hput).mono ?_
    rintro e w2 ⟨rfl,hr2,hg2⟩
    have HE2:Hid (EndAt w2 w.heap.size P (upd rs k (putW (rs k) (k)))):=HE.out.turn hlt hr2 HPO.out hg2;have HV2:Hid (ValAt w2 gb bs):=(hg2.block gb HV.out.lt (fun e=>by injection e with e;have:=HVL.out;omega)).trans HV.out
    have HB2:Hid (Below w.heap.size w w2):=HB.out.grown hg2 HB.out.size (fun j e=>by injection e with e;omega)
    clear hput hr2 hg2 hc1 hc2;go_wp2
    go_roundw
    case rel =>
     refine⟨k+1,by omega,by go_num,⟨_,HE2,fun i hi j=>?_,fun i hi=>?_⟩,HV2,HB2⟩
     ·by_cases e:i=k
      ·subst e;rw[q26,HPW.out,HF.out];simp 
      ·rw[q1T _ _ e];exact HD.out i (by omega) j
     ·rw[q1T _ _ (by omega)];exact HZ.out i (by omega)
    case measure=>simp[intOf];omega
  ·obtain rfl:k=P:=by omega
   go_wp2;go_ret
   exact⟨rfl,⟨rs,HE.out,HD.out⟩,HB.out⟩
def plusTo (rs us:Nat->List Nat) (k i:Nat):List Nat:=if i<k then joinW (rs i) (us i) (i / 64) else rs i
theorem qcU(rs us:Nat->List Nat)(k:Nat):upd (plusTo rs us k) k (joinW (rs k) (us k) (k / 64))=plusTo rs us (k+1):=by
 funext j
 unfold upd plusTo;by_cases e:j=k
 ·subst e;rw[if_pos rfl,if_pos (Nat.lt_succ_self _)]
 ·rw[if_neg e]
  by_cases h:j<k
  ·rw[if_pos h,if_pos (by omega)]
  ·rw[if_neg h,if_neg (by omega)]
theorem q27{k P:Nat}(h:k<P):k / 64<wordsN P:=by unfold wordsN;omega
theorem q7i{P:Nat}(h:P<=100000):wordsN P<=1000000:=by unfold wordsN;omega
theorem EndAt.other{w w':World}{g P j:Nat}{rs:Nat->List Nat}(h:EndAt w g P rs)(hb:w.grownBy w' (some j))(hj:j<g\/g+P<j):EndAt w' g P rs :=
 h.keep fun k _ _ _ hc _ h1 h2=>hb.block k (aes hc).1 (fun e=>by injection e with e;omega)
theorem q8H(g g' P:Nat)(rs us:Nat->List Nat)(w:World)(hP:P<=100000)(hA:EndAt w g P rs)(hB:EndAt w g' P us)(hd:g+P<g'):
  Calls Tryz.prog 65 #[.slice (some ⟨g,0,none⟩) P P,.slice (some ⟨g',0,none⟩) P P] w fun e w'=>e=.returned (.slice (some ⟨g,0,none⟩) P P)/\EndAt w' g P (plusTo rs us P)/\Only (g+1) w w':=by
 have HA:Hid (EndAt w g P (plusTo rs us 0)):=by
  have e:plusTo rs us 0=rs:=by funext j;exact if_neg (by omega)
  show EndAt _ _ _ _;rw[e];exact hA
 have HB:Hid (EndAt w g' P us):=hB;clear hA hB;go_enter Tryz.func65,Tryz.ntmps65
 go_wp2
 go_loopw [8] (fun i wr=>∃k:Nat,k<=P/\i=.int .i64 k/\Hid (EndAt wr g P (plusTo rs us k))/\Hid (EndAt wr g' P us)/\Hid (Only (g+1) w wr)) (fun i _=>P - (intOf i).toNat)
 case atStart=>exact⟨0,Nat.zero_le _,rfl,HA,HB,Only.refl _ _⟩
 case round =>
  obtain⟨k,hk,rfl,HE,HU,HO⟩:=hrel;clear HA HB;by_cases hlt:k<P
  ·have hi1:=fun w'=>qP g P k w' hlt
   have hi2:=fun w'=>qP g' P k w' hlt
   have hc1:=HE.out.cell hlt;have hc2:=HU.out.cell hlt;have e0:plusTo rs us k k=rs k:=if_neg (Nat.lt_irrefl _);have hr1:=HE.out.rows k hlt;have ho1:=HE.out.ok k hlt;rw[e0]at hr1 ho1;have hjn:=q2U (g+1+k) (g'+1+k) (wordsN P) k (rs k) (us k) wr.drew hr1 (HU.out.rows k hlt) ho1 (HU.out.ok k hlt) (fun e=>by omega) (q27 hlt) (q7i hP)
   have HX:Hid (∀w2,RowU w2 (g+1+k) (joinW (rs k) (us k) (k / 64))->wr.drew.grownBy w2 (some (g+1+k))->EndAt w2 g P (plusTo rs us (k+1))/\EndAt w2 g' P us/\Only (g+1) w w2):=fun w2 h1 h2=>by
    have h2':wr.grownBy w2 (some (g+1+k)):=⟨h2.os,h2.tape,h2.output,h2.size,h2.block⟩;refine⟨?_,HU.out.other h2' (Or.inl (by omega)),HO.out.trans (Only.of_row hr1 h2' (by omega))⟩
    rw[<- qcU];exact HE.out.turn hlt h1 (ho1.join (HU.out.ok k hlt) _ _) h2'
   have hkeep:∀w2,wr.drew.grownBy w2 (some (g+1+k))->w2.cell? ⟨g,k,none⟩=some (.slice (some ⟨g+1+k,0,none⟩) (wordsN P) (wordsN P))/\w2.cell? ⟨g',k,none⟩=some (.slice (some ⟨g'+1+k,0,none⟩) (wordsN P) (wordsN P)):=fun w2 h2 =>
    ⟨q1Z (w0:=wr.drew) hc1 h2 (fun e=>by injection e with e;dsimp only at e;omega),q1Z (w0:=wr.drew) hc2 h2 (fun e=>by injection e with e;dsimp only at e;omega)⟩
   have hk0:wr.cell? ⟨g,k,none⟩=some (.slice (some ⟨g+1+k,0,none⟩) (wordsN P) (wordsN P))/\wr.cell? ⟨g',k,none⟩=some (.slice (some ⟨g'+1+k,0,none⟩) (wordsN P) (wordsN P)):=⟨hc1,hc2⟩;clear hr1 ho1 e0;generalize wordsN P=W at *;go_wp2
   go_region_held3 (fun w'=>w'.cell? ⟨g,k,none⟩=some (.slice (some ⟨g+1+k,0,none⟩) W W)/\w'.cell? ⟨g',k,none⟩=some (.slice (some ⟨g'+1+k,0,none⟩) W W)) (first|exact hk0|exact hkeep _ ‹_›) ((go_at_call 93;refine hjn.mono ?_;rintro e w2 ⟨rfl,hr2,hg2⟩))
   obtain⟨q1,q2,q3⟩:=HX.out _ hr2 hg2;have H1:Hid _:=q1;have H2:Hid _:=q2;have H3:Hid _:=q3;clear hjn hkeep hk0 hc1 hc2 hr2 hg2 q1 q2 q3 HX;go_wp2
   go_roundw
   case rel=>exact⟨k+1,by omega,by go_num,H1,H2,H3⟩
   case measure=>simp[intOf];omega
  ·obtain rfl:k=P:=by omega
   go_wp2;go_ret
   exact⟨rfl,HE.out,HO.out⟩
def SeqTo (rs us:Nat->List Nat) (i j:Nat) (x:List Nat):Prop:=∀k,hasW x k=true↔∃m,m<j/\hasW (rs i) m=true/\hasW (us m) k=true
theorem SeqTo.skip{rs us:Nat->List Nat}{i j:Nat}{x:List Nat}(h:SeqTo rs us i j x)(hn:hasW (rs i) j=false):SeqTo rs us i (j+1) x:=fun k=>by
 rw[h k]
 constructor
 ·rintro⟨m,h1,h2⟩;exact⟨m,by omega,h2⟩
 ·rintro⟨m,h1,h2⟩
  by_cases e:m=j
  ·subst e;rw[hn]at h2;cases h2.1
  ·exact⟨m,by omega,h2⟩
theorem SeqTo.join{rs us:Nat->List Nat}{i j W:Nat}{x:List Nat}(h:SeqTo rs us i j x)(hn:hasW (rs i) j=true)(hx:OkW W x)(hu:OkW W (us j))(hq:∀k,hasW (us j) k=true->j<=k):SeqTo rs us i (j+1) (joinW x (us j) (j / 64)):=fun k=>by
 rw[q41 hx hu j k hq,Bool.or_eq_true,h k]
 constructor
 ·rintro (⟨m,h1,h2⟩|h1)
  ·exact⟨m,by omega,h2⟩
  ·exact⟨j,by omega,hn,h1⟩
 ·rintro⟨m,h1,h2,h3⟩
  by_cases e:m=j
  ·subst e;exact Or.inr h3
  ·exact Or.inl ⟨m,by omega,h2,h3⟩
theorem qar(g g' P:Nat)(rs us:Nat->List Nat)(w:World)(hP:P<=100000)(hA:EndAt w g P rs)(hB:EndAt w g' P us)(hq:∀j,j<P->∀k,hasW (us j) k=true->j<=k):
  Calls Tryz.prog 66 #[.slice (some ⟨g,0,none⟩) P P,.slice (some ⟨g',0,none⟩) P P] w fun e w'=>e=.returned (.slice (some ⟨w.heap.size,0,none⟩) P P)/\(∃xs,EndAt w' w.heap.size P xs/\∀i,i<P->SeqTo rs us i P (xs i))/\Below w.heap.size w w':=by
 have hnow:=q2t P w hP;have HQ:Hid _:=hq;have HA:Hid (EndAt w g P rs):=hA;have HB:Hid (EndAt w g' P us):=hB;have hl1:=hA.lt;have hl2:=hB.lt;clear hA hB hq;go_enter Tryz.func66,Tryz.ntmps66
 go_wp2_with fail
 refine hnow.mono ?_
 rintro e w1 ⟨rfl,hE1,hB1⟩
 have HE1:Hid (EndAt w1 w.heap.size P (fun _=>List.replicate (wordsN P) 0)):=hE1
 have HB1:Hid (Below w.heap.size w w1):=hB1;clear hnow hE1 hB1;go_wp2
 go_loopw [13] (fun i wr=>∃n:Nat,n<=P/\i=.int .i64 n/\(∃xs,Hid (EndAt wr w.heap.size P xs)/\Hid (∀i,i<n->SeqTo rs us i P (xs i))/\Hid (∀i,n<=i->xs i=List.replicate (wordsN P) 0))/\Hid (Below w.heap.size w wr)) (fun i _=>P - (intOf i).toNat)
 case atStart=>exact⟨0,Nat.zero_le _,rfl,⟨_,HE1,fun i hi=>absurd hi (by omega),fun _ _=>rfl⟩,HB1⟩
 case round =>
  obtain⟨n,hn,rfl,⟨xs0,HE0,HD0,HZ0⟩,HW0⟩:=hrel;clear HE1 HB1;by_cases hnP:n<P
  ·go_wp2
   go_loopw [18] (fun i wr=>∃k:Nat,k<=P/\i=.int .i64 k/\(∃xs,Hid (EndAt wr w.heap.size P xs)/\Hid (∀i,i<n->SeqTo rs us i P (xs i))/\Hid (SeqTo rs us n k (xs n))/\Hid (∀i,n+1<=i->xs i=List.replicate (wordsN P) 0))/\Hid (Below w.heap.size w wr)) (fun i _=>P - (intOf i).toNat)
   case atStart=>exact⟨0,Nat.zero_le _,rfl,⟨xs0,HE0,HD0,fun k=>by rw[HZ0.out n (Nat.le_refl _),q2C];exact⟨fun h=>(by cases h),fun⟨m,h,_⟩=>absurd h (by omega)⟩,fun i hi=>HZ0.out i (by omega)⟩,HW0⟩
   case round =>
    obtain⟨k,hk,rfl,⟨xs,HE,HD,HS,HZ⟩,HW⟩:=hrel;clear HE0 HD0 HZ0 HW0;by_cases hlt:k<P
    ·have hA2:=HA.out.up HW.out
     have hB2:=HB.out.up HW.out;have hhas:=fun W (h:Below wr.heap.size wr W)=>q3n (g+1+n) (wordsN P) k (rs n) W ((hA2.rows n hnP).up h) (HA.out.ok n hnP) (q27 hlt) (by omega)
     have hi0:=fun w'=>qP g P n w' hnP
     have hc0:=hA2.cell hnP;have HSK:Hid _:=HS.out.skip;have HSJ:Hid _:=fun hn=>HS.out.join hn (HE.out.ok n hnP) (HB.out.ok k hlt) (HQ.out k hlt)
     go_wp2_with fail
     refine (hhas _ (Below.refl _ _)).mono ?_
     rintro e w3 ⟨rfl,hb3⟩
     have HE3:Hid _:=HE.out.up hb3;have HW3:Hid (Below w.heap.size w w3):=qd HW.out hb3;clear hhas hi0 hc0 hb3 HE HW HS hA2 hB2
     cases hh:hasW (rs n) k with
     | false =>
      have HS4:Hid _:=HSK.out hh;clear hh HSK HSJ;go_wp2
      go_roundw
      case rel=>exact⟨k+1,by omega,by go_num,⟨xs,HE3,HD,HS4,HZ⟩,HW3⟩
      case measure=>simp[intOf];omega
     | true =>
      have HS4:Hid _:=HSJ.out hh;have hi1:=fun w'=>qP w.heap.size P n w' hnP
      have hi2:=fun w'=>qP g' P k w' hlt
      have hc1:=HE3.out.cell hnP;have hB3:=HB.out.up HW3.out;have hc2:=hB3.cell hlt;have hr1:=HE3.out.rows n hnP;have ho1:=HE3.out.ok n hnP;have hjn:=q2U (w.heap.size+1+n) (g'+1+k) (wordsN P) k (xs n) (us k) w3.drew hr1 (hB3.rows k hlt) ho1 (hB3.ok k hlt) (fun e=>by omega) (q27 hlt) (q7i hP)
      have HX:Hid (∀w2,RowU w2 (w.heap.size+1+n) (joinW (xs n) (us k) (k / 64))->w3.drew.grownBy w2 (some (w.heap.size+1+n))->EndAt w2 w.heap.size P (upd xs n (joinW (xs n) (us k) (k / 64)))/\Below w.heap.size w w2):=fun w2 h1 h2=>by
       have h2':w3.grownBy w2 (some (w.heap.size+1+n)):=⟨h2.os,h2.tape,h2.output,h2.size,h2.block⟩;exact⟨HE3.out.turn hnP h1 (ho1.join (hB3.ok k hlt) _ _) h2',HW3.out.grown h2' HW3.out.size (fun j e=>by injection e with e;omega)⟩
      have hkeep:∀w2,w3.drew.grownBy w2 (some (w.heap.size+1+n))->w2.cell? ⟨w.heap.size,n,none⟩=some (.slice (some ⟨w.heap.size+1+n,0,none⟩) (wordsN P) (wordsN P))/\w2.cell? ⟨g',k,none⟩=some (.slice (some ⟨g'+1+k,0,none⟩) (wordsN P) (wordsN P)):=fun w2 h2 =>
       ⟨q1Z (w0:=w3.drew) hc1 h2 (fun e=>by injection e with e;dsimp only at e;omega),q1Z (w0:=w3.drew) hc2 h2 (fun e=>by injection e with e;dsimp only at e;omega)⟩
      have hk0:w3.cell? ⟨w.heap.size,n,none⟩=some (.slice (some ⟨w.heap.size+1+n,0,none⟩) (wordsN P) (wordsN P))/\w3.cell? ⟨g',k,none⟩=some (.slice (some ⟨g'+1+k,0,none⟩) (wordsN P) (wordsN P)):=⟨hc1,hc2⟩;clear hr1 ho1 hB3 hh HSK HSJ HE3 HW3;generalize hWW:wordsN P=W at *;have HWW:Hid (wordsN P=W):=hWW;clear hWW;go_wp2
      go_region_held3 (fun w'=>w'.cell? ⟨w.heap.size,n,none⟩=some (.slice (some ⟨w.heap.size+1+n,0,none⟩) W W)/\w'.cell? ⟨g',k,none⟩=some (.slice (some ⟨g'+1+k,0,none⟩) W W)) (first|exact hk0|exact hkeep _ ‹_›) ((go_at_call 93;refine hjn.mono ?_;rintro e w2 ⟨rfl,hr2,hg2⟩))
      obtain⟨q1,q2⟩:=HX.out _ hr2 hg2;have H1:Hid _:=q1;have H2:Hid _:=q2;clear hjn hkeep hk0 hc1 hc2 hr2 hg2 q1 q2 HX;go_wp2
      go_roundw
      case rel =>
       refine⟨k+1,by omega,by go_num,⟨_,H1,fun i hi=>?_,?_,fun i hi=>?_⟩,H2⟩
       ·rw[q1T _ _ (by omega)];exact HD.out i hi
       ·show SeqTo _ _ _ _ _;rw[q26];exact HS4.out
       ·rw[q1T _ _ (by omega),HWW.out];exact HZ.out i hi
      case measure=>simp[intOf];omega
    ·obtain rfl:k=P:=by omega
     go_wp2
     go_roundw
     case rel =>
      refine⟨n+1,by omega,by go_num,⟨xs,HE,fun i hi=>?_,HZ⟩,HW⟩
      by_cases e:i=n
      ·subst e;exact HS.out
      ·exact HD.out i (by omega)
     case measure=>simp[intOf];omega
  ·obtain rfl:n=P:=by omega
   go_wp2;go_ret
   exact⟨rfl,⟨xs0,HE0.out,HD0.out⟩,HW0.out⟩
def Rl (rs:Nat->List Nat) (i k:Nat):Prop:=hasW (rs i) k=true
structure StarI (rs xs:Nat->List Nat) (P:Nat):Prop where
 refl:∀i,i<P->hasW (xs i) i=true
 sound:∀i,i<P->∀k,hasW (xs i) k=true->∃m,stepsP (Rl rs) m i k
def InR (rs:Nat->List Nat) (P:Nat):Prop:=∀i,i<P->∀k,hasW (rs i) k=true->i<=k/\k<P
theorem InR.steps{rs:Nat->List Nat}{P:Nat}(h:InR rs P){m i k:Nat}(hi:i<P)(hs:stepsP (Rl rs) m i k):i<=k/\k<P:=by
 have:=q52 (w:=Rl rs) (n:=P - 1) (fun i k hi hk=>by have:=h i (by omega) k hk;omega) m i k (by omega) hs
 omega
theorem StarI.fwd{rs xs:Nat->List Nat}{P:Nat}(h:StarI rs xs P)(hr:InR rs P){j:Nat}(hj:j<P)(k:Nat)(hk:hasW (xs j) k=true):j<=k:=by
 obtain⟨m,hm⟩:=h.sound j hj k hk;exact(hr.steps hj hm).1
theorem StarI.join{rs xs:Nat->List Nat}{P W:Nat}(h:StarI rs xs P)(hr:InR rs P){i j:Nat}(hi:i<P)(hj:j<P)(hW:∀i,i<P->OkW W (xs i))(hR:hasW (rs i) j=true):StarI rs (upd xs i (joinW (xs i) (xs j) (j / 64))) P:=by
 have hb:=fun k=>q41 (hW i hi) (hW j hj) j k (h.fwd hr hj)
 refine⟨fun i' hi'=>?_,fun i' hi' k hk=>?_⟩
 ·by_cases e:i'=i
  ·subst e;rw[q26,hb,h.refl _ hi];rfl
  ·rw[q1T _ _ e];exact h.refl i' hi'
 ·by_cases e:i'=i
  ·subst e
   rw[q26,hb,Bool.or_eq_true]at hk;rcases hk with hk|hk
   ·exact h.sound _ hi k hk
   ·obtain⟨m,hm⟩:=h.sound j hj k hk
    exact⟨m+1,j,hR,hm⟩
  ·rw[q1T _ _ e]at hk;exact h.sound i' hi' k hk
def ClI (rs xs:Nat->List Nat) (i j:Nat):Prop:=∀m,m<j->hasW (rs i) m=true->∀k,hasW (xs m) k=true->hasW (xs i) k=true
theorem ClI.skip{rs xs:Nat->List Nat}{i j:Nat}(h:ClI rs xs i j)(hn:hasW (rs i) j=false):ClI rs xs i (j+1):=fun m hm hr=>by
 by_cases e:m=j
 ·subst e;rw[hn]at hr;cases hr
 ·exact h m (by omega) hr
theorem ClI.join{rs xs:Nat->List Nat}{i j P W:Nat}(h:ClI rs xs i j)(hs:StarI rs xs P)(hr:InR rs P)(hi:i<P)(hj:j<P)(hW:∀i,i<P->OkW W (xs i))(he:joinW (xs i) (xs j) (j / 64)=xs i):ClI rs xs i (j+1):=fun m hm hrm k hk=>by
 by_cases e:m=j
 ·subst e
  have:=q41 (hW i hi) (hW m hj) m k (hs.fwd hr hj)
  rw[he,hk,Bool.or_true]at this;exact this
 ·exact h m (by omega) hrm k hk
theorem qeS{rs xs:Nat->List Nat}{P:Nat}(h:StarI rs xs P)(hr:InR rs P)(hc:∀i,i<P->ClI rs xs i P){i:Nat}(hi:i<P)(k:Nat):hasW (xs i) k=true↔∃m,stepsP (Rl rs) m i k:=by
 refine⟨h.sound i hi k,?_⟩
 rintro⟨m,hm⟩
 induction m generalizing i with
 | zero=>have e:i=k:=hm;subst e;exact h.refl _ hi
 | succ m ih =>
  obtain⟨j,h1,h2⟩:=hm;have hj:=hr i hi j h1;exact hc i hi j hj.2 h1 k (ih hj.2 h2)
theorem qg0{xs:Nat->List Nat}{P i:Nat}{us:List Nat}(p:Nat)(hi:i<P)(hne:joinW (xs i) us p≠xs i):tot P xs<tot P (upd xs i (joinW (xs i) us p)):=by
 have h1:=qdk P xs i (joinW (xs i) us p) hi;have h2:=(qeU (xs:=xs i) (ys:=joinW (xs i) us p) (q2e ..).symm (qdE _ _ _ _)).2 (fun e=>hne e.symm)
 omega
structure StR (rs x0 xs:Nat->List Nat) (P:Nat) (bb:Bool):Prop where
 st:StarI rs xs P
 ch:bb=true->tot P x0<tot P xs
 same:bb=false->xs=x0
theorem StR.le{rs x0 xs:Nat->List Nat}{P:Nat}{bb:Bool}(h:StR rs x0 xs P bb):tot P x0<=tot P xs:=by
 cases bb with
 | true=>exact Nat.le_of_lt (h.ch rfl)
 | false=>rw[h.same rfl];exact Nat.le_refl _
def rowOf (w:World) (b:Nat):List Nat:=match w.heap[b]? with
 | some (.cells cur _ _)=>cur.toList.map fun v=>(intOf v).toNat
 | _=>[]
theorem RowU.rowOf{w:World}{b:Nat}{ws:List Nat}(h:RowU w b ws):rowOf w b=ws:=by
 unfold RowU encU at h;unfold Proofs.YtekeaodpdcnfjaaGreatDoor.rowOf;rw[h];simp[intOf,Function.comp_def]
def memTot (w:World) (g P:Nat):Nat:=tot P fun i=>rowOf w (g+1+i)
theorem qa2:∀(P:Nat) (xs ys:Nat->List Nat),(∀i,i<P->xs i=ys i)->tot P xs=tot P ys
 | 0,_,_,_=>rfl
 | P+1,xs,ys,h=>by unfold tot;rw[qa2 P xs ys fun i hi=>h i (by omega),h P (by omega)]
theorem EndAt.mem{w:World}{g P:Nat}{xs:Nat->List Nat}(h:EndAt w g P xs):memTot w g P=tot P xs:=qa2 _ _ _ fun i hi=>(h.rows i hi).rowOf
def boolOf:Value->Nat | .bool true=>1|_=>0
def starM (v:Value) (w:World) (g P:Nat):Nat:=boolOf v+2*(P*(wordsN P*18446744073709551616) - memTot w g P)
theorem qdX{w w':World}{g P:Nat}{xs ys:Nat->List Nat}(h:EndAt w g P xs)(k:EndAt w' g P ys)(hl:tot P xs<tot P ys):starM (.bool true) w' g P<starM (.bool true) w g P:=by
 unfold starM;rw[h.mem,k.mem];have:=qeX (W:=wordsN P) P ys k.ok
 generalize P*(wordsN P*18446744073709551616)=B at *
 omega
theorem qcX{w w':World}{g P:Nat}{xs ys:Nat->List Nat}(h:EndAt w g P xs)(k:EndAt w' g P ys)(hl:tot P xs<=tot P ys):starM (.bool false) w' g P<starM (.bool true) w g P:=by
 unfold starM;rw[h.mem,k.mem]
 show 0+_<1+_
 generalize P*(wordsN P*18446744073709551616)=B at *
 omega
theorem q8I(g P:Nat)(rs:Nat->List Nat)(w:World)(hP:P<=100000)(hP1:1<=P)(hA:EndAt w g P rs)(hr:InR rs P):
  Calls Tryz.prog 62 #[.slice (some ⟨g,0,none⟩) P P] w fun e w'=>e=.returned (.slice (some ⟨w.heap.size,0,none⟩) P P)/\(∃xs,EndAt w' w.heap.size P xs/\∀i,i<P->∀k,hasW (xs i) k=true↔∃m,stepsP (Rl rs) m i k)/\Below w.heap.size w w':=by
 have hnow:=q2t P w hP;have HR:Hid (InR rs P):=hr;have HA:Hid (EndAt w g P rs):=hA;have hl1:=hA.lt;clear hA hr;go_enter Tryz.func62,Tryz.ntmps62
 go_wp2_with fail
 refine hnow.mono ?_
 rintro e w1 ⟨rfl,hE1,hB1⟩
 have HE1:Hid (EndAt w1 w.heap.size P (fun _=>List.replicate (wordsN P) 0)):=hE1
 have HB1:Hid (Below w.heap.size w w1):=hB1;clear hnow hE1 hB1;go_wp2
 go_loopw [13] (fun i wr=>∃k:Nat,k<=P/\i=.int .i64 k/\(∃xs,Hid (EndAt wr w.heap.size P xs)/\Hid (∀i,i<k->∀j,hasW (xs i) j=decide (j=i))/\Hid (∀i,k<=i->xs i=List.replicate (wordsN P) 0))/\Hid (Below w.heap.size w wr)) (fun i _=>P - (intOf i).toNat)
 case atStart=>exact⟨0,Nat.zero_le _,rfl,⟨_,HE1,fun i hi=>absurd hi (by omega),fun _ _=>rfl⟩,HB1⟩
 case round =>
  obtain⟨k,hk,rfl,⟨xs,HE,HD,HZ⟩,HB⟩:=hrel;clear HE1 HB1;by_cases hlt:k<P
  ·have hi2:=fun w'=>qP w.heap.size P k w' hlt
   have hc2:=HE.out.cell hlt;have HZk:Hid (xs k=List.replicate (wordsN P) 0):=HZ.out k (Nat.le_refl _);have hput:=q3o (w.heap.size+1+k) (wordsN P) k (xs k) wr (HE.out.rows k hlt) (HE.out.ok k hlt) (q27 hlt) (by omega)
   have HPW:Hid (∀j,hasW (putW (xs k) k) j=decide (j=k)):=fun j=>by rw[q72 (HE.out.ok k hlt) (q27 hlt),HZk.out,q2C,Bool.false_or]
   have HPO:Hid (OkW (wordsN P) (putW (xs k) k)):=(HE.out.ok k hlt).put
   go_wp2_with fail
   refine hput.mono ?_
   rintro e w2 ⟨rfl,hr2,hg2⟩
   have HE2:Hid (EndAt w2 w.heap.size P (upd xs k (putW (xs k) k))):=HE.out.turn hlt hr2 HPO.out hg2;have HB2:Hid (Below w.heap.size w w2):=HB.out.grown hg2 HB.out.size (fun j e=>by injection e with e;omega)
   clear hput hr2 hg2 hc2;go_wp2
   go_roundw
   case rel =>
    refine⟨k+1,by omega,by go_num,⟨_,HE2,fun i hi j=>?_,fun i hi=>?_⟩,HB2⟩
    ·by_cases e:i=k
     ·subst e;rw[q26,HPW.out]
     ·rw[q1T _ _ e];exact HD.out i (by omega) j
    ·rw[q1T _ _ (by omega)];exact HZ.out i (by omega)
   case measure=>simp[intOf];omega
  ·obtain rfl:k=P:=by omega
   have HI:Hid (StarI rs xs k):=⟨fun i hi=>by rw[HD.out i hi];simp,fun i hi j hj=>⟨0,by rw[HD.out i hi]at hj;exact(of_decide_eq_true hj).symm⟩⟩
   clear HD HZ;go_wp2
   go_loopw [5] (fun c wr=>∃bb:Bool,c=.bool bb/\(∃xs,Hid (EndAt wr w.heap.size k xs)/\Hid (StarI rs xs k)/\Hid (bb=false->∀i,i<k->ClI rs xs i k))/\Hid (Below w.heap.size w wr)) (fun c wr=>starM c wr w.heap.size k)
   case atStart=>exact⟨true,rfl,⟨xs,HE,HI,fun h=>by cases h⟩,HB⟩
   case round =>
    obtain⟨b0,rfl,⟨x0,HE0,HI0,HC0⟩,HW0⟩:=hrel;clear HE HI HB
    cases b0 with
    | false =>
     go_wp2;go_ret
     exact⟨rfl,⟨x0,HE0.out,fun i hi j=>qeS HI0.out HR.out (HC0.out (by first|rfl|trivial)) hi j⟩,HW0.out⟩
    | true =>
     clear HC0;have wk:=wr64 ((k:Int) - 1) (by omega)
     have HM:Hid (∀wr' ys (b:Bool),EndAt wr' w.heap.size k ys->StR rs x0 ys k b->starM (.bool b) wr' w.heap.size k<starM (.bool true) wr w.heap.size k):=fun wr' ys b h hs=>by
      cases b with
      | true=>exact qdX HE0.out h (hs.ch rfl)
      | false=>exact qcX HE0.out h hs.le
     go_wp2
     go_loopw [5,6] (fun c i wr=>∃n:Nat,n<=k/\i=.int .i64 ((n:Int) - 1)/\∃bb:Bool,c=.bool bb/\(∃xs,Hid (EndAt wr w.heap.size k xs)/\Hid (StR rs x0 xs k bb)/\Hid (bb=false->∀i,n<=i->i<k->ClI rs xs i k))/\Hid (Below w.heap.size w wr)) (fun _ i _=>(intOf i+1).toNat)
     case atStart=>exact⟨k,Nat.le_refl _,rfl,false,rfl,⟨x0,HE0,⟨HI0.out,fun h=>(by cases h),fun _=>rfl⟩,fun _ i h1 h2=>absurd h1 (by omega)⟩,HW0⟩
     case round =>
      obtain⟨n,hn,rfl,b1,rfl,⟨x1,HE1,HS1,HC1⟩,HW1⟩:=hrel;by_cases hn0:n=0
      ·subst hn0
       have hle:¬ (0:Int)<=((0:Nat):Int) - 1:=by omega
       go_wp2
       go_roundw
       case rel=>exact⟨b1,rfl,⟨x1,HE1,HS1.out.st,fun h i hi=>HC1.out h i (Nat.zero_le _) hi⟩,HW1⟩
       case measure=>exact HM.out _ _ _ HE1.out HS1.out
      ·obtain⟨m,rfl⟩:∃m,n=m+1:=⟨n - 1,by omega⟩
       have hmk:m<k:=by omega
       have em:(((m+1:Nat):Int) - 1)=(m:Int):=by omega
       rw[em];have hle:(0:Int)<=(m:Int):=by omega
       have wk2:=wr64 (m:Int) (by omega)
       clear HE0 HI0 HW0 HM hn0 em;go_wp2
       go_loopw [5,33] (fun c i wr=>∃n:Nat,n<=k/\i=.int .i64 n/\∃bb:Bool,c=.bool bb/\(∃xs,Hid (EndAt wr w.heap.size k xs)/\Hid (StR rs x0 xs k bb)/\Hid (bb=false->(∀i,m+1<=i->i<k->ClI rs xs i k)/\ClI rs xs m n))/\Hid (Below w.heap.size w wr)) (fun _ i _=>k - (intOf i).toNat)
       case atStart=>exact⟨0,Nat.zero_le _,rfl,b1,rfl,⟨x1,HE1,HS1,fun h=>⟨HC1.out h,fun m hm=>absurd hm (by omega)⟩⟩,HW1⟩
       case round =>
        obtain⟨n,hn,rfl,b2,rfl,⟨x2,HE2,HS2,HC2⟩,HW2⟩:=hrel;clear HE1 HS1 HC1 HW1;by_cases hnk:n<k
        ·have hA2:=HA.out.up HW2.out
         have hhas:=fun W (h:RowU W (g+1+m) (rs m))=>q4k (g+1+m) (wordsN k) n (rs m) W h (HA.out.ok m hmk) (q27 hnk) (by omega)
         have hi0:=fun w'=>qP g k m w' hmk
         have hc0:=hA2.cell hmk;have hr0:=hA2.rows m hmk
         cases hh:hasW (rs m) n with
         | false =>
          simp only[hh]at hhas
          have HC3:Hid (b2=false->(∀i,m+1<=i->i<k->ClI rs x2 i k)/\ClI rs x2 m (n+1)):=fun h=>⟨(HC2.out h).1,(HC2.out h).2.skip hh⟩
          have hq:=fun q=>hhas (wr.drewN q) (hr0.up (below_drewN (Below.refl _ _) q))
          generalize hWW:wordsN k=W at *;clear hWW
          go_wp2_with fail
          go_quiet ((go_at_call 92;first|exact Calls.quiet_of_same (hhas _ hr0)|exact Calls.quiet_of_same (hq _)))
          go_wp2
          go_roundw
          case rel=>exact⟨n+1,by omega,by go_num,b2,rfl,⟨x2,HE2.out.up (below_drewN (Below.refl _ _) nq),HS2,HC3⟩,below_drewN HW2.out nq⟩
          case measure=>simp[intOf];omega
         | true =>
          have hin:=HR.out m hmk n hh;have hi1:=fun w'=>qP w.heap.size k m w' hmk
          have hi2:=fun w'=>qP w.heap.size k n w' hnk
          have hc1:=HE2.out.cell hmk;have hc2:=HE2.out.cell hnk;have hr1:=HE2.out.rows m hmk;have hr2:=HE2.out.rows n hnk;have hjn:=fun W (h1:RowU W (w.heap.size+1+m) (x2 m)) (h2:RowU W (w.heap.size+1+n) (x2 n))=>q2U (w.heap.size+1+m) (w.heap.size+1+n) (wordsN k) n (x2 m) (x2 n) W h1 h2 (HE2.out.ok m hmk) (HE2.out.ok n hnk) (fun e=>congrArg x2 (by omega)) (q27 hnk) (q7i hP)
          have HST:Hid (StarI rs (upd x2 m (joinW (x2 m) (x2 n) (n / 64))) k):=HS2.out.st.join HR.out hmk hnk HE2.out.ok hh;have HTT:Hid (joinW (x2 m) (x2 n) (n / 64)≠x2 m->tot k x2<tot k (upd x2 m (joinW (x2 m) (x2 n) (n / 64)))):=fun h=>qg0 _ hmk h
          have HCJ:Hid (b2=false->joinW (x2 m) (x2 n) (n / 64)=x2 m->(∀i,m+1<=i->i<k->ClI rs x2 i k)/\ClI rs x2 m (n+1)):=fun h he=>⟨(HC2.out h).1,(HC2.out h).2.join HS2.out.st HR.out hmk hnk HE2.out.ok he⟩
          have HX:Hid (∀w2,RowU w2 (w.heap.size+1+m) (joinW (x2 m) (x2 n) (n / 64))->wr.grownBy w2 (some (w.heap.size+1+m))->EndAt w2 w.heap.size k (upd x2 m (joinW (x2 m) (x2 n) (n / 64)))/\Below w.heap.size w w2):=fun w2 h1 h2 =>
           ⟨HE2.out.turn hmk h1 ((HE2.out.ok m hmk).join (HE2.out.ok n hnk) _ _) h2,HW2.out.grown h2 HW2.out.size (fun j e=>by injection e with e;omega)⟩
          have HSL:Hid (tot k x0<=tot k x2):=HS2.out.le;have HSS:Hid (b2=false->x2=x0):=HS2.out.same;have HSC:Hid (b2=true->tot k x0<tot k x2):=HS2.out.ch;have hk0:wr.cell? ⟨g,m,none⟩=some (.slice (some ⟨g+1+m,0,none⟩) (wordsN k) (wordsN k))/\wr.cell? ⟨w.heap.size,m,none⟩=some (.slice (some ⟨w.heap.size+1+m,0,none⟩) (wordsN k) (wordsN k))/\wr.cell? ⟨w.heap.size,n,none⟩=some (.slice (some ⟨w.heap.size+1+n,0,none⟩) (wordsN k) (wordsN k)):=⟨hc0,hc1,hc2⟩
          have hkeep:∀w2,wr.grownBy w2 (some (w.heap.size+1+m))->w2.cell? ⟨g,m,none⟩=some (.slice (some ⟨g+1+m,0,none⟩) (wordsN k) (wordsN k))/\w2.cell? ⟨w.heap.size,m,none⟩=some (.slice (some ⟨w.heap.size+1+m,0,none⟩) (wordsN k) (wordsN k))/\w2.cell? ⟨w.heap.size,n,none⟩=some (.slice (some ⟨w.heap.size+1+n,0,none⟩) (wordsN k) (wordsN k)):=fun w2 h2 =>
           ⟨q1Z hc0 h2 (fun e=>by injection e with e;dsimp only at e;omega),q1Z hc1 h2 (fun e=>by injection e with e;dsimp only at e;omega),q1Z hc2 h2 (fun e=>by injection e with e;dsimp only at e;omega)⟩
          simp only[hh]at hhas
          have HHH:Hid (hasW (rs m) n=true):=hh;clear hA2 HE2 HW2 HC2 HS2 hh hin;generalize hWW:wordsN k=W at *;have HWW:Hid (wordsN k=W):=hWW;clear hWW;generalize hY:joinW (x2 m) (x2 n) (n / 64)=Y at *;clear hY;by_cases hYx:Y=x2 m
          ·have hd:decide (Y≠x2 m)=false:=by simp[hYx]
           have HUS:Hid (upd x2 m Y=x2):=by show _=_;rw[hYx,qg4]
           have HYX:Hid (Y=x2 m):=hYx;simp only[hd]at hjn
           clear hd hYx
           go_wp2_with fail
           go_region_held3 (fun w'=>w'.cell? ⟨g,m,none⟩=some (.slice (some ⟨g+1+m,0,none⟩) W W)/\w'.cell? ⟨w.heap.size,m,none⟩=some (.slice (some ⟨w.heap.size+1+m,0,none⟩) W W)/\w'.cell? ⟨w.heap.size,n,none⟩=some (.slice (some ⟨w.heap.size+1+n,0,none⟩) W W)) (first|exact hk0|exact hkeep _ ‹_›) (first|(go_at_call 92;refine (hhas wr.drew hr0).mono ?_;rintro e w' ⟨rfl,rfl⟩)|(go_at_call 93;(first|refine (hjn wr.drew hr1 hr2).mono ?_|refine (hjn wr.drew.drew hr1 hr2).mono ?_);rintro e w2 ⟨rfl,hr3,hg3⟩;have hg4:wr.grownBy w2 (some (w.heap.size+1+m)):=⟨hg3.os,hg3.tape,hg3.output,hg3.size,hg3.block⟩;clear hg3))
           obtain⟨q1,q2⟩:=HX.out _ hr3 hg4;have H1:Hid _:=q1;have H2:Hid _:=q2;clear hjn hhas hkeep hk0 hc0 hc1 hc2 hr3 hg4 q1 q2 HX hr0 hr1 hr2;go_wp2
           go_roundw
           case rel =>
            have h1:=H1.out;rw[HUS.out]at h1;exact⟨n+1,by omega,by go_num,b2,rfl,⟨x2,h1,⟨by have:=HST.out;rw[HUS.out]at this;exact this,HSC.out,HSS.out⟩,fun h=>HCJ.out h HYX.out⟩,H2⟩
           case measure=>simp[intOf];omega
          ·have hd:decide (Y≠x2 m)=true:=by simp[hYx]
           have HTL:Hid _:=HTT.out hYx;simp only[hd]at hjn
           clear hd hYx
           go_wp2_with fail
           go_region_held3 (fun w'=>w'.cell? ⟨g,m,none⟩=some (.slice (some ⟨g+1+m,0,none⟩) W W)/\w'.cell? ⟨w.heap.size,m,none⟩=some (.slice (some ⟨w.heap.size+1+m,0,none⟩) W W)/\w'.cell? ⟨w.heap.size,n,none⟩=some (.slice (some ⟨w.heap.size+1+n,0,none⟩) W W)) (first|exact hk0|exact hkeep _ ‹_›) (first|(go_at_call 92;refine (hhas wr.drew hr0).mono ?_;rintro e w' ⟨rfl,rfl⟩)|(go_at_call 93;(first|refine (hjn wr.drew hr1 hr2).mono ?_|refine (hjn wr.drew.drew hr1 hr2).mono ?_);rintro e w2 ⟨rfl,hr3,hg3⟩;have hg4:wr.grownBy w2 (some (w.heap.size+1+m)):=⟨hg3.os,hg3.tape,hg3.output,hg3.size,hg3.block⟩;clear hg3))
           obtain⟨q1,q2⟩:=HX.out _ hr3 hg4;have H1:Hid _:=q1;have H2:Hid _:=q2;clear hjn hhas hkeep hk0 hc0 hc1 hc2 hr3 hg4 q1 q2 HX hr0 hr1 hr2;go_wp2
           go_roundw
           case rel=>exact⟨n+1,by omega,by go_num,true,rfl,⟨_,H1,⟨HST.out,fun _=>Nat.lt_of_le_of_lt HSL.out HTL.out,fun h=>(by cases h)⟩,fun h=>(by cases h)⟩,H2⟩
           case measure=>simp[intOf];omega
        ·obtain rfl:n=k:=by omega
         go_wp2
         go_roundw
         case rel =>
          refine⟨m,by omega,rfl,b2,rfl,⟨x2,HE2,HS2,fun h i h1 h2=>?_⟩,HW2⟩
          by_cases e:i=m
          ·subst e;exact(HC2.out h).2
          ·exact(HC2.out h).1 i (by omega) h2
         case measure=>simp[intOf]
def ValR (n:Nat) (V:Nat->Prop) (w:World) (e:Ending) (w':World):Prop :=
 ∃g bs,e=.returned (.slice (some ⟨g,0,none⟩) (n+1) (n+1))/\ValAt w' g bs/\bs.length=n+1/\(∀i,i<=n->(bs.getD i false=true↔V i))/\Below w.heap.size w w'/\w.heap.size<=g
theorem q5J(bs:List Bool)(i j:Nat)(x:Bool):(bs.set i x).getD j false=if i=j/\i<bs.length then x else bs.getD j false:=by
 simp only[List.getD_eq_getElem?_getD,List.getElem?_set]
 by_cases h:i=j
 ·subst h
  by_cases h2:i<bs.length
  ·simp[h2]
  ·rw[if_pos rfl,if_neg h2,if_neg (by omega)];simp[List.getElem?_eq_none (by omega:bs.length<=i)]
 ·simp[h]
structure FillF (n:Nat) (V:Nat->Prop) (k:Nat) (bs:List Bool):Prop where
 len:bs.length=n+1
 done:∀i,i<k->(bs.getD i false=true↔V i)
 rest:∀i,k<=i->bs.getD i false=false
theorem FillF.zero(n:Nat)(V:Nat->Prop):FillF n V 0 (List.replicate (n+1) false) :=
 ⟨by simp,fun i hi=>absurd hi (by omega),fun i _=>by simp only[List.getD_eq_getElem?_getD,List.getElem?_replicate];split <;> rfl⟩
theorem FillF.next{n k:Nat}{V:Nat->Prop}{bs:List Bool}(h:FillF n V k bs)(hk:k<=n){b:Bool}(hb:b=true↔V k):FillF n V (k+1) (bs.set k b):=by
 have hl:=h.len;refine⟨by rw[List.length_set];exact hl,fun i hi=>?_,fun i hi=>?_⟩
 ·rw[q5J]
  by_cases e:k=i
  ·subst e;rw[if_pos ⟨rfl,by omega⟩];exact hb
  ·rw[if_neg (fun h=>e h.1)];exact h.done i (by omega)
 ·rw[q5J,if_neg (by omega)];exact h.rest i (by omega)
theorem FillF.skip{n k:Nat}{V:Nat->Prop}{bs:List Bool}(h:FillF n V k bs)(hb:¬ V k):FillF n V (k+1) bs:=by
 refine⟨h.len,fun i hi=>?_,fun i hi=>h.rest i (by omega)⟩
 by_cases e:i=k
 ·subst e;rw[h.rest i (Nat.le_refl _)];exact⟨fun h=>(by cases h),fun h=>absurd h hb⟩
 ·exact h.done i (by omega)
structure FillB (n:Nat) (V:Nat->Prop) (k:Nat) (bs:List Bool):Prop where
 len:bs.length=n+1
 done:∀i,k<=i->i<=n->(bs.getD i false=true↔V i)
theorem FillB.next{n k:Nat}{V:Nat->Prop}{bs:List Bool}(h:FillB n V (k+1) bs)(hk:k<=n){b:Bool}(hb:b=true↔V k):FillB n V k (bs.set k b):=by
 have hl:=h.len;refine⟨by rw[List.length_set];exact hl,fun i hi hn=>?_⟩
 rw[q5J];by_cases e:k=i
 ·subst e;rw[if_pos ⟨rfl,by omega⟩];exact hb
 ·rw[if_neg (fun h=>e h.1)];exact h.done i (by omega) hn
theorem qhI(x:Int)(k:Nat)(h0:0<=x)(h1:x<256):(bits .and .u8 (x / 2 ^ k) 1 == 1)=x.toNat.testBit k:=by
 obtain⟨n,rfl⟩:∃n:Nat,x=(n:Int):=⟨x.toNat,by omega⟩
 have e:((n:Int) / 2 ^ k)=((n / 2 ^ k:Nat):Int):=by simp
 have hd:n / 2 ^ k<=n:=Nat.div_le_self _ _;rw[e];have:=u8_and_nat (n / 2 ^ k) 1 (by omega) (by decide)
 rw[show ((1:Nat):Int)=1 from rfl]at this;rw[this,Nat.and_one_is_mod,Int.toNat_natCast,Nat.testBit_eq_decide_div_mod_eq];by_cases h:n / 2 ^ k % 2=1 <;> simp[h] <;> omega
theorem q6r(m c:Nat)(d:Option Addr)(zs:List Int)(w:World)(hL:LtSl w d m c zs)(hm:m<=10000):
  Calls Tryz.prog 58 #[.agg #[.int .u8 0,.int .u8 0],.slice d m c] w (ValR m (leafV (zN zs) 0 0) w):=by
 have hmk:=qA (m+1) (by omega)
 rw[show ((m+1:Nat):Int)=(m:Int)+1 by omega]at hmk
 have hzl:(zN zs).length=m:=by rw[qz];exact hL.sl.hlen
 have HL:Hid (LtSl w d m c zs):=hL
 have HV:Hid (∀i,i<=m->((leafV (zN zs) 0 0) i↔True)):=fun i hi=>by
  simp[leafV]
 clear hL;have hbx:=qc w (.cells #[.int .u8 0,.int .u8 0] 43);have hBx:=(MapKept.heap_alloc w (.cells #[.int .u8 0,.int .u8 0] 43)).1;unfold ValR;generalize (leafV (zN zs) 0 0)=V at *;go_enter Tryz.func58,Tryz.ntmps58
 go_wp2;generalize hw1:w.alloc (.cells #[.int .u8 0,.int .u8 0] 43)=w1 at *;have hs1:w1.heap.size=w.heap.size+1:=by rw[<- hw1];simp
 clear hw1 hmk
 go_loopw [15] (fun i wr=>∃k:Nat,k<=m+1/\i=.int .i64 k/\(∃bs,Hid (ValAt wr (w.heap.size+1) bs)/\Hid (FillF m V k bs))/\Hid (wr.heap[w.heap.size]? = some (.cells #[.int .u8 0,.int .u8 0] 43 (0,0)))/\Hid (Below w.heap.size w wr)) (fun i _=>m+1 - (intOf i).toNat)
 case atStart =>
  refine⟨0,Nat.zero_le _,rfl,⟨List.replicate (m+1) false,?_,FillF.zero _ _⟩,?_,?_⟩
  ·rw[<- hs1];exact ValAt.made w1 _
  ·exact(Below.heap_alloc w1 _ _ (by omega)).trans hBx
  ·exact qd hbx (qc _ _)
 case round =>
  obtain⟨k,hk,rfl,⟨bs,HB,HF⟩,HX,HW⟩:=hrel;clear hbx hBx;have hc0:=qb HX.out 0;have hc1:=qb HX.out 1;simp at hc0 hc1
  by_cases hlt:k<m+1
  ·have hi1:=fun w'=>ql (w.heap.size+1) (m+1) k w' hlt
   have hcb:=HB.out.cell (i:=k) (by rw[HF.out.len];exact hlt)
   have hzb:=HB.out.fz k;have HST:Hid (∀b:Bool,ValAt (wr.setCell ⟨w.heap.size+1,k,none⟩ (.bool b)) (w.heap.size+1) (bs.set k b)/\(wr.setCell ⟨w.heap.size+1,k,none⟩ (.bool b)).heap[w.heap.size]? = some (.cells #[.int .u8 0,.int .u8 0] 43 (0,0))/\Below w.heap.size w (wr.setCell ⟨w.heap.size+1,k,none⟩ (.bool b))):=fun b=>⟨HB.out.set k b,(Below.heap_setCell _ _ _ _ (by dsimp only;omega)).trans HX.out,HW.out.setCell (by dsimp only;omega) _⟩
   have HVk:Hid _:=HV.out k (by omega)
   go_wp2
   go_roundw
   case rel =>
    refine⟨k+1,by omega,by go_num,⟨_,(HST.out _).1,HF.out.next (by omega) ?_⟩,(HST.out _).2.1,(HST.out _).2.2⟩
    rw[HVk.out];simp
   case measure=>simp[intOf] <;> omega
  ·obtain rfl:k=m+1:=by omega
   go_wp2;go_ret
   exact⟨_,bs,rfl,HB.out,HF.out.len,fun i hi=>HF.out.done i (by omega),HW.out,Nat.le_succ _⟩
theorem q6s(m c:Nat)(d:Option Addr)(zs:List Int)(w:World)(hL:LtSl w d m c zs)(hm:m<=10000):
  Calls Tryz.prog 58 #[.agg #[.int .u8 1,.int .u8 0],.slice d m c] w (ValR m (leafV (zN zs) 1 0) w):=by
 have hmk:=qA (m+1) (by omega)
 rw[show ((m+1:Nat):Int)=(m:Int)+1 by omega]at hmk
 have hzl:(zN zs).length=m:=by rw[qz];exact hL.sl.hlen
 have HL:Hid (LtSl w d m c zs):=hL
 have HV:Hid (∀i,i<=m->((leafV (zN zs) 1 0) i↔False)):=fun i hi=>by
  simp[leafV]
 clear hL;have hbx:=qc w (.cells #[.int .u8 1,.int .u8 0] 43);have hBx:=(MapKept.heap_alloc w (.cells #[.int .u8 1,.int .u8 0] 43)).1;unfold ValR;generalize (leafV (zN zs) 1 0)=V at *;go_enter Tryz.func58,Tryz.ntmps58
 go_wp2;generalize hw1:w.alloc (.cells #[.int .u8 1,.int .u8 0] 43)=w1 at *;have hs1:w1.heap.size=w.heap.size+1:=by rw[<- hw1];simp
 clear hw1 hmk
 go_loopw [15] (fun i wr=>∃k:Nat,k<=m+1/\i=.int .i64 k/\(∃bs,Hid (ValAt wr (w.heap.size+1) bs)/\Hid (FillF m V k bs))/\Hid (wr.heap[w.heap.size]? = some (.cells #[.int .u8 1,.int .u8 0] 43 (0,0)))/\Hid (Below w.heap.size w wr)) (fun i _=>m+1 - (intOf i).toNat)
 case atStart =>
  refine⟨0,Nat.zero_le _,rfl,⟨List.replicate (m+1) false,?_,FillF.zero _ _⟩,?_,?_⟩
  ·rw[<- hs1];exact ValAt.made w1 _
  ·exact(Below.heap_alloc w1 _ _ (by omega)).trans hBx
  ·exact qd hbx (qc _ _)
 case round =>
  obtain⟨k,hk,rfl,⟨bs,HB,HF⟩,HX,HW⟩:=hrel;clear hbx hBx;have hc0:=qb HX.out 0;have hc1:=qb HX.out 1;simp at hc0 hc1
  by_cases hlt:k<m+1
  ·have hi1:=fun w'=>ql (w.heap.size+1) (m+1) k w' hlt
   have hcb:=HB.out.cell (i:=k) (by rw[HF.out.len];exact hlt)
   have hzb:=HB.out.fz k;have HST:Hid (∀b:Bool,ValAt (wr.setCell ⟨w.heap.size+1,k,none⟩ (.bool b)) (w.heap.size+1) (bs.set k b)/\(wr.setCell ⟨w.heap.size+1,k,none⟩ (.bool b)).heap[w.heap.size]? = some (.cells #[.int .u8 1,.int .u8 0] 43 (0,0))/\Below w.heap.size w (wr.setCell ⟨w.heap.size+1,k,none⟩ (.bool b))):=fun b=>⟨HB.out.set k b,(Below.heap_setCell _ _ _ _ (by dsimp only;omega)).trans HX.out,HW.out.setCell (by dsimp only;omega) _⟩
   have HVk:Hid _:=HV.out k (by omega)
   go_wp2
   go_roundw
   case rel=>exact⟨k+1,by omega,by go_num,⟨bs,HB,HF.out.skip (by rw[HVk.out];exact id)⟩,HX,HW⟩
   case measure=>simp[intOf] <;> omega
  ·obtain rfl:k=m+1:=by omega
   go_wp2;go_ret
   exact⟨_,bs,rfl,HB.out,HF.out.len,fun i hi=>HF.out.done i (by omega),HW.out,Nat.le_succ _⟩
theorem q6t(m c p:Nat)(d:Option Addr)(zs:List Int)(w:World)(hL:LtSl w d m c zs)(hm:m<=10000)(hp:p<=7):
  Calls Tryz.prog 58 #[.agg #[.int .u8 2,.int .u8 (p:Int)],.slice d m c] w (ValR m (leafV (zN zs) 2 p) w):=by
 have hmk:=qA (m+1) (by omega)
 rw[show ((m+1:Nat):Int)=(m:Int)+1 by omega]at hmk
 have hzl:(zN zs).length=m:=by rw[qz];exact hL.sl.hlen
 have HL:Hid (LtSl w d m c zs):=hL
 have HV:Hid (∀i,i<=m->((leafV (zN zs) 2 p) i↔i<m/\((zN zs).getD i 0).testBit p=true)):=fun i hi=>by
  simp[leafV,hzl]
 clear hL;have hbx:=qc w (.cells #[.int .u8 2,.int .u8 (p:Int)] 43);have hBx:=(MapKept.heap_alloc w (.cells #[.int .u8 2,.int .u8 (p:Int)] 43)).1;unfold ValR;generalize (leafV (zN zs) 2 p)=V at *;go_enter Tryz.func58,Tryz.ntmps58
 go_wp2;generalize hw1:w.alloc (.cells #[.int .u8 2,.int .u8 (p:Int)] 43)=w1 at *;have hs1:w1.heap.size=w.heap.size+1:=by rw[<- hw1];simp
 clear hw1 hmk
 go_loopw [15] (fun i wr=>∃k:Nat,k<=m+1/\i=.int .i64 k/\(∃bs,Hid (ValAt wr (w.heap.size+1) bs)/\Hid (FillF m V k bs))/\Hid (wr.heap[w.heap.size]? = some (.cells #[.int .u8 2,.int .u8 (p:Int)] 43 (0,0)))/\Hid (Below w.heap.size w wr)) (fun i _=>m+1 - (intOf i).toNat)
 case atStart =>
  refine⟨0,Nat.zero_le _,rfl,⟨List.replicate (m+1) false,?_,FillF.zero _ _⟩,?_,?_⟩
  ·rw[<- hs1];exact ValAt.made w1 _
  ·exact(Below.heap_alloc w1 _ _ (by omega)).trans hBx
  ·exact qd hbx (qc _ _)
 case round =>
  obtain⟨k,hk,rfl,⟨bs,HB,HF⟩,HX,HW⟩:=hrel;clear hbx hBx;have hc0:=qb HX.out 0;have hc1:=qb HX.out 1;simp at hc0 hc1
  by_cases hlt:k<m+1
  ·have hi1:=fun w'=>ql (w.heap.size+1) (m+1) k w' hlt
   have hcb:=HB.out.cell (i:=k) (by rw[HF.out.len];exact hlt)
   have hzb:=HB.out.fz k;have HST:Hid (∀b:Bool,ValAt (wr.setCell ⟨w.heap.size+1,k,none⟩ (.bool b)) (w.heap.size+1) (bs.set k b)/\(wr.setCell ⟨w.heap.size+1,k,none⟩ (.bool b)).heap[w.heap.size]? = some (.cells #[.int .u8 2,.int .u8 (p:Int)] 43 (0,0))/\Below w.heap.size w (wr.setCell ⟨w.heap.size+1,k,none⟩ (.bool b))):=fun b=>⟨HB.out.set k b,(Below.heap_setCell _ _ _ _ (by dsimp only;omega)).trans HX.out,HW.out.setCell (by dsimp only;omega) _⟩
   have HVk:Hid _:=HV.out k (by omega)
   by_cases hc:k<m
   ·have hci:(k:Int)<(m:Int):=by omega
    have hLr:=HL.out.up HW.out;have hi2:=fun w'=>hLr.sl.idx m k w' hc (Nat.le_refl _)
    have hc2:=hLr.sl.cell k hc
    have hzz:0<=zs.getD k 0/\zs.getD k 0<256:=by
     have hlz:=hLr.sl.hlen;have:zs.getD k 0=zs[k]'(by omega):=by simp[List.getD_eq_getElem?_getD,show k<zs.length by omega]
     rw[this];exact hLr.ok _ (List.getElem_mem _)
    have HU:Hid _:=qhI (zs.getD k 0) p hzz.1 hzz.2
    have HZ:Hid ((zN zs).getD k 0=(zs.getD k 0).toNat):=by
     have hlz:=hLr.sl.hlen
     show _=_
     simp[zN,List.getD_eq_getElem?_getD,show k<zs.length by omega]
    generalize zs.getD k 0=z at *;generalize hr:bits BinOp.and IntKind.u8 (z / 2 ^ p) 1=r at *;have HR:Hid (bits BinOp.and IntKind.u8 (z / 2 ^ p) 1=r):=hr;clear hLr hzz;go_wp2
    go_region
    go_wp2
    go_roundw
    case rel=>exact⟨k+1,by omega,by go_num,⟨_,(HST.out _).1,HF.out.next (by omega) (by rw[HVk.out,HZ.out,<- HU.out];simp[hc])⟩,(HST.out _).2.1,Below.drew (HST.out _).2.2⟩
    case measure=>simp[intOf] <;> omega
   ·have hci:¬ (k:Int)<(m:Int):=by omega
    go_wp2
    go_region
    go_wp2
    go_roundw
    case rel=>exact⟨k+1,by omega,by go_num,⟨_,(HST.out _).1,HF.out.next (by omega) (by rw[HVk.out];simp[hc])⟩,(HST.out _).2.1,Below.drew (HST.out _).2.2⟩
    case measure=>simp[intOf] <;> omega
  ·obtain rfl:k=m+1:=by omega
   go_wp2;go_ret
   exact⟨_,bs,rfl,HB.out,HF.out.len,fun i hi=>HF.out.done i (by omega),HW.out,Nat.le_succ _⟩
theorem q6u(m c:Nat)(d:Option Addr)(zs:List Int)(w:World)(hL:LtSl w d m c zs)(hm:m<=10000):
  Calls Tryz.prog 58 #[.agg #[.int .u8 3,.int .u8 0],.slice d m c] w (ValR m (leafV (zN zs) 3 0) w):=by
 have hmk:=qA (m+1) (by omega)
 rw[show ((m+1:Nat):Int)=(m:Int)+1 by omega]at hmk
 have hzl:(zN zs).length=m:=by rw[qz];exact hL.sl.hlen
 have HL:Hid (LtSl w d m c zs):=hL
 have HV:Hid (∀i,i<=m->((leafV (zN zs) 3 0) i↔i+1=m)):=fun i hi=>by
  simp[leafV,hzl]
 clear hL;have hbx:=qc w (.cells #[.int .u8 3,.int .u8 0] 43);have hBx:=(MapKept.heap_alloc w (.cells #[.int .u8 3,.int .u8 0] 43)).1;unfold ValR;generalize (leafV (zN zs) 3 0)=V at *;go_enter Tryz.func58,Tryz.ntmps58
 go_wp2;generalize hw1:w.alloc (.cells #[.int .u8 3,.int .u8 0] 43)=w1 at *;have hs1:w1.heap.size=w.heap.size+1:=by rw[<- hw1];simp
 clear hw1 hmk
 go_loopw [15] (fun i wr=>∃k:Nat,k<=m+1/\i=.int .i64 k/\(∃bs,Hid (ValAt wr (w.heap.size+1) bs)/\Hid (FillF m V k bs))/\Hid (wr.heap[w.heap.size]? = some (.cells #[.int .u8 3,.int .u8 0] 43 (0,0)))/\Hid (Below w.heap.size w wr)) (fun i _=>m+1 - (intOf i).toNat)
 case atStart =>
  refine⟨0,Nat.zero_le _,rfl,⟨List.replicate (m+1) false,?_,FillF.zero _ _⟩,?_,?_⟩
  ·rw[<- hs1];exact ValAt.made w1 _
  ·exact(Below.heap_alloc w1 _ _ (by omega)).trans hBx
  ·exact qd hbx (qc _ _)
 case round =>
  obtain⟨k,hk,rfl,⟨bs,HB,HF⟩,HX,HW⟩:=hrel;clear hbx hBx;have hc0:=qb HX.out 0;have hc1:=qb HX.out 1;simp at hc0 hc1
  by_cases hlt:k<m+1
  ·have hi1:=fun w'=>ql (w.heap.size+1) (m+1) k w' hlt
   have hcb:=HB.out.cell (i:=k) (by rw[HF.out.len];exact hlt)
   have hzb:=HB.out.fz k;have HST:Hid (∀b:Bool,ValAt (wr.setCell ⟨w.heap.size+1,k,none⟩ (.bool b)) (w.heap.size+1) (bs.set k b)/\(wr.setCell ⟨w.heap.size+1,k,none⟩ (.bool b)).heap[w.heap.size]? = some (.cells #[.int .u8 3,.int .u8 0] 43 (0,0))/\Below w.heap.size w (wr.setCell ⟨w.heap.size+1,k,none⟩ (.bool b))):=fun b=>⟨HB.out.set k b,(Below.heap_setCell _ _ _ _ (by dsimp only;omega)).trans HX.out,HW.out.setCell (by dsimp only;omega) _⟩
   have HVk:Hid _:=HV.out k (by omega)
   by_cases hc:k+1=m
   ·obtain rfl:m=k+1:=by omega
    go_wp2
    go_roundw
    case rel =>
     refine⟨k+1,by omega,by go_num,⟨_,(HST.out _).1,HF.out.next (by omega) ?_⟩,(HST.out _).2.1,(HST.out _).2.2⟩
     rw[HVk.out];simp
    case measure=>simp[intOf] <;> omega
   ·have hci:¬ (k:Int)+1=(m:Int):=by omega
    go_wp2
    go_roundw
    case rel =>
     refine⟨k+1,by omega,by go_num,⟨_,(HST.out _).1,HF.out.next (by omega) ?_⟩,(HST.out _).2.1,(HST.out _).2.2⟩
     rw[HVk.out]
     first|(simp[hc];done)|(simp[hc];omega)
    case measure=>simp[intOf] <;> omega
  ·obtain rfl:k=m+1:=by omega
   go_wp2;go_ret
   exact⟨_,bs,rfl,HB.out,HF.out.len,fun i hi=>HF.out.done i (by omega),HW.out,Nat.le_succ _⟩
theorem q6v(m c:Nat)(d:Option Addr)(zs:List Int)(w:World)(hL:LtSl w d m c zs)(hm:m<=10000):
  Calls Tryz.prog 58 #[.agg #[.int .u8 4,.int .u8 0],.slice d m c] w (ValR m (leafV (zN zs) 4 0) w):=by
 have hmk:=qA (m+1) (by omega)
 rw[show ((m+1:Nat):Int)=(m:Int)+1 by omega]at hmk
 have hzl:(zN zs).length=m:=by rw[qz];exact hL.sl.hlen
 have HL:Hid (LtSl w d m c zs):=hL
 have HV:Hid (∀i,i<=m->((leafV (zN zs) 4 0) i↔i<m)):=fun i hi=>by
  simp[leafV,hzl]
 clear hL;have hbx:=qc w (.cells #[.int .u8 4,.int .u8 0] 43);have hBx:=(MapKept.heap_alloc w (.cells #[.int .u8 4,.int .u8 0] 43)).1;unfold ValR;generalize (leafV (zN zs) 4 0)=V at *;go_enter Tryz.func58,Tryz.ntmps58
 go_wp2;generalize hw1:w.alloc (.cells #[.int .u8 4,.int .u8 0] 43)=w1 at *;have hs1:w1.heap.size=w.heap.size+1:=by rw[<- hw1];simp
 clear hw1 hmk
 go_loopw [15] (fun i wr=>∃k:Nat,k<=m+1/\i=.int .i64 k/\(∃bs,Hid (ValAt wr (w.heap.size+1) bs)/\Hid (FillF m V k bs))/\Hid (wr.heap[w.heap.size]? = some (.cells #[.int .u8 4,.int .u8 0] 43 (0,0)))/\Hid (Below w.heap.size w wr)) (fun i _=>m+1 - (intOf i).toNat)
 case atStart =>
  refine⟨0,Nat.zero_le _,rfl,⟨List.replicate (m+1) false,?_,FillF.zero _ _⟩,?_,?_⟩
  ·rw[<- hs1];exact ValAt.made w1 _
  ·exact(Below.heap_alloc w1 _ _ (by omega)).trans hBx
  ·exact qd hbx (qc _ _)
 case round =>
  obtain⟨k,hk,rfl,⟨bs,HB,HF⟩,HX,HW⟩:=hrel;clear hbx hBx;have hc0:=qb HX.out 0;have hc1:=qb HX.out 1;simp at hc0 hc1
  by_cases hlt:k<m+1
  ·have hi1:=fun w'=>ql (w.heap.size+1) (m+1) k w' hlt
   have hcb:=HB.out.cell (i:=k) (by rw[HF.out.len];exact hlt)
   have hzb:=HB.out.fz k;have HST:Hid (∀b:Bool,ValAt (wr.setCell ⟨w.heap.size+1,k,none⟩ (.bool b)) (w.heap.size+1) (bs.set k b)/\(wr.setCell ⟨w.heap.size+1,k,none⟩ (.bool b)).heap[w.heap.size]? = some (.cells #[.int .u8 4,.int .u8 0] 43 (0,0))/\Below w.heap.size w (wr.setCell ⟨w.heap.size+1,k,none⟩ (.bool b))):=fun b=>⟨HB.out.set k b,(Below.heap_setCell _ _ _ _ (by dsimp only;omega)).trans HX.out,HW.out.setCell (by dsimp only;omega) _⟩
   have HVk:Hid _:=HV.out k (by omega)
   by_cases hc:k<m
   ·have hci:(k:Int)<(m:Int):=by omega
    go_wp2
    go_roundw
    case rel =>
     refine⟨k+1,by omega,by go_num,⟨_,(HST.out _).1,HF.out.next (by omega) ?_⟩,(HST.out _).2.1,(HST.out _).2.2⟩
     rw[HVk.out]
     first|(simp[hc];done)|(simp[hc];omega)
    case measure=>simp[intOf] <;> omega
   ·have hci:¬ (k:Int)<(m:Int):=by omega
    go_wp2
    go_roundw
    case rel =>
     refine⟨k+1,by omega,by go_num,⟨_,(HST.out _).1,HF.out.next (by omega) ?_⟩,(HST.out _).2.1,(HST.out _).2.2⟩
     rw[HVk.out]
     first|(simp[hc];done)|(simp[hc];omega)
    case measure=>simp[intOf] <;> omega
  ·obtain rfl:k=m+1:=by omega
   go_wp2;go_ret
   exact⟨_,bs,rfl,HB.out,HF.out.len,fun i hi=>HF.out.done i (by omega),HW.out,Nat.le_succ _⟩
theorem q6w(m c:Nat)(d:Option Addr)(zs:List Int)(w:World)(hL:LtSl w d m c zs)(hm:m<=10000):
  Calls Tryz.prog 58 #[.agg #[.int .u8 5,.int .u8 0],.slice d m c] w (ValR m (leafV (zN zs) 5 0) w):=by
 have hmk:=qA (m+1) (by omega)
 rw[show ((m+1:Nat):Int)=(m:Int)+1 by omega]at hmk
 have hzl:(zN zs).length=m:=by rw[qz];exact hL.sl.hlen
 have HL:Hid (LtSl w d m c zs):=hL
 have HV:Hid (∀i,i<=m->((leafV (zN zs) 5 0) i↔i=m)):=fun i hi=>by
  simp[leafV,hzl]
 clear hL;have hbx:=qc w (.cells #[.int .u8 5,.int .u8 0] 43);have hBx:=(MapKept.heap_alloc w (.cells #[.int .u8 5,.int .u8 0] 43)).1;unfold ValR;generalize (leafV (zN zs) 5 0)=V at *;go_enter Tryz.func58,Tryz.ntmps58
 go_wp2;generalize hw1:w.alloc (.cells #[.int .u8 5,.int .u8 0] 43)=w1 at *;have hs1:w1.heap.size=w.heap.size+1:=by rw[<- hw1];simp
 clear hw1 hmk
 go_loopw [15] (fun i wr=>∃k:Nat,k<=m+1/\i=.int .i64 k/\(∃bs,Hid (ValAt wr (w.heap.size+1) bs)/\Hid (FillF m V k bs))/\Hid (wr.heap[w.heap.size]? = some (.cells #[.int .u8 5,.int .u8 0] 43 (0,0)))/\Hid (Below w.heap.size w wr)) (fun i _=>m+1 - (intOf i).toNat)
 case atStart =>
  refine⟨0,Nat.zero_le _,rfl,⟨List.replicate (m+1) false,?_,FillF.zero _ _⟩,?_,?_⟩
  ·rw[<- hs1];exact ValAt.made w1 _
  ·exact(Below.heap_alloc w1 _ _ (by omega)).trans hBx
  ·exact qd hbx (qc _ _)
 case round =>
  obtain⟨k,hk,rfl,⟨bs,HB,HF⟩,HX,HW⟩:=hrel;clear hbx hBx;have hc0:=qb HX.out 0;have hc1:=qb HX.out 1;simp at hc0 hc1
  by_cases hlt:k<m+1
  ·have hi1:=fun w'=>ql (w.heap.size+1) (m+1) k w' hlt
   have hcb:=HB.out.cell (i:=k) (by rw[HF.out.len];exact hlt)
   have hzb:=HB.out.fz k;have HST:Hid (∀b:Bool,ValAt (wr.setCell ⟨w.heap.size+1,k,none⟩ (.bool b)) (w.heap.size+1) (bs.set k b)/\(wr.setCell ⟨w.heap.size+1,k,none⟩ (.bool b)).heap[w.heap.size]? = some (.cells #[.int .u8 5,.int .u8 0] 43 (0,0))/\Below w.heap.size w (wr.setCell ⟨w.heap.size+1,k,none⟩ (.bool b))):=fun b=>⟨HB.out.set k b,(Below.heap_setCell _ _ _ _ (by dsimp only;omega)).trans HX.out,HW.out.setCell (by dsimp only;omega) _⟩
   have HVk:Hid _:=HV.out k (by omega)
   by_cases hc:k=m
   ·obtain rfl:k=m:=hc
    go_wp2
    go_roundw
    case rel =>
     refine⟨k+1,by omega,by go_num,⟨_,(HST.out _).1,HF.out.next (by omega) ?_⟩,(HST.out _).2.1,(HST.out _).2.2⟩
     rw[HVk.out];simp
    case measure=>simp[intOf] <;> omega
   ·have hci:¬ (k:Int)=(m:Int):=by omega
    go_wp2
    go_roundw
    case rel =>
     refine⟨k+1,by omega,by go_num,⟨_,(HST.out _).1,HF.out.next (by omega) ?_⟩,(HST.out _).2.1,(HST.out _).2.2⟩
     rw[HVk.out]
     first|(simp[hc];done)|(simp[hc];omega)
    case measure=>simp[intOf] <;> omega
  ·obtain rfl:k=m+1:=by omega
   go_wp2;go_ret
   exact⟨_,bs,rfl,HB.out,HF.out.len,fun i hi=>HF.out.done i (by omega),HW.out,Nat.le_succ _⟩
def someP (rs:Nat->List Nat) (bv:List Bool) (i k:Nat):Prop:=∃m,m<k/\hasW (rs i) m=true/\bv.getD m false=true
def everyP (rs:Nat->List Nat) (bv:List Bool) (i k:Nat):Prop:=∀m,m<k->hasW (rs i) m=true->bv.getD m false=true
theorem qdW{rs:Nat->List Nat}{bv:List Bool}{i:Nat}:false=true↔someP rs bv i 0:=⟨fun h=>(by cases h),fun⟨m,h,_⟩=>absurd h (by omega)⟩
theorem qcQ{rs:Nat->List Nat}{bv:List Bool}{i:Nat}:true=true↔everyP rs bv i 0:=⟨fun _ m h=>absurd h (by omega),fun _=>rfl⟩
theorem qeR{rs:Nat->List Nat}{bv:List Bool}{i k:Nat}(h1:hasW (rs i) k=true)(h2:bv.getD k false=true):true=true↔someP rs bv i (k+1):=⟨fun _=>⟨k,by omega,h1,h2⟩,fun _=>rfl⟩
theorem qdy{rs:Nat->List Nat}{bv:List Bool}{i k:Nat}(h1:hasW (rs i) k=true)(h2:bv.getD k false=false):false=true↔everyP rs bv i (k+1):=⟨fun h=>(by cases h),fun h=>by have:=h k (by omega) h1;rw[h2]at this;cases this⟩
theorem qfS{rs:Nat->List Nat}{bv:List Bool}{i k:Nat}{b:Bool}(h:b=true↔someP rs bv i k)(hn:hasW (rs i) k=true->bv.getD k false=false):b=true↔someP rs bv i (k+1):=by
 rw[h]
 constructor
 ·rintro⟨m,h1,h2⟩;exact⟨m,by omega,h2⟩
 ·rintro⟨m,h1,h2,h3⟩
  by_cases e:m=k
  ·subst e;rw[hn h2]at h3;cases h3
  ·exact⟨m,by omega,h2,h3⟩
theorem qee{rs:Nat->List Nat}{bv:List Bool}{i k:Nat}{b:Bool}(h:b=true↔everyP rs bv i k)(hn:hasW (rs i) k=true->bv.getD k false=true):b=true↔everyP rs bv i (k+1):=by
 rw[h]
 constructor
 ·intro h m h1 h2
  by_cases e:m=k
  ·subst e;exact hn h2
  ·exact h m (by omega) h2
 ·intro h m h1 h2;exact h m (by omega) h2
theorem qfP{bs:List Bool}{k:Nat}(h:bs.getD k false=false):bs.set k false=bs:=by
 refine List.ext_getElem (by simp) fun i h1 h2=>?_
 by_cases e:k=i
 ·subst e
  rw[List.getD_eq_getElem?_getD,List.getElem?_eq_getElem h2]at h;simp at h
  simp[h]
 ·simp[e]
theorem q68(n g gb:Nat)(rs:Nat->List Nat)(bv:List Bool)(w:World)(hE:EndAt w g (n+1) rs)(hB:ValAt w gb bv)(hl:bv.length=n+1)(hn:n<=10000):
  Calls Tryz.prog 63 #[.slice (some ⟨g,0,none⟩) (n+1) (n+1),.slice (some ⟨gb,0,none⟩) (n+1) (n+1)] w (ValR n (fun i=>someP rs bv i (n+1)) w):=by
 have hmk:=qA (n+1) (by omega)
 have HE:Hid (EndAt w g (n+1) rs):=hE;have HVB:Hid (ValAt w gb bv):=hB;clear hE hB;have hq:∃q,n+1=q:=⟨_,rfl⟩;obtain⟨q,hq⟩:=hq;have HQ:Hid (n+1=q):=hq;rw[hq]at hmk hl ⊢;clear hq;have hqb:q<=10001:=by have:=HQ.out;omega
 go_enter Tryz.func63,Tryz.ntmps63
 go_wp2;clear hmk
 go_loopw [14] (fun i wr=>∃k:Nat,k<=q/\i=.int .i64 k/\(∃bs,Hid (ValAt wr w.heap.size bs)/\Hid (FillF n (fun i=>someP rs bv i q) k bs))/\Hid (Below w.heap.size w wr)) (fun i _=>q - (intOf i).toNat)
 case atStart=>exact⟨0,Nat.zero_le _,rfl,⟨List.replicate q false,ValAt.made w _,by have:=FillF.zero n (fun i=>someP rs bv i q);rw[HQ.out]at this;exact this⟩,qc _ _⟩
 case round =>
  obtain⟨n0,hn0,rfl,⟨bs,HB,HF⟩,HW⟩:=hrel;by_cases hnq:n0<q
  ·have hi1:=fun w'=>ql w.heap.size q n0 w' hnq
   have hbl:bs.length=q:=by rw[HF.out.len];exact HQ.out
   have hcb:=HB.out.cell (i:=n0) (by omega)
   have hzb:=HB.out.fz n0;have HB0:Hid (ValAt (wr) w.heap.size (bs.set n0 false)):=by show ValAt _ _ _;rw[qfP (HF.out.rest n0 (Nat.le_refl _))];exact HB.out
   have HW0:Hid (Below w.heap.size w (wr)):=HW;clear HB HW;go_wp2;clear hcb hzb
   go_loopw [19] (fun i wr=>∃k:Nat,k<=q/\i=.int .i64 k/\(∃bb:Bool,Hid (ValAt wr w.heap.size (bs.set n0 bb))/\Hid (bb=true↔someP rs bv n0 k))/\Hid (Below w.heap.size w wr)) (fun i _=>q - (intOf i).toNat)
   case atStart=>exact⟨0,Nat.zero_le _,rfl,⟨false,HB0,qdW⟩,HW0⟩
   case round =>
    obtain⟨k,hk,rfl,⟨bb,HB,HP⟩,HW⟩:=hrel;clear HB0 HW0;by_cases hlt:k<q
    ·have hEr:=HE.out.up HW.out
     have hVr:=HVB.out.up HW.out;have hi2:=fun w'=>ql gb q k w' hlt
     have hc2:=hVr.cell (i:=k) (by omega)
     have hi3:=fun w'=>qP g q n0 w' hnq
     have hc3:=hEr.cell (i:=n0) (by have:=HQ.out;omega)
     have hhas:=q3n (g+1+n0) (wordsN (n+1)) k (rs n0) wr (hEr.rows n0 (by have:=HQ.out;omega)) (HE.out.ok n0 (by have:=HQ.out;omega)) (q27 (by have:=HQ.out;omega)) (by omega)
     generalize wordsN (n+1)=W at *;have HN:Hid _:=qfS HP.out;have HH:Hid _:=qeR (rs:=rs) (bv:=bv) (i:=n0) (k:=k);clear hEr hVr;generalize bv.getD k false=p at *
     cases p with
     | false =>
      clear hhas;go_wp2
      go_roundw
      case rel=>exact⟨k+1,by omega,by go_num,⟨bb,HB,HN.out (fun _=>rfl)⟩,HW⟩
      case measure=>simp[intOf] <;> omega
     | true =>
      generalize hasW (rs n0) k=r at *
      go_wp2_with fail
      refine hhas.mono ?_
      rintro e w3 ⟨rfl,hb3⟩
      have HB3:Hid (ValAt w3 w.heap.size (bs.set n0 bb)):=HB.out.up hb3;have HW3:Hid (Below w.heap.size w w3):=qd HW.out hb3;clear hhas hb3 HB HW hc2 hc3
      cases r with
      | false =>
       go_wp2
       go_roundw
       case rel=>exact⟨k+1,by omega,by go_num,⟨bb,HB3,HN.out (fun h=>(by cases h))⟩,HW3⟩
       case measure=>simp[intOf] <;> omega
      | true =>
       have hcb:=HB3.out.cell (i:=n0) (by rw[List.length_set];omega)
       have hzb:=HB3.out.fz n0;have HB4:Hid _:=HB3.out.set n0 true;go_wp2
       go_roundw
       case rel=>exact⟨k+1,by omega,by go_num,⟨true,by have:=HB4.out;rw[List.set_set]at this;exact this,by have h:=HH.out;simp at h;show (_=true↔_);simp[h]⟩,HW3.out.setCell (Nat.le_refl _) _⟩
       case measure=>simp[intOf] <;> omega
    ·obtain rfl:k=q:=by omega
     go_wp2
     go_roundw
     case rel=>exact⟨n0+1,by omega,by go_num,⟨_,HB,HF.out.next (by have:=HQ.out;omega) HP.out⟩,HW⟩
     case measure=>simp[intOf] <;> omega
  ·obtain rfl:n0=q:=by omega
   go_wp2;go_ret
   unfold ValR;have e:=HQ.out;subst e;exact⟨_,bs,rfl,HB.out,HF.out.len,fun i hi=>HF.out.done i (by omega),HW.out,Nat.le_refl _⟩
theorem q5t(n g gb:Nat)(rs:Nat->List Nat)(bv:List Bool)(w:World)(hE:EndAt w g (n+1) rs)(hB:ValAt w gb bv)(hl:bv.length=n+1)(hn:n<=10000):
  Calls Tryz.prog 64 #[.slice (some ⟨g,0,none⟩) (n+1) (n+1),.slice (some ⟨gb,0,none⟩) (n+1) (n+1)] w (ValR n (fun i=>everyP rs bv i (n+1)) w):=by
 have hmk:=qA (n+1) (by omega)
 have HE:Hid (EndAt w g (n+1) rs):=hE;have HVB:Hid (ValAt w gb bv):=hB;clear hE hB;have hq:∃q,n+1=q:=⟨_,rfl⟩;obtain⟨q,hq⟩:=hq;have HQ:Hid (n+1=q):=hq;rw[hq]at hmk hl ⊢;clear hq;have hqb:q<=10001:=by have:=HQ.out;omega
 go_enter Tryz.func64,Tryz.ntmps64
 go_wp2;clear hmk
 go_loopw [14] (fun i wr=>∃k:Nat,k<=q/\i=.int .i64 k/\(∃bs,Hid (ValAt wr w.heap.size bs)/\Hid (FillF n (fun i=>everyP rs bv i q) k bs))/\Hid (Below w.heap.size w wr)) (fun i _=>q - (intOf i).toNat)
 case atStart=>exact⟨0,Nat.zero_le _,rfl,⟨List.replicate q false,ValAt.made w _,by have:=FillF.zero n (fun i=>everyP rs bv i q);rw[HQ.out]at this;exact this⟩,qc _ _⟩
 case round =>
  obtain⟨n0,hn0,rfl,⟨bs,HB,HF⟩,HW⟩:=hrel;by_cases hnq:n0<q
  ·have hi1:=fun w'=>ql w.heap.size q n0 w' hnq
   have hbl:bs.length=q:=by rw[HF.out.len];exact HQ.out
   have hcb:=HB.out.cell (i:=n0) (by omega)
   have hzb:=HB.out.fz n0;have HB0:Hid (ValAt (wr.setCell ⟨w.heap.size,n0,none⟩ (.bool true)) w.heap.size (bs.set n0 true)):=HB.out.set n0 true;have HW0:Hid (Below w.heap.size w (wr.setCell ⟨w.heap.size,n0,none⟩ (.bool true))):=HW.out.setCell (Nat.le_refl _) _;clear HB HW;go_wp2;clear hcb hzb
   go_loopw [22] (fun i wr=>∃k:Nat,k<=q/\i=.int .i64 k/\(∃bb:Bool,Hid (ValAt wr w.heap.size (bs.set n0 bb))/\Hid (bb=true↔everyP rs bv n0 k))/\Hid (Below w.heap.size w wr)) (fun i _=>q - (intOf i).toNat)
   case atStart=>exact⟨0,Nat.zero_le _,rfl,⟨true,HB0,qcQ⟩,HW0⟩
   case round =>
    obtain⟨k,hk,rfl,⟨bb,HB,HP⟩,HW⟩:=hrel;clear HB0 HW0;by_cases hlt:k<q
    ·have hEr:=HE.out.up HW.out
     have hVr:=HVB.out.up HW.out;have hi2:=fun w'=>ql gb q k w' hlt
     have hc2:=hVr.cell (i:=k) (by omega)
     have hi3:=fun w'=>qP g q n0 w' hnq
     have hc3:=hEr.cell (i:=n0) (by have:=HQ.out;omega)
     have hhas:=q3n (g+1+n0) (wordsN (n+1)) k (rs n0) wr (hEr.rows n0 (by have:=HQ.out;omega)) (HE.out.ok n0 (by have:=HQ.out;omega)) (q27 (by have:=HQ.out;omega)) (by omega)
     generalize wordsN (n+1)=W at *;have HN:Hid _:=qee HP.out;have HH:Hid _:=qdy (rs:=rs) (bv:=bv) (i:=n0) (k:=k);clear hEr hVr;generalize bv.getD k false=p at *
     cases p with
     | true =>
      clear hhas;go_wp2
      go_roundw
      case rel=>exact⟨k+1,by omega,by go_num,⟨bb,HB,HN.out (fun _=>rfl)⟩,HW⟩
      case measure=>simp[intOf] <;> omega
     | false =>
      generalize hasW (rs n0) k=r at *
      go_wp2_with fail
      refine hhas.mono ?_
      rintro e w3 ⟨rfl,hb3⟩
      have HB3:Hid (ValAt w3 w.heap.size (bs.set n0 bb)):=HB.out.up hb3;have HW3:Hid (Below w.heap.size w w3):=qd HW.out hb3;clear hhas hb3 HB HW hc2 hc3
      cases r with
      | false =>
       go_wp2
       go_roundw
       case rel=>exact⟨k+1,by omega,by go_num,⟨bb,HB3,HN.out (fun h=>(by cases h))⟩,HW3⟩
       case measure=>simp[intOf] <;> omega
      | true =>
       have hcb:=HB3.out.cell (i:=n0) (by rw[List.length_set];omega)
       have hzb:=HB3.out.fz n0;have HB4:Hid _:=HB3.out.set n0 false;go_wp2
       go_roundw
       case rel=>exact⟨k+1,by omega,by go_num,⟨false,by have:=HB4.out;rw[List.set_set]at this;exact this,by have h:=HH.out;simp at h;show (_=true↔_);simp[h]⟩,HW3.out.setCell (Nat.le_refl _) _⟩
       case measure=>simp[intOf] <;> omega
    ·obtain rfl:k=q:=by omega
     go_wp2
     go_roundw
     case rel=>exact⟨n0+1,by omega,by go_num,⟨_,HB,HF.out.next (by have:=HQ.out;omega) HP.out⟩,HW⟩
     case measure=>simp[intOf] <;> omega
  ·obtain rfl:n0=q:=by omega
   go_wp2;go_ret
   unfold ValR;have e:=HQ.out;subst e;exact⟨_,bs,rfl,HB.out,HF.out.len,fun i hi=>HF.out.done i (by omega),HW.out,Nat.le_refl _⟩
abbrev Sl:=Option Addr×Nat×Nat
def slV (s:Sl):Value:=.slice s.1 s.2.1 s.2.2
abbrev Mp:=Sl×Sl
def encS (st:List Mp):List Value:=st.flatMap fun x=>[slV x.1,slV x.2]
theorem q9C(x:Mp)(st:List Mp):encS (x::st)=slV x.1::slV x.2::encS st:=rfl
theorem q4b(xs ys:List Mp):encS (xs++ys)=encS xs++encS ys:=by simp[encS]
theorem q6W:∀st:List Mp,(encS st).length=st.length*2
 | []=>rfl
 | x::st=>by rw[q9C];simp[q6W st];omega
theorem q6V:∀(st:List Mp) (i:Nat) (h:i<st.length),(encS st)[2*i]? = some (slV st[i].1)/\(encS st)[2*i+1]? = some (slV st[i].2)
 | [],i,h=>absurd h (by simp)
 | x::st,0,_=>⟨rfl,rfl⟩
 | x::st,i+1,h=>by
  have:=q6V st i (by simpa using h)
  rw[q9C,show 2*(i+1)=2*i+1+1 by omega,show 2*i+1+1+1=(2*i+1)+1+1 by omega]
  simpa using this
theorem qf9(st:List Mp):∀u∈encS st,u.oneCell'=true:=by
 intro u hu;unfold encS at hu;obtain⟨c,_,hc⟩:=List.mem_flatMap.1 hu;simp at hc
 rcases hc with rfl|rfl <;> rfl
theorem qeG{w w':World}{base e size n:Nat}{v:Value}{xs:List Value}(h:w.ownsRow base e size v n xs)(hk:∀k,base<=k->k<w.heap.size->w'.heap[k]? = w.heap[k]?):w'.ownsRow base e size v n xs:=by
 obtain⟨hl,h⟩:=h;refine⟨hl,h.imp id ?_⟩
 rintro⟨g,cap,cur,rfl,hg,hcell,r⟩
 exact⟨g,cap,cur,rfl,hg,(hk g hg (aes hcell).1).trans hcell,r⟩
theorem qeE{w:World}{base e size n:Nat}{v:Value}{xs:List Value}(h:w.ownsRow base e size v n xs):∃a cap,v=.slice a n cap:=by
 rcases h.2 with⟨rfl,rfl⟩|⟨g,cap,cur,rfl,_⟩
 ·exact⟨none,0,rfl⟩
 ·exact⟨_,cap,rfl⟩
theorem q6i:(Tryz.prog.info? 63).map (·.size)=some 2:=by kernel_rfl
theorem qcs:(Tryz.prog.info? 63).map (fun i=>(i.zero,i.size,i.bytes))=some (some (.agg #[.slice none 0 0,.slice none 0 0]),2,48):=by kernel_rfl
structure StkAt (w:World) (b B:Nat) (st:List Mp):Prop where
 c:∃v,w.heap[b]? = some (.cells #[v] 94 (0,0))/\w.ownsRow (b+1) 63 2 v st.length (encS st)/\∀k,v.ownBlock=some k->k<B
 lt:b<B
theorem StkAt.keep{w w':World}{b B:Nat}{st:List Mp}(h:StkAt w b B st)(hk:∀k c t z,w.heap[k]? = some (.cells c t z)->(t=94\/t=63)->b<=k->k<B->w'.heap[k]? = w.heap[k]?):StkAt w' b B st:=by
 obtain⟨v,h1,h2,h3⟩:=h.c;refine⟨⟨v,(hk b _ _ _ h1 (Or.inl rfl) (Nat.le_refl _) h.lt).trans h1,?_,h3⟩,h.lt⟩
 obtain⟨hl,h⟩:=h2;refine⟨hl,h.imp id ?_⟩
 rintro⟨g,cap,cur,rfl,hg,hcell,r⟩
 exact⟨g,cap,cur,rfl,hg,(hk g _ _ _ hcell (Or.inr rfl) (by omega) (h3 g rfl)).trans hcell,r⟩
theorem StkAt.up{w w':World}{b B:Nat}{st:List Mp}(h:StkAt w b B st)(hb:Below w.heap.size w w'):StkAt w' b B st:=h.keep fun k _ _ _ hc _ _ _=>hb.block k (aes hc).1
theorem StkAt.size{w:World}{b B:Nat}{st:List Mp}(h:StkAt w b B st):StkAt w b w.heap.size st:=by
 obtain⟨v,h1,h2,h3⟩:=h.c;refine⟨⟨v,h1,h2,fun k hk=>?_⟩,(aes h1).1⟩
 rcases h2.2 with⟨rfl,_⟩|⟨g,cap,cur,rfl,_,hcell,_⟩
 ·cases hk
 ·injection hk with hk
  dsimp only at hk
  subst hk;exact(aes hcell).1
theorem qhA{w:World}{base e n:Nat}{v:Value}{st:List Mp}(h:w.ownsRow base e 2 v n (encS st))(hn:0<n):
  ∃g cap,v=.slice (some ⟨g,0,none⟩) n cap/\base<=g/\n<=cap/\cap<=maxLen/\st.length=n/\∀i (h:i<st.length),w.cell? ⟨g,2*i,none⟩=some (slV st[i].1)/\w.cell? ⟨g,2*i+1,none⟩=some (slV st[i].2):=by
 obtain⟨hl,h⟩:=h;rw[q6W]at hl;have hl':st.length=n:=by omega
 rcases h with⟨_,rfl⟩|⟨g,cap,cur,rfl,hg,hcell,hnc,hcm,hsz,htk⟩
 ·omega
 ·have key:∀j,j<n*2->w.cell? ⟨g,j,none⟩=(encS st)[j]? := fun j hj=>by
   rw[<- htk,List.getElem?_take,if_pos hj];simp[World.cell?,hcell]
  refine⟨g,cap,rfl,hg,hnc,hcm,hl',fun i hi=>⟨?_,?_⟩⟩
  ·rw[key _ (by omega)];exact(q6V st i hi).1
  ·rw[key _ (by omega)];exact(q6V st i hi).2
theorem qm(b B:Nat)(st:List Mp)(x:Mp)(w:World)(h:StkAt w b B (st++[x]))(hn:st.length<=1000000):
  Calls Tryz.prog 39 #[.pointer (some ⟨b,0,none⟩)] w fun e w'=>e=.returned (.agg #[slV x.1,slV x.2])/\StkAt w' b B st/\w.grownBy w' (some b):=by
 have hltB:=h.lt;obtain⟨v,hr,ho,hB⟩:=h.c;have hlt:b<w.heap.size:=(aes hr).1
 have HR:Hid (w.heap[b]? = some (.cells #[v] 94 (0,0))):=hr;rw[q4b,List.length_append,List.length_singleton]at ho;have HO:Hid (w.ownsRow (b+1) 63 2 v (st.length+1) (encS st++encS [x])):=ho;have ho':=ho;rw[<- q4b]at ho';obtain⟨g,cap,rfl,hg,hnc,hcm,hl',hcs⟩:=qhA ho' (by omega)
 have hc:=hcs st.length (by simp)
 simp only[List.getElem_append_right (Nat.le_refl st.length),Nat.sub_self,List.getElem_cons_zero]at hc
 obtain⟨c0,c1⟩:=hc;have hgl:=World.block_lt_of_cell? _ _ c0;have cb:w.cell? ⟨b,0,none⟩=some (.slice (some ⟨g,0,none⟩) (st.length+1) cap):=qb hr 0;have zb:w.frozen? ⟨b,0,none⟩=false:=frozen_of_row w b 0 _ _ hr;have hidx:=fun w'=>qgm Tryz.underlying94 q6i (g:=g) (cap:=cap) (n:=st.length+1) st.length w' (by omega)
 have hsl:∀w',(Instr.sliceAt 94 (.slice (some ⟨g,0,none⟩) (st.length+1) cap) none (some (.int .i64 (st.length:Int))) none).run Tryz.prog w'=.ok (.slice (some ⟨g,0,none⟩) st.length cap) w':=fun w'=>by
  have hmc:st.length<=cap:=by omega
  simp[Instr.sliceAt,Instr.slice,run_underlying Tryz.underlying94,q4c q6i,go_sem,hmc]
 have HBg:Hid (g<B):=hB g rfl
 have HFIN:Hid (∀w',w'.heap[b]? = some (.cells #[.slice (some ⟨g,0,none⟩) st.length cap] 94 (0,0))->w.grownBy w' (some b)->StkAt w' b B st):=fun w' h1 h2=>by
  refine⟨⟨_,h1,?_,fun k hk=>?_⟩,hltB⟩
  ·exact qeG (ownsRow_pop (by rw[q6W]) HO.out) fun k hb hk=>h2.block k hk (fun e=>by injection e with e;omega)
  ·injection hk with hk;dsimp only at hk;subst hk;exact HBg.out
 clear h hr ho ho' hcs hl' HO hB hcm hg hltB;obtain⟨⟨xa,xl,xc⟩,⟨ya,yl,yc⟩⟩:=x;unfold slV at *;dsimp only at *
 go_enter Tryz.func39,Tryz.ntmps39
 go_wp2
 go_region
 go_wp2
 go_region
 go_wp2;refine bodyPost_ret (v:=.agg #[.slice xa xl xc,.slice ya yl yc]) (by simp[results,Tryz.results39,go_sem]) rfl ⟨rfl,?_⟩
 have e1:w.grownBy (w.setCell ⟨b,0,none⟩ (.slice (some ⟨g,0,none⟩) st.length cap)) (some b):=⟨rfl,rfl,rfl,by simp,fun k hk hne=>Below.heap_setCell _ _ _ _ (fun e=>hne (congrArg some e))⟩
 have e2:=qd (qc (w.setCell ⟨b,0,none⟩ (.slice (some ⟨g,0,none⟩) st.length cap)) (.cells #[.slice xa xl xc,.slice ya yl yc] 63)) (qc _ (.cells #[.slice xa xl xc,.slice ya yl yc] 63));have e3:=e1.trans (c:=(((w.setCell ⟨b,0,none⟩ (.slice (some ⟨g,0,none⟩) st.length cap)).alloc (.cells #[.slice xa xl xc,.slice ya yl yc] 63)).alloc (.cells #[.slice xa xl xc,.slice ya yl yc] 63)).drew.drew) ⟨rfl,rfl,rfl,e2.size,fun k hk _=>e2.block k hk⟩
 refine⟨HFIN.out _ ?_ e3,e3⟩
 refine (e2.block b (by simp;exact hlt)).trans ?_
 rw[heap_setCell_same w b 0 _ _ _ HR.out];rfl
theorem qgh{n:Nat}{A:Nat->Prop}(i:Nat):unV n 9 A i↔i<n/\(A i\/unV n 9 A (i+1)):=by
 simp[unV]
 constructor
 ·rintro⟨j,h1,h2,h3⟩
  refine⟨by omega,?_⟩
  by_cases e:j=i
  ·subst e;exact Or.inl h3
  ·exact Or.inr ⟨j,by omega,h2,h3⟩
 ·rintro⟨h,h1|⟨j,h1,h2,h3⟩⟩
  ·exact⟨i,Nat.le_refl _,h,h1⟩
  ·exact⟨j,by omega,h2,h3⟩
theorem qgj{n:Nat}{A:Nat->Prop}{i:Nat}(hi:i<=n):unV n 10 A i↔i=n\/A i/\unV n 10 A (i+1):=by
 simp[unV]
 constructor
 ·intro h
  by_cases e:i=n
  ·exact Or.inl e
  ·exact Or.inr ⟨h i (Nat.le_refl _) (by omega),fun j h1 h2=>h j (by omega) h2⟩
 ·rintro (rfl|⟨h1,h2⟩) j j1 j2
  ·omega
  ·by_cases e:j=i
   ·subst e;exact h1
   ·exact h2 j (by omega) j2
theorem q8D(n ga:Nat)(av:List Bool)(A:Nat->Prop)(w:World)(hA:ValAt w ga av)(hl:av.length=n+1)(hv:∀i,i<=n->(av.getD i false=true↔A i))(hn:n<=10000):
  Calls Tryz.prog 59 #[.int .u8 6,.slice (some ⟨ga,0,none⟩) (n+1) (n+1)] w (ValR n (unV n 6 A) w):=by
 have hmk:=qA (n+1) (by omega)
 have en:((n+1:Nat):Int)=(n:Int)+1:=by omega
 rw[en]at hmk;have HA:Hid (ValAt w ga av):=hA;have hga:=hA.lt;have HV:Hid (∀i,i<=n->(av.getD i false=true↔A i)):=hv
 have HREC:Hid (∀i,i<=n->((unV n 6 A) i↔¬ A i)):=fun i hi=>by
  simp[unV]
 clear hA hv;generalize (unV n 6 A)=V at *;have e1:(n:Int)+1 - 1=(n:Int):=by omega
 go_enter Tryz.func59,Tryz.ntmps59
 go_wp2;clear hmk
 go_loopw [7] (fun i wr=>∃k:Nat,k<=n+1/\i=.int .i64 ((k:Int) - 1)/\(∃bs,Hid (ValAt wr w.heap.size bs)/\Hid (FillB n V k bs))/\Hid (Below w.heap.size w wr)) (fun i _=>(intOf i+1).toNat)
 case atStart=>exact⟨n+1,Nat.le_refl _,by rw[en,e1],⟨List.replicate (n+1) false,ValAt.made w _,by simp,fun i h1 h2=>absurd h1 (by omega)⟩,qc _ _⟩
 case round =>
  obtain⟨k1,hk1,rfl,⟨bs,HB,HF⟩,HW⟩:=hrel;by_cases hk0:k1=0
  ·subst hk0
   have hle:¬ (0:Int)<=((0:Nat):Int) - 1:=by omega
   go_wp2;go_ret
   unfold ValR;exact⟨_,bs,rfl,HB.out,HF.out.len,fun i hi=>HF.out.done i (Nat.zero_le _) hi,HW.out,Nat.le_refl _⟩
  ·obtain⟨k,rfl⟩:∃k,k1=k+1:=⟨k1 - 1,by omega⟩
   have hkn:k<=n:=by omega
   have em:(((k+1:Nat):Int) - 1)=(k:Int):=by omega
   rw[em];have hle:(0:Int)<=(k:Int):=by omega
   have hAr:=HA.out.up HW.out;have hi1:=fun w'=>ql ga (n+1) k w' (by omega)
   have hi2:=fun w'=>ql w.heap.size (n+1) k w' (by omega)
   have hca:=hAr.cell (i:=k) (by omega)
   have hcb:=HB.out.cell (i:=k) (by rw[HF.out.len];omega)
   have hzb:=HB.out.fz k;have HST:Hid (∀b:Bool,ValAt (wr.setCell ⟨w.heap.size,k,none⟩ (.bool b)) w.heap.size (bs.set k b)/\Below w.heap.size w (wr.setCell ⟨w.heap.size,k,none⟩ (.bool b))):=fun b=>⟨HB.out.set k b,HW.out.setCell (Nat.le_refl _) _⟩
   have HRk:Hid _:=HREC.out k hkn;have HVk:Hid _:=HV.out k hkn;clear em hk0 e1 en;generalize av.getD k false=q at *
   cases q with
   | false =>
    have HNA:Hid (¬ A k):=fun h=>(by have:=HVk.out.2 h;cases this)
    go_wp2
    go_roundw
    case rel =>
     refine⟨k,by omega,rfl,⟨_,(HST.out _).1,HF.out.next hkn ?_⟩,(HST.out _).2⟩
     rw[HRk.out];simpa using HNA.out
    case measure=>simp[intOf] <;> omega
   | true =>
    have HYA:Hid (A k):=HVk.out.1 rfl;go_wp2
    go_roundw
    case rel =>
     refine⟨k,by omega,rfl,⟨_,(HST.out _).1,HF.out.next hkn ?_⟩,(HST.out _).2⟩
     rw[HRk.out];simpa using HYA.out
    case measure=>simp[intOf] <;> omega
theorem q8E(n ga:Nat)(av:List Bool)(A:Nat->Prop)(w:World)(hA:ValAt w ga av)(hl:av.length=n+1)(hv:∀i,i<=n->(av.getD i false=true↔A i))(hn:n<=10000):
  Calls Tryz.prog 59 #[.int .u8 7,.slice (some ⟨ga,0,none⟩) (n+1) (n+1)] w (ValR n (unV n 7 A) w):=by
 have hmk:=qA (n+1) (by omega)
 have en:((n+1:Nat):Int)=(n:Int)+1:=by omega
 rw[en]at hmk;have HA:Hid (ValAt w ga av):=hA;have hga:=hA.lt;have HV:Hid (∀i,i<=n->(av.getD i false=true↔A i)):=hv
 have HREC:Hid (∀i,i<=n->((unV n 7 A) i↔i+1<n/\A (i+1))):=fun i hi=>by
  simp[unV]
 clear hA hv;generalize (unV n 7 A)=V at *;have e1:(n:Int)+1 - 1=(n:Int):=by omega
 go_enter Tryz.func59,Tryz.ntmps59
 go_wp2;clear hmk
 go_loopw [7] (fun i wr=>∃k:Nat,k<=n+1/\i=.int .i64 ((k:Int) - 1)/\(∃bs,Hid (ValAt wr w.heap.size bs)/\Hid (FillB n V k bs))/\Hid (Below w.heap.size w wr)) (fun i _=>(intOf i+1).toNat)
 case atStart=>exact⟨n+1,Nat.le_refl _,by rw[en,e1],⟨List.replicate (n+1) false,ValAt.made w _,by simp,fun i h1 h2=>absurd h1 (by omega)⟩,qc _ _⟩
 case round =>
  obtain⟨k1,hk1,rfl,⟨bs,HB,HF⟩,HW⟩:=hrel;by_cases hk0:k1=0
  ·subst hk0
   have hle:¬ (0:Int)<=((0:Nat):Int) - 1:=by omega
   go_wp2;go_ret
   unfold ValR;exact⟨_,bs,rfl,HB.out,HF.out.len,fun i hi=>HF.out.done i (Nat.zero_le _) hi,HW.out,Nat.le_refl _⟩
  ·obtain⟨k,rfl⟩:∃k,k1=k+1:=⟨k1 - 1,by omega⟩
   have hkn:k<=n:=by omega
   have em:(((k+1:Nat):Int) - 1)=(k:Int):=by omega
   rw[em];have hle:(0:Int)<=(k:Int):=by omega
   have hAr:=HA.out.up HW.out;have hi1:=fun w'=>ql ga (n+1) k w' (by omega)
   have hi2:=fun w'=>ql w.heap.size (n+1) k w' (by omega)
   have hca:=hAr.cell (i:=k) (by omega)
   have hcb:=HB.out.cell (i:=k) (by rw[HF.out.len];omega)
   have hzb:=HB.out.fz k;have HST:Hid (∀b:Bool,ValAt (wr.setCell ⟨w.heap.size,k,none⟩ (.bool b)) w.heap.size (bs.set k b)/\Below w.heap.size w (wr.setCell ⟨w.heap.size,k,none⟩ (.bool b))):=fun b=>⟨HB.out.set k b,HW.out.setCell (Nat.le_refl _) _⟩
   have HRk:Hid _:=HREC.out k hkn;have HVk:Hid _:=HV.out k hkn;clear em hk0 e1 en;by_cases hc:k+1<n
   ·have hci:(k:Int)+1<(n:Int):=by omega
    have hj1:=fun w'=>ql ga (n+1) (k+1) w' (by omega)
    rw[show ((k+1:Nat):Int)=(k:Int)+1 by omega]at hj1
    have hcj:=hAr.cell (i:=k+1) (by omega)
    have HVj:Hid _:=HV.out (k+1) (by omega)
    generalize av.getD (k+1) false=q at *
    cases q with
    | false =>
     go_wp2
     go_roundw
     case rel =>
      refine⟨k,by omega,rfl,⟨_,(HST.out _).1,HF.out.next hkn ?_⟩,(HST.out _).2⟩
      rw[HRk.out];simp[hc];intro h;have:=HVj.out.2 h;cases this
     case measure=>simp[intOf] <;> omega
    | true =>
     go_wp2
     go_roundw
     case rel =>
      refine⟨k,by omega,rfl,⟨_,(HST.out _).1,HF.out.next hkn ?_⟩,(HST.out _).2⟩
      rw[HRk.out];simp[hc,HVj.out.1 rfl]
     case measure=>simp[intOf] <;> omega
   ·have hci:¬ (k:Int)+1<(n:Int):=by omega
    go_wp2
    go_roundw
    case rel =>
     refine⟨k,by omega,rfl,⟨_,(HST.out _).1,HF.out.next hkn ?_⟩,(HST.out _).2⟩
     rw[HRk.out];simp[hc]
    case measure=>simp[intOf] <;> omega
theorem q8F(n ga:Nat)(av:List Bool)(A:Nat->Prop)(w:World)(hA:ValAt w ga av)(hl:av.length=n+1)(hv:∀i,i<=n->(av.getD i false=true↔A i))(hn:n<=10000):
  Calls Tryz.prog 59 #[.int .u8 8,.slice (some ⟨ga,0,none⟩) (n+1) (n+1)] w (ValR n (unV n 8 A) w):=by
 have hmk:=qA (n+1) (by omega)
 have en:((n+1:Nat):Int)=(n:Int)+1:=by omega
 rw[en]at hmk;have HA:Hid (ValAt w ga av):=hA;have hga:=hA.lt;have HV:Hid (∀i,i<=n->(av.getD i false=true↔A i)):=hv
 have HREC:Hid (∀i,i<=n->((unV n 8 A) i↔n<=i+1\/A (i+1))):=fun i hi=>by
  simp only[unV,if_neg (show ¬ (8=6) by decide),if_neg (show ¬ (8=7) by decide),if_true];constructor
  ·intro h;by_cases hc:i+1<n
   ·exact Or.inr (h hc)
   ·exact Or.inl (by omega)
  ·rintro (h|h) hc
   ·omega
   ·exact h
 clear hA hv;generalize (unV n 8 A)=V at *;have e1:(n:Int)+1 - 1=(n:Int):=by omega
 go_enter Tryz.func59,Tryz.ntmps59
 go_wp2;clear hmk
 go_loopw [7] (fun i wr=>∃k:Nat,k<=n+1/\i=.int .i64 ((k:Int) - 1)/\(∃bs,Hid (ValAt wr w.heap.size bs)/\Hid (FillB n V k bs))/\Hid (Below w.heap.size w wr)) (fun i _=>(intOf i+1).toNat)
 case atStart=>exact⟨n+1,Nat.le_refl _,by rw[en,e1],⟨List.replicate (n+1) false,ValAt.made w _,by simp,fun i h1 h2=>absurd h1 (by omega)⟩,qc _ _⟩
 case round =>
  obtain⟨k1,hk1,rfl,⟨bs,HB,HF⟩,HW⟩:=hrel;by_cases hk0:k1=0
  ·subst hk0
   have hle:¬ (0:Int)<=((0:Nat):Int) - 1:=by omega
   go_wp2;go_ret
   unfold ValR;exact⟨_,bs,rfl,HB.out,HF.out.len,fun i hi=>HF.out.done i (Nat.zero_le _) hi,HW.out,Nat.le_refl _⟩
  ·obtain⟨k,rfl⟩:∃k,k1=k+1:=⟨k1 - 1,by omega⟩
   have hkn:k<=n:=by omega
   have em:(((k+1:Nat):Int) - 1)=(k:Int):=by omega
   rw[em];have hle:(0:Int)<=(k:Int):=by omega
   have hAr:=HA.out.up HW.out;have hi1:=fun w'=>ql ga (n+1) k w' (by omega)
   have hi2:=fun w'=>ql w.heap.size (n+1) k w' (by omega)
   have hca:=hAr.cell (i:=k) (by omega)
   have hcb:=HB.out.cell (i:=k) (by rw[HF.out.len];omega)
   have hzb:=HB.out.fz k;have HST:Hid (∀b:Bool,ValAt (wr.setCell ⟨w.heap.size,k,none⟩ (.bool b)) w.heap.size (bs.set k b)/\Below w.heap.size w (wr.setCell ⟨w.heap.size,k,none⟩ (.bool b))):=fun b=>⟨HB.out.set k b,HW.out.setCell (Nat.le_refl _) _⟩
   have HRk:Hid _:=HREC.out k hkn;have HVk:Hid _:=HV.out k hkn;clear em hk0 e1 en;by_cases hc:k+1<n
   ·have hci:¬ (n:Int)<=(k:Int)+1:=by omega
    have hj1:=fun w'=>ql ga (n+1) (k+1) w' (by omega)
    rw[show ((k+1:Nat):Int)=(k:Int)+1 by omega]at hj1
    have hcj:=hAr.cell (i:=k+1) (by omega)
    have HVj:Hid _:=HV.out (k+1) (by omega)
    generalize av.getD (k+1) false=q at *
    cases q with
    | false =>
     go_wp2
     go_roundw
     case rel =>
      refine⟨k,by omega,rfl,⟨_,(HST.out _).1,HF.out.next hkn ?_⟩,(HST.out _).2⟩
      rw[HRk.out];simp;exact⟨by omega,fun h=>by have:=HVj.out.2 h;cases this⟩
     case measure=>simp[intOf] <;> omega
    | true =>
     go_wp2
     go_roundw
     case rel =>
      refine⟨k,by omega,rfl,⟨_,(HST.out _).1,HF.out.next hkn ?_⟩,(HST.out _).2⟩
      rw[HRk.out];simp[HVj.out.1 rfl]
     case measure=>simp[intOf] <;> omega
   ·have hci:(n:Int)<=(k:Int)+1:=by omega
    go_wp2
    go_roundw
    case rel =>
     refine⟨k,by omega,rfl,⟨_,(HST.out _).1,HF.out.next hkn ?_⟩,(HST.out _).2⟩
     rw[HRk.out];simp;exact Or.inl (by omega)
    case measure=>simp[intOf] <;> omega
theorem q8G(n ga:Nat)(av:List Bool)(A:Nat->Prop)(w:World)(hA:ValAt w ga av)(hl:av.length=n+1)(hv:∀i,i<=n->(av.getD i false=true↔A i))(hn:n<=10000):
  Calls Tryz.prog 59 #[.int .u8 9,.slice (some ⟨ga,0,none⟩) (n+1) (n+1)] w (ValR n (unV n 9 A) w):=by
 have hmk:=qA (n+1) (by omega)
 have en:((n+1:Nat):Int)=(n:Int)+1:=by omega
 rw[en]at hmk;have HA:Hid (ValAt w ga av):=hA;have hga:=hA.lt;have HV:Hid (∀i,i<=n->(av.getD i false=true↔A i)):=hv
 have HREC:Hid (∀i,i<=n->((unV n 9 A) i↔i<n/\(A i\/unV n 9 A (i+1)))):=fun i hi=>by
  exact qgh i
 clear hA hv;generalize (unV n 9 A)=V at *;have e1:(n:Int)+1 - 1=(n:Int):=by omega
 go_enter Tryz.func59,Tryz.ntmps59
 go_wp2;clear hmk
 go_loopw [7] (fun i wr=>∃k:Nat,k<=n+1/\i=.int .i64 ((k:Int) - 1)/\(∃bs,Hid (ValAt wr w.heap.size bs)/\Hid (FillB n V k bs))/\Hid (Below w.heap.size w wr)) (fun i _=>(intOf i+1).toNat)
 case atStart=>exact⟨n+1,Nat.le_refl _,by rw[en,e1],⟨List.replicate (n+1) false,ValAt.made w _,by simp,fun i h1 h2=>absurd h1 (by omega)⟩,qc _ _⟩
 case round =>
  obtain⟨k1,hk1,rfl,⟨bs,HB,HF⟩,HW⟩:=hrel;by_cases hk0:k1=0
  ·subst hk0
   have hle:¬ (0:Int)<=((0:Nat):Int) - 1:=by omega
   go_wp2;go_ret
   unfold ValR;exact⟨_,bs,rfl,HB.out,HF.out.len,fun i hi=>HF.out.done i (Nat.zero_le _) hi,HW.out,Nat.le_refl _⟩
  ·obtain⟨k,rfl⟩:∃k,k1=k+1:=⟨k1 - 1,by omega⟩
   have hkn:k<=n:=by omega
   have em:(((k+1:Nat):Int) - 1)=(k:Int):=by omega
   rw[em];have hle:(0:Int)<=(k:Int):=by omega
   have hAr:=HA.out.up HW.out;have hi1:=fun w'=>ql ga (n+1) k w' (by omega)
   have hi2:=fun w'=>ql w.heap.size (n+1) k w' (by omega)
   have hca:=hAr.cell (i:=k) (by omega)
   have hcb:=HB.out.cell (i:=k) (by rw[HF.out.len];omega)
   have hzb:=HB.out.fz k;have HST:Hid (∀b:Bool,ValAt (wr.setCell ⟨w.heap.size,k,none⟩ (.bool b)) w.heap.size (bs.set k b)/\Below w.heap.size w (wr.setCell ⟨w.heap.size,k,none⟩ (.bool b))):=fun b=>⟨HB.out.set k b,HW.out.setCell (Nat.le_refl _) _⟩
   have HRk:Hid _:=HREC.out k hkn;have HVk:Hid _:=HV.out k hkn;clear em hk0 e1 en;by_cases hc:k<n
   ·have hci:(k:Int)<(n:Int):=by omega
    have hj1:=fun w'=>ql w.heap.size (n+1) (k+1) w' (by omega)
    rw[show ((k+1:Nat):Int)=(k:Int)+1 by omega]at hj1
    have hcj:=HB.out.cell (i:=k+1) (by rw[HF.out.len];omega)
    have HVj:Hid _:=HF.out.done (k+1) (Nat.le_refl _) (by omega)
    generalize av.getD k false=q at *;generalize bs.getD (k+1) false=r at *
    cases q with
    | false =>
     cases r with
     | false =>
      go_wp2
      go_roundw
      case rel =>
       refine⟨k,by omega,rfl,⟨_,(HST.out _).1,HF.out.next hkn ?_⟩,(HST.out _).2⟩
       rw[HRk.out];simp;intro _;exact⟨fun h=>(by have:=HVk.out.2 h;cases this),fun h=>(by have:=HVj.out.2 h;cases this)⟩
      case measure=>simp[intOf] <;> omega
     | true =>
      go_wp2
      go_roundw
      case rel =>
       refine⟨k,by omega,rfl,⟨_,(HST.out _).1,HF.out.next hkn ?_⟩,(HST.out _).2⟩
       rw[HRk.out];simp[hc];exact Or.inr (HVj.out.1 rfl)
      case measure=>simp[intOf] <;> omega
    | true =>
     go_wp2
     go_roundw
     case rel =>
      refine⟨k,by omega,rfl,⟨_,(HST.out _).1,HF.out.next hkn ?_⟩,(HST.out _).2⟩
      rw[HRk.out];simp[hc];exact Or.inl (HVk.out.1 rfl)
     case measure=>simp[intOf] <;> omega
   ·have hci:¬ (k:Int)<(n:Int):=by omega
    go_wp2
    go_roundw
    case rel =>
     refine⟨k,by omega,rfl,⟨_,(HST.out _).1,HF.out.next hkn ?_⟩,(HST.out _).2⟩
     rw[HRk.out];simp[hc]
    case measure=>simp[intOf] <;> omega
theorem q7r(n ga:Nat)(av:List Bool)(A:Nat->Prop)(w:World)(hA:ValAt w ga av)(hl:av.length=n+1)(hv:∀i,i<=n->(av.getD i false=true↔A i))(hn:n<=10000):
  Calls Tryz.prog 59 #[.int .u8 10,.slice (some ⟨ga,0,none⟩) (n+1) (n+1)] w (ValR n (unV n 10 A) w):=by
 have hmk:=qA (n+1) (by omega)
 have en:((n+1:Nat):Int)=(n:Int)+1:=by omega
 rw[en]at hmk;have HA:Hid (ValAt w ga av):=hA;have hga:=hA.lt;have HV:Hid (∀i,i<=n->(av.getD i false=true↔A i)):=hv
 have HREC:Hid (∀i,i<=n->((unV n 10 A) i↔i=n\/A i/\unV n 10 A (i+1))):=fun i hi=>by
  exact qgj hi
 clear hA hv;generalize (unV n 10 A)=V at *;have e1:(n:Int)+1 - 1=(n:Int):=by omega
 go_enter Tryz.func59,Tryz.ntmps59
 go_wp2;clear hmk
 go_loopw [7] (fun i wr=>∃k:Nat,k<=n+1/\i=.int .i64 ((k:Int) - 1)/\(∃bs,Hid (ValAt wr w.heap.size bs)/\Hid (FillB n V k bs))/\Hid (Below w.heap.size w wr)) (fun i _=>(intOf i+1).toNat)
 case atStart=>exact⟨n+1,Nat.le_refl _,by rw[en,e1],⟨List.replicate (n+1) false,ValAt.made w _,by simp,fun i h1 h2=>absurd h1 (by omega)⟩,qc _ _⟩
 case round =>
  obtain⟨k1,hk1,rfl,⟨bs,HB,HF⟩,HW⟩:=hrel;by_cases hk0:k1=0
  ·subst hk0
   have hle:¬ (0:Int)<=((0:Nat):Int) - 1:=by omega
   go_wp2;go_ret
   unfold ValR;exact⟨_,bs,rfl,HB.out,HF.out.len,fun i hi=>HF.out.done i (Nat.zero_le _) hi,HW.out,Nat.le_refl _⟩
  ·obtain⟨k,rfl⟩:∃k,k1=k+1:=⟨k1 - 1,by omega⟩
   have hkn:k<=n:=by omega
   have em:(((k+1:Nat):Int) - 1)=(k:Int):=by omega
   rw[em];have hle:(0:Int)<=(k:Int):=by omega
   have hAr:=HA.out.up HW.out;have hi1:=fun w'=>ql ga (n+1) k w' (by omega)
   have hi2:=fun w'=>ql w.heap.size (n+1) k w' (by omega)
   have hca:=hAr.cell (i:=k) (by omega)
   have hcb:=HB.out.cell (i:=k) (by rw[HF.out.len];omega)
   have hzb:=HB.out.fz k;have HST:Hid (∀b:Bool,ValAt (wr.setCell ⟨w.heap.size,k,none⟩ (.bool b)) w.heap.size (bs.set k b)/\Below w.heap.size w (wr.setCell ⟨w.heap.size,k,none⟩ (.bool b))):=fun b=>⟨HB.out.set k b,HW.out.setCell (Nat.le_refl _) _⟩
   have HRk:Hid _:=HREC.out k hkn;have HVk:Hid _:=HV.out k hkn;clear em hk0 e1 en;by_cases hc:k=n
   ·subst hc
    go_wp2
    go_roundw
    case rel =>
     refine⟨k,by omega,rfl,⟨_,(HST.out _).1,HF.out.next hkn ?_⟩,(HST.out _).2⟩
     rw[HRk.out];simp
    case measure=>simp[intOf] <;> omega
   ·have hci:¬ (k:Int)=(n:Int):=by omega
    have hj1:=fun w'=>ql w.heap.size (n+1) (k+1) w' (by omega)
    rw[show ((k+1:Nat):Int)=(k:Int)+1 by omega]at hj1
    have hcj:=HB.out.cell (i:=k+1) (by rw[HF.out.len];omega)
    have HVj:Hid _:=HF.out.done (k+1) (Nat.le_refl _) (by omega)
    generalize av.getD k false=q at *;generalize bs.getD (k+1) false=r at *
    cases q with
    | false =>
     go_wp2
     go_roundw
     case rel =>
      refine⟨k,by omega,rfl,⟨_,(HST.out _).1,HF.out.next hkn ?_⟩,(HST.out _).2⟩
      rw[HRk.out];simp[hc,hci];intro h;have:=HVk.out.2 h;cases this
     case measure=>simp[intOf] <;> omega
    | true =>
     cases r with
     | false =>
      go_wp2
      go_roundw
      case rel =>
       refine⟨k,by omega,rfl,⟨_,(HST.out _).1,HF.out.next hkn ?_⟩,(HST.out _).2⟩
       rw[HRk.out];simp[hc,hci];intro _ h;have:=HVj.out.2 h;cases this
      case measure=>simp[intOf] <;> omega
     | true =>
      go_wp2
      go_roundw
      case rel =>
       refine⟨k,by omega,rfl,⟨_,(HST.out _).1,HF.out.next hkn ?_⟩,(HST.out _).2⟩
       rw[HRk.out];simp[hc];exact⟨HVk.out.1 rfl,HVj.out.1 rfl⟩
      case measure=>simp[intOf] <;> omega
def KeepT (G:Nat) (w w':World):Prop:=∀k c t z,w.heap[k]? = some (.cells c t z)->(t=4\/((t=26\/t=46)/\k<G))->w'.heap[k]? = w.heap[k]?
theorem KeepT.trans{G:Nat}{a b c:World}(h:KeepT G a b)(k:KeepT G b c):KeepT G a c:=fun i x t z hc ht=>by
 have e:=h i x t z hc ht;exact(k i x t z (e.trans hc) ht).trans e
theorem KeepT.of_below{G:Nat}{w w':World}(h:Below w.heap.size w w'):KeepT G w w':=fun k _ _ _ hc _=>h.block k (aes hc).1
theorem KeepT.of_grown{G j:Nat}{w w':World}(h:w.grownBy w' (some j)){c0:Array Value}{t0:TypeId}{z0:Nat×Nat}(hj:w.heap[j]? = some (.cells c0 t0 z0))(h1:t0≠4)(h2:t0≠26)(h3:t0≠46):KeepT G w w':=fun k c t z hc ht =>
 h.block k (aes hc).1 fun e=>by
  injection e with e;subst e;rw[hj]at hc;injection hc with hc;injection hc with _ hc _;subst hc;rcases ht with ht|⟨ht|ht,_⟩
  ·exact h1 ht
  ·exact h2 ht
  ·exact h3 ht
theorem KeepT.of_only{G:Nat}{w w':World}(h:Only G w w'):KeepT G w w':=fun k c t z hc ht=>by
 refine h.block k (aes hc).1 ?_
 rcases ht with ht|⟨_,ht⟩
 ·refine Or.inr fun c' z' e=>?_
  rw[hc]at e;injection e with e;injection e with _ e _;subst ht;exact absurd e (by decide)
 ·exact Or.inl ht
theorem KeepT.mono{G G':Nat}{w w':World}(h:KeepT G w w')(hg:G'<=G):KeepT G' w w':=fun k c t z hc ht=>h k c t z hc (ht.imp id fun⟨a,b⟩=>⟨a,by omega⟩)
def PartOk (w:World) (n b:Nat) (x:Sk) (p:Mp) (lo hi:Nat):Prop :=
 (x.1=true->∃g rs,p.2=(some ⟨g,0,none⟩,n+1,n+1)/\EndAt w g (n+1) rs/\(∀i,i<=n->∀k,hasW (rs i) k=true↔x.2.2 i k)/\lo<=g/\g+n+1<hi) /\
 (x.1=false->∃g bs,p.1=(some ⟨g,0,none⟩,n+1,n+1)/\ValAt w g bs/\bs.length=n+1/\(∀i,i<=n->(bs.getD i false=true↔x.2.1 i))/\b<=g)
def Parts (w:World) (n b:Nat):Nat->List (Sk×Mp)->Prop
 | hi,[]=>b<hi
 | hi,(x,p)::r=>∃lo,PartOk w n b x p lo hi/\lo<=hi/\Parts w n b lo r
theorem Parts.low{w:World}{n b:Nat}:∀{l:List (Sk×Mp)} {hi:Nat},Parts w n b hi l->b<hi
 | [],_,h=>h
 | (_,_)::_,_,⟨_,_,h1,h2⟩=>Nat.lt_of_lt_of_le (Parts.low h2) h1
theorem Parts.mono{w:World}{n b hi hi':Nat}:∀{l:List (Sk×Mp)},Parts w n b hi l->hi<=hi'->Parts w n b hi' l
 | [],h,hh=>Nat.lt_of_lt_of_le h hh
 | (_,_)::_,⟨lo,h0,h1,h2⟩,hh=>⟨lo,⟨fun hx=>by
   obtain⟨g,rs,a,b,c,d,e⟩:=h0.1 hx;exact⟨g,rs,a,b,c,d,by omega⟩,h0.2⟩,by omega,h2⟩
theorem PartOk.keep{w w':World}{n b lo hi:Nat}{x:Sk}{p:Mp}(h:PartOk w n b x p lo hi)(hk:KeepT hi w w'):PartOk w' n b x p lo hi:=by
 refine⟨fun hx=>?_,fun hx=>?_⟩
 ·obtain⟨g,rs,a,b,c,d,e⟩:=h.1 hx
  exact⟨g,rs,a,b.keep fun k c t z hc ht h1 h2=>hk k c t z hc (Or.inr ⟨ht,by omega⟩),c,d,e⟩
 ·obtain⟨g,bs,a,b,c⟩:=h.2 hx
  exact⟨g,bs,a,(hk g _ _ _ b (Or.inl rfl)).trans b,c⟩
theorem Parts.keep{w w':World}{n b:Nat}:∀{l:List (Sk×Mp)} {hi:Nat},Parts w n b hi l->KeepT hi w w'->Parts w' n b hi l
 | [],_,h,_=>h
 | (_,_)::_,_,⟨lo,h0,h1,h2⟩,hk=>⟨lo,h0.keep hk,h1,Parts.keep h2 (hk.mono h1)⟩
def WorkR (n b:Nat) (w:World) (x:Sk) (rest:List (Sk×Mp)) (e:Ending) (w':World):Prop :=
 ∃p:Mp,e=.returned (.agg #[slV p.1,slV p.2])/\StkAt w' b w.heap.size ((rest.map (·.2)).reverse)/\Parts w' n b w'.heap.size ((x,p)::rest)/\Below b w w'
theorem StkAt.fin{w1 w2 wf:World}{b B r:Nat}{st:List Mp}(h:StkAt w1 b B st)(hb:Below w1.heap.size w1 w2)(hg:w2.grownBy wf (some r))(hr:B<=r):StkAt wf b B st :=
 (h.up hb).keep fun k _ _ _ hc _ _ hk=>hg.block k (aes hc).1 (fun e=>by injection e with e;omega)
theorem q1o{G:Nat}{w1 w2 wf:World}{r:Nat}(hb:Below w1.heap.size w1 w2)(hg:w2.grownBy wf (some r)){c:Array Value}{z:Nat×Nat}(hr:w1.heap[r]? = some (.cells c 63 z)):KeepT G w1 wf :=
 (KeepT.of_below hb).trans (KeepT.of_grown hg ((hb.block r (aes hr).1).trans hr) (by decide) (by decide) (by decide))
theorem q1w{w1 w2 wf:World}{n b g lo hi r:Nat}{bs:List Bool}{x:Sk}{q:Sl}(hx:x.1=false)(hV:ValAt w2 g bs)(hl:bs.length=n+1)(hv:∀i,i<=n->(bs.getD i false=true↔x.2.1 i))(hb:Below w1.heap.size w1 w2)(hg:w2.grownBy wf (some r)){c:Array Value}{z:Nat×Nat}(hr:w1.heap[r]? = some (.cells c 63 z))(hgb:b<=g):PartOk wf n b x ((some ⟨g,0,none⟩,n+1,n+1),q) lo hi:=by
 refine⟨fun h=>(by rw[hx]at h;cases h),fun _=>⟨g,bs,rfl,?_,hl,hv,hgb⟩⟩
 exact(KeepT.of_grown (G:=0) hg ((hb.block r (aes hr).1).trans hr) (by decide) (by decide) (by decide) g _ _ _ hV (Or.inl rfl)).trans hV
theorem qfA{w1 w2 wf:World}{n b g lo r:Nat}{rs:Nat->List Nat}{x:Sk}{q:Sl}(hx:x.1=true)(hE:EndAt w2 g (n+1) rs)(hv:∀i,i<=n->∀k,hasW (rs i) k=true↔x.2.2 i k)(hlo:lo<=g)(hb:Below w1.heap.size w1 w2)(hg:w2.grownBy wf (some r)){c:Array Value}{z:Nat×Nat}(hr:w1.heap[r]? = some (.cells c 63 z)):PartOk wf n b x (q,(some ⟨g,0,none⟩,n+1,n+1)) lo wf.heap.size:=by
 refine⟨fun _=>⟨g,rs,rfl,?_,hv,hlo,?_⟩,fun h=>(by rw[hx]at h;cases h)⟩
 ·have hK:=KeepT.of_grown (G:=wf.heap.size) hg ((hb.block r (aes hr).1).trans hr) (by decide) (by decide) (by decide)
  exact hE.keep fun k c t z hc ht _ _=>hK k c t z hc (Or.inr ⟨ht,Nat.lt_of_lt_of_le (aes hc).1 hg.size⟩)
 ·have:=hE.lt
  have:=hg.size
  omega
theorem qh(w:World)(r:Nat)(u v:Value):w.grownBy ((w.setCell ⟨r,0,none⟩ u).setCell ⟨r,1,none⟩ v) (some r) :=
 ⟨rfl,rfl,rfl,by simp[World.setCell],fun k hk hne=>(Below.heap_setCell _ _ _ _ (fun e=>hne (congrArg some e))).trans (Below.heap_setCell _ _ _ _ (fun e=>hne (congrArg some e)))⟩
theorem qt{w:World}{r:Nat}{a0 a1:Value}{T:TypeId}(hr:w.heap[r]? = some (.cells #[a0,a1] T (0,0)))(u v:Value):(w.setCell ⟨r,0,none⟩ u).cell? ⟨r,0,none⟩=some u/\((w.setCell ⟨r,0,none⟩ u).setCell ⟨r,1,none⟩ v).cell? ⟨r,1,none⟩=some v/\((w.setCell ⟨r,0,none⟩ u).setCell ⟨r,1,none⟩ v).cell? ⟨r,0,none⟩=some u:=by
 have h1:=heap_setCell_same w r 0 _ T u hr;have h2:=heap_setCell_same _ r 1 _ T v h1;simp[World.cell?,h1,h2]
theorem q1Y(u v:Value)(w:World):(Instr.field 63 (.agg #[u,v]) 0).run Tryz.prog w=.ok u w:=by
 simp[Instr.field,asAgg,run_underlying Tryz.underlying63,go_sem,Result.andThen]
theorem qe0(u v:Value)(w:World):(Instr.field 63 (.agg #[u,v]) 1).run Tryz.prog w=.ok v w:=by
 simp[Instr.field,asAgg,run_underlying Tryz.underlying63,go_sem,Result.andThen]
theorem qW{w w3:World}{b r:Nat}(h:Below b w w3)(hr:b<=r)(u v:Value):Below b w ((w3.setCell ⟨r,0,none⟩ u).setCell ⟨r,1,none⟩ v):=(h.setCell hr _).setCell hr _
end Go.Proofs.YtekeaodpdcnfjaaGreatDoor
