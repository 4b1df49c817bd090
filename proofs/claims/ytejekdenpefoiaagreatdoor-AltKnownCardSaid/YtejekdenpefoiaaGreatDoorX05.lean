/- Texts of the proof, put together: what it uses. -/
import Derived.Deep.RegionLaw
import Derived.Deep.DeepCutAuto
import Derived.Deep.RegionHeld3
import Derived.Laws.BytesString
import Derived.Laws.IdiomStrings
import Derived.WalkSmall
import Derived.OwnWalk
import Derived.Test.YtejekdenpefoiaaGreatDoorX00
import Derived.Test.YtejekdenpefoiaaGreatDoorX01
import Derived.Test.YtejekdenpefoiaaGreatDoorX02
import Derived.Test.YtejekdenpefoiaaGreatDoorX03
set_option maxRecDepth 100000
set_option maxHeartbeats 16000000
namespace Go.Proofs.YtejekdenpefoiaaGreatDoor
open Go.RowKit Go.Maps
def itO (x:It):Obj:=.cells #[.int .u8 (x.op:Int),.int .u8 (x.p:Int),.int .i64 x.a,.int .i64 x.b] 124 (0,0)
theorem qal{w:World}{o:Oper}{a:Act}{K:Act→World→Prop}{Q:Exit→Act→World→Prop}(s x:Operand)
  (ho:o.op=.call { callee:=.builtin .append,args:=#[s,x],argTypes:=#[72,72] })
  (v:Value) (n:Nat) (items:List It) (y:It) (g:Nat) (hs:a.eval s=v) (hx:a.eval x=.slice (some ⟨g,0,none⟩) 1 1) (hown:w.ownsRow 0 124 4 v n (encI items))
  (hB:w.heap[g]? = some (itO y)) (hn:n≤100000000)
  (h:∀ v' w',w'.ownsRow 0 124 4 v' (n+1) (encI (items++[y]))→w.grownBy w' v.ownBlock→(v'.ownBlock=v.ownBlock∨v'.ownBlock=some w.heap.size)→K (a.put o.dst v') w'):o.wp Tryz.prog a w K Q:=by
 obtain ⟨i,hi,hz0,hz1,hz2⟩:=info_parts q7D
 obtain ⟨v',w',hr,h2,h3,_,h5⟩:=run_append_own_at (P:=Tryz.prog) w 0 72 o.type 124 i _ 4 24 Tryz.underlying72 hi hz0 hz1 hz2 rfl (by decide) v n _ hown ⟨g,0,none⟩ 1 1 (encI [y]) rfl (fun j u hj=>by
  rw[qj,Nat.zero_add,qb hB]
  simpa [encI] using hj) (q8U y) (by unfold maxLen;omega) (by omega) (Nat.zero_le _)
 unfold Oper.wp execOp
 simp only[ho,resolve,invoke,builtin,Sem.run_bind,Sem.run_pure,Result.andThen_ok,List.map_toArray,List.map_cons,List.map_nil,hs,hx,hr]
 exact h v' w' (by rw[q5e];exact h2) h3 h5
theorem q4f{w:World}{ops:Array Oper}{o:Oper}{a:Act}{K:Act→World→Prop}{Q:Exit→Act→World→Prop}{E:Prop}(hw:Region.wanted o (yielded ops a.tmps)=true)(s x:Operand)
  (ho:o.op=.call { callee:=.builtin .append,args:=#[s,x],argTypes:=#[72,72] })
  (v:Value) (n:Nat) (items:List It) (y:It) (g:Nat) (hs:a.eval s=v) (hx:a.eval x=.slice (some ⟨g,0,none⟩) 1 1) (hown:w.ownsRow 0 124 4 v n (encI items))
  (hB:w.heap[g]? = some (itO y)) (hn:n≤100000000)
  (h:∀ v' w',w'.ownsRow 0 124 4 v' (n+1) (encI (items++[y]))→w.grownBy w' v.ownBlock→(v'.ownBlock=v.ownBlock∨v'.ownBlock=some w.heap.size)→K (a.put o.dst v') w') :
  if Region.wanted o (yielded ops a.tmps)=true then Oper.wp Tryz.prog o a w K Q else E:=by
 rw[if_pos hw]
 exact qal s x ho v n items y g hs hx hown hB hn h
theorem qt{w:World}{base e size n:Nat}{v:Value}{xs:List Value}(h:w.ownsRow base e size v n xs):∃ a cap,v=.slice a n cap:=by
 rcases h.2 with ⟨rfl,rfl⟩ | ⟨g,cap,cur,rfl,_⟩
 ·exact ⟨none,0,rfl⟩
 ·exact ⟨_,cap,rfl⟩
theorem q3G{w:World}{base n g:Nat}{v:Value}{xs:List Value}{o:Obj}(h:w.ownsRow base 124 4 v n xs)(hg:w.heap[g]? = some o)(ho:∀ cs,o≠.cells cs 124 (0,0)):v.ownBlock≠some g:=by
 rcases h.2 with ⟨rfl,_⟩ | ⟨g',cap,cur,rfl,_,hc,_⟩
 ·intro e;cases e
 ·intro e
  injection e with e
  dsimp only at e
  subst e
  rw[hg]at hc
  injection hc with hc
  exact ho _ hc
theorem q7n{items:List It}{x:It}(hx:x ∉ items)(y:It):(if y=x then some items.length else posI items y)=posI (items++[x]) y:=by
 unfold posI
 rw[List.findIdx?_append]
 by_cases e:y=x
 ·subst e
  rw[if_pos rfl,show items.findIdx? (· = y)=none from q1k.2 hx]
  simp
 ·rw[if_neg e]
  have:¬ x=y:=fun h=>e h.symm
  simp[this]
structure Mid (w w6:World) (t:Nat) (a6:Option Addr) (n c6 mb:Nat) (items:List It) (x:It) (a:Option Addr) (cap:Nat):Prop where
 blk:w6.heap[t]? = some (.cells #[tbV t,.slice a6 (n+1) c6,.map (some mb)] 158 (0,0))
 row:w6.ownsRow 0 124 4 (.slice a6 (n+1) c6) (n+1) (encI (items++[x]))
 num:NumOf w6 mb n (posI items)
 box:w6.heap[w.heap.size]? = some (itO x)
 os:w6.os=w.os
 tape:w6.tape=w.tape
 output:w6.output=w.output
 size:w.heap.size<w6.heap.size
 keep:∀ k,k<w.heap.size→k≠t→(Value.slice a n cap).ownBlock≠some k→w6.heap[k]? = w.heap[k]?
 loc:∀ k,(Value.slice a6 (n+1) c6).ownBlock=some k→(Value.slice a n cap).ownBlock=some k∨w.heap.size≤k
theorem qdx{w w5:World}{t n cap mb:Nat}{a:Option Addr}{items:List It}(h:TabR w t a n cap mb items)(x:It)
  (hg:((w.alloc (itO x)).alloc (itO x)).drew.grownBy w5 (Value.slice a n cap).ownBlock) (a5:Option Addr) (c5:Nat) (ho:w5.ownsRow 0 124 4 (.slice a5 (n+1) c5) (n+1) (encI (items++[x])))
  (hl:(Value.slice a5 (n+1) c5).ownBlock=(Value.slice a n cap).ownBlock∨(Value.slice a5 (n+1) c5).ownBlock=some ((w.alloc (itO x)).alloc (itO x)).drew.heap.size) :
  w5.heap[t]? = some (.cells #[tbV t,.slice a n cap,.map (some mb)] 158 (0,0))∧Mid w (w5.setCell ⟨t,1,none⟩ (.slice a5 (n+1) c5)) t a5 n c5 mb items x a cap:=by
 have hb1:=qd w (itO x)
 have hb2:=qe hb1 (qd (w.alloc (itO x)) (itO x))
 have htl:=(Array.getElem?_eq_some_iff.1 h.blk).1
 have hne:(Value.slice a n cap).ownBlock≠some t:=q3G h.row h.blk (fun cs e=>by injection e with _ e _;exact absurd e (by decide))
 obtain ⟨es,cl,hmap⟩:=h.num.isMap
 have hnm:(Value.slice a n cap).ownBlock≠some mb:=q3G h.row hmap (fun cs e=>by cases e)
 have hmt:mb≠t:=fun e=>by rw[e,h.blk]at hmap;cases hmap
 have hz2:((w.alloc (itO x)).alloc (itO x)).drew.heap.size=w.heap.size+2:=by simp
 have hlb:∀ k,(Value.slice a n cap).ownBlock=some k→k<w.heap.size:=qN h.row
 have st:∀ k,k<w.heap.size→(Value.slice a n cap).ownBlock≠some k→w5.heap[k]? = w.heap[k]? := fun k hk hn=>(hg.block k (by omega) (fun e=>hn e.symm)).trans (hb2.block k hk)
 have h5:w5.heap[t]? = some (.cells #[tbV t,.slice a n cap,.map (some mb)] 158 (0,0)):=(st t htl hne).trans h.blk
 have hs5:=hg.size
 refine ⟨h5,⟨?_,?_,?_,?_,hg.os,hg.tape,hg.output,?_,fun k hk hkt hkn=>?_,fun k hk=>?_⟩⟩
 ·rw[heap_setCell_same w5 t 1 _ _ _ h5];rfl
 ·refine qp ho fun k hk=>Below.heap_setCell _ _ _ _ ?_
  dsimp only
  rintro rfl
  rcases hl with e | e
  ·rw[e]at hk;exact hne hk
  ·rw[e]at hk;injection hk with hk;omega
 ·exact h.num.far ((Below.heap_setCell _ _ _ _ (by dsimp only;exact hmt)).trans (st mb h.num.lt hnm))
 ·refine (Below.heap_setCell _ _ _ _ (by dsimp only;omega)).trans ((hg.block _ (by omega) (fun e=>?_)).trans ?_)
  ·have:=hlb _ e.symm;omega
  ·exact ((qd (w.alloc (itO x)) (itO x)).block _ (by simp)).trans (MapKept.heap_alloc w (itO x)).1
 ·simp;omega
 ·exact (Below.heap_setCell _ _ _ _ (by dsimp only;exact hkt)).trans (st k hk hkn)
 ·rcases hl with e | e
  ·rw[e]at hk;exact Or.inl hk
  ·rw[e]at hk;injection hk with hk;right;omega
theorem qcu{w w6 w7:World}{F:Nat→Prop}{t cap mb:Nat}{a:Option Addr}{items:List It}(h:TabI w F t items)(hF:∀ k,F k↔(k=t∨k=mb∨(Value.slice a items.length cap).ownBlock=some k)){x:It}(hx:ItOk x)(hn:x ∉ items)(hl:items.length<4096)
  {a6:Option Addr} {c6:Nat} (m:Mid w w6 t a6 items.length c6 mb items x a cap) (hn7:NumOf w7 mb (items.length+1) (fun y=>if y=x then some items.length else posI items y)) (hg:w6.drew.grownBy w7 (some mb)) (hmw:mb<w.heap.size) :
  ∃ F',TabI w7 F' t (items++[x])∧Fr w w7 F F':=by
 have hsz:=m.size
 have hs7:=hg.size
 have hs7':w6.heap.size≤w7.heap.size:=hs7
 obtain ⟨es,cl,hmap⟩:=m.num.isMap
 have hmt:t≠mb:=fun e=>by rw[← e,m.blk]at hmap;cases hmap
 have hnm:(Value.slice a6 (items.length+1) c6).ownBlock≠some mb:=q3G m.row hmap (fun cs e=>by cases e)
 have htl:t<w6.heap.size:=(Array.getElem?_eq_some_iff.1 m.blk).1
 have st:∀ k,k<w6.heap.size→k≠mb→w7.heap[k]? = w6.heap[k]? := fun k hk hne=>hg.block k hk (fun e=>hne (by injection e))
 refine ⟨fun k=>k=t∨k=mb∨(Value.slice a6 (items.length+1) c6).ownBlock=some k,⟨?_,?_,?_,.slice a6 (items.length+1) c6,mb,(st t htl hmt).trans m.blk,?_,?_,fun k=>Iff.rfl⟩,?_⟩
 ·exact List.nodup_append.2 ⟨h.nd,by simp,fun a ha b hb=>by simp at hb;subst hb;exact fun e=>hn (e ▸ ha)⟩
 ·simp;omega
 ·intro y hy
  rcases List.mem_append.1 hy with hy | hy
  ·exact h.ok y hy
  ·simp at hy;subst hy;exact hx
 ·rw[List.length_append]
  exact qp m.row fun k hk=>st k (qN m.row k hk) (fun e=>hnm (e ▸ hk))
 ·rw[List.length_append]
  exact hn7.alike fun y _=>q7n hn y
 ·refine ⟨hg.os.trans m.os,hg.tape.trans m.tape,hg.output.trans m.output,by omega,fun k hk hf=>?_,fun k hk=>?_⟩
  ·have hf':=fun e=>hf ((hF k).2 e)
   exact (st k (by omega) (fun e=>hf' (Or.inr (Or.inl e)))).trans (m.keep k hk (fun e=>hf' (Or.inl e)) (fun e=>hf' (Or.inr (Or.inr e))))
  ·rcases hk with rfl | rfl | hk
   ·exact Or.inl ((hF k).2 (Or.inl rfl))
   ·exact Or.inl ((hF k).2 (Or.inr (Or.inl rfl)))
   ·rcases m.loc k hk with e | e
    ·exact Or.inl ((hF k).2 (Or.inr (Or.inr e)))
    ·exact Or.inr e
theorem q80{w:World}{F:Nat→Prop}{t:Nat}{items:List It}(h:TabI w F t items)(x:It)(hx:ItOk x)(hn:x ∉ items)(hl:items.length<4096) :
  Calls Tryz.prog 108 #[.pointer (some ⟨t,0,none⟩),itV x] w fun e w'=>e=.returned (.int .i64 (items.length:Int))∧∃ F',TabI w' F' t (items++[x])∧Fr w w' F F':=by
 obtain ⟨a,cap,mb,hr,hF⟩:=h.read
 have HR:Hid _:=hr
 have HF:Hid _:=hF
 have HI:Hid _:=h
 have HX:Hid _:=hx
 have HN:Hid _:=hn
 have hb1:=qd w (itO x)
 have hr1:=hr.up hb1
 have c1:=hr1.c1
 have c1b:=(hr1.up (qd (w.alloc (itO x)) (itO x))).c1
 have hO:((w.alloc (itO x)).alloc (itO x)).drew.ownsRow 0 124 4 (.slice a items.length cap) items.length (encI items):=World.ownsRow.alloc (World.ownsRow.alloc hr.row _) _
 have hB:((w.alloc (itO x)).alloc (itO x)).drew.heap[w.heap.size+1]? = some (itO x):=by
  have:=(MapKept.heap_alloc (w.alloc (itO x)) (itO x)).1
  rw[show (w.alloc (itO x)).heap.size=w.heap.size+1 by simp]at this
  exact this
 have hn4:items.length≤4096:=by omega
 have hmid:=fun w5 hg a5 c5 ho hl=>qdx (w5:=w5) hr x hg a5 c5 ho hl
 have HM:Hid _:=hmid
 clear h hr hr1 hF hx hn hb1 hmid
 obtain ⟨op,p,xa,xb⟩:=x
 unfold itO at hO hB HM c1 c1b
 dsimp only at hO hB HM c1 c1b
 unfold itV
 dsimp only
 generalize hL:items.length=L at *
 have HL:Hid (items.length=L):=hL
 clear hL
 go_enter Tryz.func108,Tryz.ntmps108
 go_upto_region 15 with fail
 go_region_law ((refine q4f rfl _ _ rfl (.slice a L cap) L items ⟨op,p,xa,xb⟩ (w.heap.size+1) rfl rfl hO hB (by omega) ?_;intro v5 w5 hown5 hgr5 hloc5;obtain ⟨a5,k5,rfl⟩:=qt hown5;have m5:=HM.out w5 hgr5 a5 k5 hown5 hloc5;have c5:w5.cell? ⟨t,1,none⟩=some (.slice a L cap):=qb m5.1 1;have z5:w5.frozen? ⟨t,1,none⟩=false:=frozen_of_row w5 _ 1 _ _ m5.1))
 all_goals
  have HM6:Hid _:=m5.2
  clear hO hB c1 c1b c5 z5 m5 hown5 hgr5 hloc5
  generalize w5.setCell ⟨t,1,none⟩ (.slice a5 (L+1) k5)=w6 at *
  have t2:w6.cell? ⟨t,2,none⟩=some (.map (some mb)):=qb HM6.out.blk 2
  have b0:w6.cell? ⟨w.heap.size,0,none⟩=some (.int .u8 (op:Int)):=qb HM6.out.box 0
  have b1:w6.cell? ⟨w.heap.size,1,none⟩=some (.int .u8 (p:Int)):=qb HM6.out.box 1
  have b2:w6.cell? ⟨w.heap.size,2,none⟩=some (.int .i64 xa):=qb HM6.out.box 2
  have b3:w6.cell? ⟨w.heap.size,3,none⟩=some (.int .i64 xb):=qb HM6.out.box 3
  obtain ⟨w7,hrun,hn7,hg7⟩:=(show NumOf w6.drew mb L (posI items) from HM6.out.num).put (by omega) (x:=⟨op,p,xa,xb⟩) HX.out (q1k.2 HN.out) L (by omega)
  unfold itV at hrun
  dsimp only at hrun
  have HN7:Hid _:=hn7
  have HG7:Hid _:=hg7
  clear hn7 hg7
  go_upto_region 15 with fail
  go_region
  all_goals
   clear hrun t2 b0 b1 b2 b3
   go_wp2
   go_ret
   have e:=HL.out
   subst e
   exact ⟨rfl,qcu HI.out HF.out HX.out HN.out hl HM6.out HN7.out HG7.out HR.out.num.lt⟩
def FP (b mp:Nat) (vi vt:Value) (k:Nat):Prop:=k=b∨k=mp∨vi.ownBlock=some k∨vt.ownBlock=some k
def ptA (vi:Value) (mp:Nat) (vt:Value) (rest:List Value):Array Value:=(vi :: .map (some mp)::vt::rest).toArray
def PtT (T:TypeId):Prop:=T=76∨T=82
structure PtR (w:World) (b:Nat) (T:TypeId) (rest:List Value) (vi:Value) (mp:Nat) (vt:Value) (items:List It) (texts:List ByteArray) (n:Nat) (f:It→Option Nat):Prop where
 ty:PtT T
 blk:w.heap[b]? = some (.cells (ptA vi mp vt rest) T (0,0))
 ri:w.ownsRow 0 124 4 vi items.length (encI items)
 rt:w.ownsRow 0 9 1 vt texts.length (texts.map Value.string)
 num:NumOf w mp n f
theorem q1N{w:World}{base e size n g:Nat}{v:Value}{xs:List Value}{o:Obj}(h:w.ownsRow base e size v n xs)(hg:w.heap[g]? = some o)(ho:∀ cs,o≠.cells cs e (0,0)):v.ownBlock≠some g:=by
 rcases h.2 with ⟨rfl,_⟩ | ⟨g',cap,cur,rfl,_,hc,_⟩
 ·intro e;cases e
 ·intro e
  injection e with e
  dsimp only at e
  subst e
  rw[hg]at hc
  injection hc with hc
  exact ho _ hc
theorem qbr{w:World}{base e size n g:Nat}{v:Value}{xs:List Value}(h:w.ownsRow base e size v n xs)(hg:v.ownBlock=some g):∃ cs,w.heap[g]? = some (.cells cs e (0,0)):=by
 rcases h.2 with ⟨rfl,_⟩ | ⟨g',cap,cur,rfl,_,hc,_⟩
 ·cases hg
 ·injection hg with hg
  dsimp only at hg
  subst hg
  exact ⟨_,hc⟩
theorem PtT.ne{T:TypeId}(h:PtT T):T≠124∧T≠9∧T≠3:=by
 rcases h with rfl | rfl <;> decide
section
variable {w:World} {b mp n:Nat} {T:TypeId} {rest:List Value} {vi vt:Value} {items:List It} {texts:List ByteArray} {f:It→Option Nat}
theorem PtR.ib(h:PtR w b T rest vi mp vt items texts n f):vi.ownBlock≠some b:=q1N h.ri h.blk fun cs e=>by injection e with _ e _;exact h.ty.ne.1 e
theorem PtR.tb(h:PtR w b T rest vi mp vt items texts n f):vt.ownBlock≠some b:=q1N h.rt h.blk fun cs e=>by injection e with _ e _;exact h.ty.ne.2.1 e
theorem PtR.im(h:PtR w b T rest vi mp vt items texts n f):vi.ownBlock≠some mp:=by
 obtain ⟨es,c,hm⟩:=h.num.isMap
 exact q1N h.ri hm fun cs e=>by cases e
theorem PtR.tm(h:PtR w b T rest vi mp vt items texts n f):vt.ownBlock≠some mp:=by
 obtain ⟨es,c,hm⟩:=h.num.isMap
 exact q1N h.rt hm fun cs e=>by cases e
theorem PtR.mb(h:PtR w b T rest vi mp vt items texts n f):mp≠b:=fun e=>by
 obtain ⟨es,c,hm⟩:=h.num.isMap
 rw[e,h.blk]at hm;cases hm
theorem PtR.it(h:PtR w b T rest vi mp vt items texts n f):∀ k,vi.ownBlock=some k→vt.ownBlock≠some k:=fun k hk=>by
 obtain ⟨cs,hc⟩:=qbr h.ri hk
 exact q1N h.rt hc fun cs e=>by injection e with _ e _;exact absurd e (by decide)
theorem PtR.bl(h:PtR w b T rest vi mp vt items texts n f):b<w.heap.size:=(Array.getElem?_eq_some_iff.1 h.blk).1
theorem PtR.lt(h:PtR w b T rest vi mp vt items texts n f):∀ k,FP b mp vi vt k→k<w.heap.size:=fun k hk=>by
 rcases hk with rfl | rfl | hk | hk
 ·exact h.bl
 ·exact h.num.lt
 ·exact qN h.ri k hk
 ·exact qN h.rt k hk
theorem PtR.far{w':World}(h:PtR w b T rest vi mp vt items texts n f)(hb:∀ k,FP b mp vi vt k→w'.heap[k]? = w.heap[k]?):PtR w' b T rest vi mp vt items texts n f :=
 ⟨h.ty,(hb b (Or.inl rfl)).trans h.blk,qp h.ri fun k hk=>hb k (Or.inr (Or.inr (Or.inl hk))),qp h.rt fun k hk=>hb k (Or.inr (Or.inr (Or.inr hk))),h.num.far (hb mp (Or.inr (Or.inl rfl)))⟩
theorem PtR.up{w':World}(h:PtR w b T rest vi mp vt items texts n f)(hb:Below w.heap.size w w'):PtR w' b T rest vi mp vt items texts n f:=h.far fun k hk=>hb.block k (h.lt k hk)
theorem PtR.c0(h:PtR w b T rest vi mp vt items texts n f):w.cell? ⟨b,0,none⟩=some vi:=qb h.blk 0
theorem PtR.c1(h:PtR w b T rest vi mp vt items texts n f):w.cell? ⟨b,1,none⟩=some (.map (some mp)):=qb h.blk 1
theorem PtR.c2(h:PtR w b T rest vi mp vt items texts n f):w.cell? ⟨b,2,none⟩=some vt:=qb h.blk 2
theorem PtR.put{w':World}{n':Nat}{f':It→Option Nat}(h:PtR w b T rest vi mp vt items texts n f)(hg:w.grownBy w' (some mp))(hn:NumOf w' mp n' f'):PtR w' b T rest vi mp vt items texts n' f'∧Fr w w' (FP b mp vi vt) (FP b mp vi vt):=by
 have st:∀ k,k<w.heap.size→k≠mp→w'.heap[k]? = w.heap[k]? := fun k hk hne=>hg.block k hk (fun e=>hne (by injection e))
 refine ⟨⟨h.ty,(st b h.bl (fun e=>h.mb e.symm)).trans h.blk,qp h.ri fun k hk=>st k (qN h.ri k hk) (fun e=>h.im (e ▸ hk)),qp h.rt fun k hk=>st k (qN h.rt k hk) (fun e=>h.tm (e ▸ hk)),hn⟩,hg.os,hg.tape,hg.output,hg.size,fun k hk hF=>st k hk fun e=>hF (Or.inr (Or.inl e)),fun _ hk=>Or.inl hk⟩
theorem PtR.grow{w5:World}{o:Obj}{vi':Value}{items':List It}(h:PtR w b T rest vi mp vt items texts n f)(hg:(w.alloc o).drew.grownBy w5 vi.ownBlock)(ho:w5.ownsRow 0 124 4 vi' items'.length (encI items'))(hl:vi'.ownBlock=vi.ownBlock∨vi'.ownBlock=some (w.alloc o).drew.heap.size) :
  w5.heap[b]? = some (.cells (ptA vi mp vt rest) T (0,0))∧PtR (w5.setCell ⟨b,0,none⟩ vi') b T rest vi' mp vt items' texts n f∧Fr w (w5.setCell ⟨b,0,none⟩ vi') (FP b mp vi vt) (FP b mp vi' vt):=by
 have hb1:=qd w o
 have hz:(w.alloc o).drew.heap.size=w.heap.size+1:=by simp
 have hs:=hg.size
 have st:∀ k,k<w.heap.size→vi.ownBlock≠some k→w5.heap[k]? = w.heap[k]? := fun k hk hne=>(hg.block k (by omega) (fun e=>hne e.symm)).trans (hb1.block k hk)
 have h5:=(st b h.bl h.ib).trans h.blk
 have hvb:vi'.ownBlock≠some b:=fun e=>by
  rcases hl with e2 | e2
  ·rw[e2]at e;exact h.ib e
  ·rw[e2]at e;injection e with e;have:=h.bl;omega
 have s6:∀ k,k≠b→(w5.setCell ⟨b,0,none⟩ vi').heap[k]? = w5.heap[k]? := fun k hk=>Below.heap_setCell _ _ _ _ hk
 refine ⟨h5,⟨h.ty,?_,qp ho fun k hk=>s6 k (fun e=>hvb (e ▸ hk)),qp h.rt fun k hk=>(s6 k (fun e=>h.tb (e ▸ hk))).trans (st k (qN h.rt k hk) (fun e=>h.it k e hk)),h.num.far ((s6 mp h.mb).trans (st mp h.num.lt h.im))⟩,hg.os,hg.tape,hg.output,?_,fun k hk hF=>?_,fun k hk=>?_⟩
 ·rw[heap_setCell_same w5 b 0 _ _ _ h5];rfl
 ·simp;omega
 ·exact (s6 k fun e=>hF (Or.inl e)).trans (st k hk fun e=>hF (Or.inr (Or.inr (Or.inl e))))
 ·rcases hk with hk | hk | hk | hk
  ·exact Or.inl (Or.inl hk)
  ·exact Or.inl (Or.inr (Or.inl hk))
  ·rcases hl with e | e
   ·rw[e]at hk;exact Or.inl (Or.inr (Or.inr (Or.inl hk)))
   ·rw[e]at hk;injection hk with hk;right;omega
  ·exact Or.inl (Or.inr (Or.inr (Or.inr hk)))
theorem PtR.growT{w5:World}{o:Obj}{vt':Value}{texts':List ByteArray}(h:PtR w b T rest vi mp vt items texts n f)(hg:(w.alloc o).grownBy w5 vt.ownBlock)(ho:w5.ownsRow 0 9 1 vt' texts'.length (texts'.map Value.string))(hl:vt'.ownBlock=vt.ownBlock∨vt'.ownBlock=some (w.alloc o).heap.size) :
  w5.heap[b]? = some (.cells (ptA vi mp vt rest) T (0,0))∧PtR (w5.setCell ⟨b,2,none⟩ vt') b T rest vi mp vt' items texts' n f∧Fr w (w5.setCell ⟨b,2,none⟩ vt') (FP b mp vi vt) (FP b mp vi vt'):=by
 have hb1:=qd w o
 have hz:(w.alloc o).heap.size=w.heap.size+1:=by simp
 have hs:=hg.size
 have st:∀ k,k<w.heap.size→vt.ownBlock≠some k→w5.heap[k]? = w.heap[k]? := fun k hk hne=>(hg.block k (by omega) (fun e=>hne e.symm)).trans (hb1.block k hk)
 have h5:=(st b h.bl h.tb).trans h.blk
 have hvb:vt'.ownBlock≠some b:=fun e=>by
  rcases hl with e2 | e2
  ·rw[e2]at e;exact h.tb e
  ·rw[e2]at e;injection e with e;have:=h.bl;omega
 have s6:∀ k,k≠b→(w5.setCell ⟨b,2,none⟩ vt').heap[k]? = w5.heap[k]? := fun k hk=>Below.heap_setCell _ _ _ _ hk
 refine ⟨h5,⟨h.ty,?_,qp h.ri fun k hk=>(s6 k (fun e=>h.ib (e ▸ hk))).trans (st k (qN h.ri k hk) (fun e=>h.it k hk e)),qp ho fun k hk=>s6 k (fun e=>hvb (e ▸ hk)),h.num.far ((s6 mp h.mb).trans (st mp h.num.lt h.tm))⟩,hg.os,hg.tape,hg.output,?_,fun k hk hF=>?_,fun k hk=>?_⟩
 ·rw[heap_setCell_same w5 b 2 _ _ _ h5];rfl
 ·simp;omega
 ·exact (s6 k fun e=>hF (Or.inl e)).trans (st k hk fun e=>hF (Or.inr (Or.inr (Or.inr e))))
 ·rcases hk with hk | hk | hk | hk
  ·exact Or.inl (Or.inl hk)
  ·exact Or.inl (Or.inr (Or.inl hk))
  ·exact Or.inl (Or.inr (Or.inr (Or.inl hk)))
  ·rcases hl with e | e
   ·rw[e]at hk;exact Or.inl (Or.inr (Or.inr (Or.inr hk)))
   ·rw[e]at hk;injection hk with hk;right;omega
end
structure Pts (w:World) (G:Nat→Prop) (b:Nat) (T:TypeId) (rest:List Value) (items:List It) (texts:List ByteArray):Prop where
 nd:items.Nodup
 tl:texts.length=items.length
 few:items.length≤20000000
 ok:∀ x∈items,ItOk x
 tok:∀ s∈texts,SOk s
 ex:∃ vi mp vt,PtR w b T rest vi mp vt items texts items.length (posI items)∧∀ k,G k↔FP b mp vi vt k
theorem Pts.lt{w:World}{G:Nat→Prop}{b:Nat}{T:TypeId}{rest:List Value}{items:List It}{texts:List ByteArray}(h:Pts w G b T rest items texts):∀ k,G k→k<w.heap.size:=fun k hk=>by
 obtain ⟨vi,mp,vt,hr,hG⟩:=h.ex
 exact hr.lt k ((hG k).1 hk)
theorem Pts.far{w w':World}{G:Nat→Prop}{b:Nat}{T:TypeId}{rest:List Value}{items:List It}{texts:List ByteArray}(h:Pts w G b T rest items texts)(hb:∀ k,G k→w'.heap[k]? = w.heap[k]?):Pts w' G b T rest items texts:=by
 obtain ⟨vi,mp,vt,hr,hG⟩:=h.ex
 exact ⟨h.nd,h.tl,h.few,h.ok,h.tok,vi,mp,vt,hr.far fun k hk=>hb k ((hG k).2 hk),hG⟩
theorem Pts.up{w w':World}{G:Nat→Prop}{b:Nat}{T:TypeId}{rest:List Value}{items:List It}{texts:List ByteArray}(h:Pts w G b T rest items texts)(hb:Below w.heap.size w w'):Pts w' G b T rest items texts:=h.far fun k hk=>hb.block k (h.lt k hk)
theorem Fr.alike{w w':World}{F G F' G':Nat→Prop}(h:Fr w w' F F')(h1:∀ k,F k→G k)(h2:∀ k,G' k→F' k):Fr w w' G G' :=
 ⟨h.os,h.tape,h.output,h.size,fun k hk hn=>h.keep k hk fun e=>hn (h1 k e),fun k hk=>(h.foot k (h2 k hk)).imp (h1 k) id⟩
theorem q5m{w:World}{G:Nat→Prop}{b:Nat}{T:TypeId}{rest:List Value}{items:List It}{texts:List ByteArray}(h:Pts w G b T rest items texts)(x:It)(hx:ItOk x)(j:Nat)(hj:posI items x=some j) :
  Calls Tryz.prog 75 #[.pointer (some ⟨b,0,none⟩),itV x] w fun e w'=>e=.returned (.int .i64 (j:Int))∧Below w.heap.size w w':=by
 obtain ⟨vi,mp,vt,hr,hG⟩:=h.ex
 have hr1:=hr.up (qd w (itO x))
 have c1:=hr1.c1
 have hb0:=(MapKept.heap_alloc w (itO x)).1
 have b0:(w.alloc (itO x)).cell? ⟨w.heap.size,0,none⟩=some (.int .u8 (x.op:Int)):=qb hb0 0
 have b1:(w.alloc (itO x)).cell? ⟨w.heap.size,1,none⟩=some (.int .u8 (x.p:Int)):=qb hb0 1
 have b2:(w.alloc (itO x)).cell? ⟨w.heap.size,2,none⟩=some (.int .i64 x.a):=qb hb0 2
 have b3:(w.alloc (itO x)).cell? ⟨w.heap.size,3,none⟩=some (.int .i64 x.b):=qb hb0 3
 have hlook:(Instr.lookup 73 (.map (some mp)) (itV x) true).run Tryz.prog (w.alloc (itO x)).drew=.ok (.tuple #[.int .i64 (j:Int),.bool true]) (w.alloc (itO x)).drew:=by
  have:=(show NumOf (w.alloc (itO x)).drew mp items.length (posI items) from hr1.num).look hx
  rw[hj]at this
  exact this
 have HB:Hid _:=qd w (itO x)
 clear h hr hr1 hG hb0 hx hj
 obtain ⟨op,p,xa,xb⟩:=x
 unfold itO at *
 unfold itV at *
 dsimp only at *
 go_enter Tryz.func75,Tryz.ntmps75
 go_upto_region 15 with fail
 go_region
 all_goals
  go_wp2
  go_ret
  exact ⟨rfl,HB.out.drew⟩
theorem q7E:(Tryz.prog.info? 9).map (fun i=>(i.zero,i.size,i.bytes))=some (some (.string ⟨#[]⟩),1,16):=by kernel_rfl
theorem q4E{w:World}{ops:Array Oper}{rest:List Oper}{o:Oper}{a:Act}{Q:Exit→Act→World→Prop}{T E:TypeId}{z:Value}{bt:Nat}(hu:Tryz.prog.underlying T=some (.slice E))(hin:(Tryz.prog.info? E).map (fun i=>(i.zero,i.size,i.bytes))=some (some z,1,bt))(hzs:z.cells.size=1)(hbt:bt≤1000)(hgd:o.guard=none)(s x:Operand)
  (ho:o.op=.call { callee:=.builtin .append,args:=#[s,x],argTypes:=#[T,T] }) (base:Nat)
  (v:Value) (n:Nat) (xs:List Value) (y:Value) (g:Nat) (hs:a.eval s=v) (hx:a.eval x=.slice (some ⟨g,0,none⟩) 1 1) (hown:w.ownsRow base E 1 v n xs)
  (hB:w.cell? ⟨g,0,none⟩=some y) (h1:y.oneCell'=true) (hn:n≤100000000) (hbase:base≤w.heap.size)
  (h:∀ v' w',w'.ownsRow base E 1 v' (n+1) (xs++[y])→w.grownBy w' v.ownBlock→(v'.ownBlock=v.ownBlock∨v'.ownBlock=some w.heap.size)→wpList Tryz.prog ops Q rest (a.put o.dst v') w'):wpList Tryz.prog ops Q (o::rest) a w:=by
 obtain ⟨i,hi,hz0,hz1,hz2⟩:=info_parts hin
 have hb:(n+1)*bt≤(100000000+1)*1000:=Nat.mul_le_mul (by omega) hbt
 refine wpList_append_own_at w hgd s x T ho base E i _ 1 bt hu hi hz0 hz1 hz2 hzs (by decide) v n _ hs hown ⟨g,0,none⟩ 1 1 [y] hx rfl ?_ ?_ (by unfold maxLen;omega) (by omega) hbase ?_
 ·intro j u hj
  match j with
  | 0=>simp at hj;rw[← hj,qj];exact hB
  | j+1=>simp at hj
 ·intro u hu'
  simp at hu'
  subst hu'
  exact h1
 ·intro v' w' e1 e2 _ e3
  exact h v' w' e1 e2 e3
theorem qbu{w w8:World}{G:Nat→Prop}{b mp:Nat}{T:TypeId}{rest:List Value}{vi vt vi' vt':Value}{items:List It}{texts:List ByteArray}{x:It}(h:Pts w G b T rest items texts)(hG:∀ k,G k↔FP b mp vi vt k)(hx:ItOk x)(hn:x ∉ items)(hl:items.length<20000000)
  (hR:PtR w8 b T rest vi' mp vt' (items++[x]) (texts++[⟨#[]⟩]) (items.length+1) (fun y=>if y=x then some items.length else posI items y)) (fr:Fr w w8 (FP b mp vi vt) (FP b mp vi' vt')) :
  ∃ G',Pts w8 G' b T rest (items++[x]) (texts++[⟨#[]⟩])∧Fr w w8 G G':=by
 refine ⟨FP b mp vi' vt',⟨List.nodup_append.2 ⟨h.nd,by simp,fun a ha c hc=>by simp at hc;subst hc;exact fun e=>hn (e ▸ ha)⟩,by simp[h.tl],by simp;omega,fun y hy=>?_,fun s hs=>?_,vi',mp,vt',⟨hR.ty,hR.blk,hR.ri,hR.rt,?_⟩,fun k=>Iff.rfl⟩,fr.alike (fun k hk=>(hG k).2 hk) (fun k hk=>hk)⟩
 ·rcases List.mem_append.1 hy with hy | hy
  ·exact h.ok y hy
  ·simp at hy;subst hy;exact hx
 ·rcases List.mem_append.1 hs with hs | hs
  ·exact h.tok s hs
  ·simp at hs;subst hs;unfold SOk;decide
 ·rw[List.length_append]
  exact hR.num.alike fun y _=>q7n hn y
theorem q3x{w:World}{G:Nat→Prop}{b:Nat}{T:TypeId}{rest:List Value}{items:List It}{texts:List ByteArray}(h:Pts w G b T rest items texts)(x:It)(hx:ItOk x)(hn:x ∉ items)(hl:items.length<20000000) :
  Calls Tryz.prog 75 #[.pointer (some ⟨b,0,none⟩),itV x] w fun e w'=>e=.returned (.int .i64 (items.length:Int))∧∃ G',Pts w' G' b T rest (items++[x]) (texts++[⟨#[]⟩])∧Fr w w' G G':=by
 obtain ⟨vi,mp,vt,hr,hG⟩:=h.ex
 obtain ⟨ai,ci,rfl⟩:=qt hr.ri
 obtain ⟨at',ct,rfl⟩:=qt hr.rt
 have hr1:PtR (w.alloc (itO x)).drew b T rest _ mp _ items texts items.length (posI items):=(hr.up (qd w (itO x))).up (Below.refl _ _).drew
 have c0:=(hr.up (qd w (itO x))).c0
 have c1:=(hr.up (qd w (itO x))).c1
 have hb0:=(MapKept.heap_alloc w (itO x)).1
 have b0:(w.alloc (itO x)).cell? ⟨w.heap.size,0,none⟩=some (.int .u8 (x.op:Int)):=qb hb0 0
 have b1:(w.alloc (itO x)).cell? ⟨w.heap.size,1,none⟩=some (.int .u8 (x.p:Int)):=qb hb0 1
 have b2:(w.alloc (itO x)).cell? ⟨w.heap.size,2,none⟩=some (.int .i64 x.a):=qb hb0 2
 have b3:(w.alloc (itO x)).cell? ⟨w.heap.size,3,none⟩=some (.int .i64 x.b):=qb hb0 3
 have hlook:(Instr.lookup 73 (.map (some mp)) (itV x) true).run Tryz.prog (w.alloc (itO x)).drew=.ok (.tuple #[.int .i64 0,.bool false]) (w.alloc (itO x)).drew:=by
  have:=hr1.num.look hx
  rw[q1k.2 hn]at this
  exact this
 obtain ⟨w4,hrun,hn4,hg4⟩:=(show NumOf (w.alloc (itO x)).drew.drew mp items.length (posI items) from hr1.num).put (by have:=h.few;omega) hx (q1k.2 hn) items.length (by have:=h.few;omega)
 obtain ⟨hp4,fr4⟩:=(hr1.up (Below.refl _ _).drew).put hg4 hn4
 have HP4:Hid _:=hp4
 have HFR4:Hid (Fr w w4 _ _):=(Fr.ofBelow ((qd w (itO x)).drew.drew)).trans fr4
 have d0:=hp4.c0
 have d0b:=(hp4.up (qd w4 (itO x))).c0
 have hbx:w4.heap[w.heap.size]? = some (itO x):=by
  refine (hg4.block _ (by simp) (fun e=>?_)).trans hb0
  injection e with e
  have:=hr.num.lt
  omega
 have e0:w4.cell? ⟨w.heap.size,0,none⟩=some (.int .u8 (x.op:Int)):=qb hbx 0
 have e1:w4.cell? ⟨w.heap.size,1,none⟩=some (.int .u8 (x.p:Int)):=qb hbx 1
 have e2:w4.cell? ⟨w.heap.size,2,none⟩=some (.int .i64 x.a):=qb hbx 2
 have e3:w4.cell? ⟨w.heap.size,3,none⟩=some (.int .i64 x.b):=qb hbx 3
 have hO:(w4.alloc (itO x)).drew.ownsRow 0 124 4 (.slice ai items.length ci) items.length (encI items):=World.ownsRow.alloc hp4.ri _
 have hB:(w4.alloc (itO x)).drew.heap[w4.heap.size]? = some (itO x):=(MapKept.heap_alloc w4 (itO x)).1
 have HI:Hid _:=h
 have HG:Hid _:=hG
 have HX:Hid _:=hx
 have HN:Hid _:=hn
 have HGROW:Hid _:=fun w5 vi' hg ho hl=>hp4.grow (w5:=w5) (o:=itO x) (vi':=vi') (items':=items++[x]) hg ho hl
 have htl:=h.tl
 have hfew:=h.few
 clear h hr hr1 hG hb0 hx hn hp4 fr4 hn4 hg4 hbx
 obtain ⟨op,p,xa,xb⟩:=x
 unfold itO at *
 unfold itV at *
 dsimp only at *
 generalize hL:items.length=L at *
 generalize hL2:texts.length=L2 at *
 have HL:Hid (items.length=L):=hL
 have HL2:Hid (texts.length=L2):=hL2
 subst htl
 clear hL hL2
 go_enter Tryz.func75,Tryz.ntmps75
 go_upto_region 15 with fail
 go_region
 all_goals
  clear hlook
  go_upto_region 15 with fail
  go_region
  all_goals
   clear hrun c0 c1 b0 b1 b2 b3
   go_upto_region 15 with fail
   go_region_law ((refine q4f rfl _ _ rfl (.slice ai L2 ci) L2 items ⟨op,p,xa,xb⟩ w4.heap.size rfl rfl hO hB (by omega) ?_;intro v5 w5 hown5 hgr5 hloc5;obtain ⟨a5,k5,rfl⟩:=qt hown5;have m5:=HGROW.out w5 _ hgr5 (by rw[List.length_append,HL.out];exact hown5) hloc5;have c5:w5.cell? ⟨b,0,none⟩=some (.slice ai L2 ci):=qb m5.1 0;have z5:w5.frozen? ⟨b,0,none⟩=false:=frozen_of_row w5 _ 0 _ _ m5.1))
   all_goals
    have HM6:Hid _:=m5.2.1
    have HF6:Hid _:=HFR4.out.trans m5.2.2
    clear hO hB d0 d0b e0 e1 e2 e3 c5 z5 m5 hown5 hgr5 hloc5
    generalize w5.setCell ⟨b,0,none⟩ (.slice a5 (L2+1) k5)=w6 at *
    have f2:=HM6.out.c2
    have hc7:(w6.alloc (.cells #[.string ⟨#[]⟩] 9)).cell? ⟨w6.heap.size,0,none⟩=some (.string ⟨#[]⟩):=qb (MapKept.heap_alloc w6 _).1 0
    have hO7:(w6.alloc (.cells #[.string ⟨#[]⟩] 9)).ownsRow 0 9 1 (.slice at' L2 ct) L2 (texts.map Value.string):=by
     have:=World.ownsRow.alloc HM6.out.rt (.cells #[.string ⟨#[]⟩] 9)
     rw[HL2.out]at this
     exact this
    go_wp2_with (at_builtin;refine q4E Tryz.underlying74 q7E rfl (by decide) rfl _ _ rfl 0 _ L2 (texts.map Value.string) (.string ⟨#[]⟩) w6.heap.size rfl rfl hO7 hc7 rfl (by omega) (Nat.zero_le _) ?_)
    intro v7 w7 hown7 hgr7 hloc7
    obtain ⟨a7,k7,rfl⟩:=qt hown7
    have m7:=HM6.out.growT (texts':=texts++[⟨#[]⟩]) hgr7 (by rw[List.length_append,HL2.out,List.map_append];exact hown7) (by simpa using hloc7)
    have c7:w7.cell? ⟨b,2,none⟩=some (.slice at' L2 ct):=qb m7.1 2
    have z7:w7.frozen? ⟨b,2,none⟩=false:=frozen_of_row w7 _ 2 _ _ m7.1
    have HM8:Hid _:=m7.2.1
    have HF8:Hid _:=HF6.out.trans m7.2.2
    clear hc7 hO7 m7 hown7 hgr7 hloc7 f2
    go_wp2
    go_ret
    have e:=HL.out
    subst e
    exact ⟨rfl,qbu HI.out HG.out HX.out HN.out hl HM8.out HF8.out⟩
def txB (S:Tr):ByteArray:=⟨(S.flat.map fun k=>UInt8.ofNat (k.1*8+k.2)).toArray⟩
def Cov (T0:Tr) (items:List It):Prop:=∀ n,n<items.length→∃ S,Rep items n S∧InC T0 S
theorem qcz{T0:Tr}{items:List It}(hn:items.Nodup)(h:Cov T0 items):items.length≤(allC T0).length:=by
 have hf:∀ n,∃ S,n<items.length→Rep items n S∧InC T0 S:=fun n=>by
  by_cases hn:n<items.length
  ·obtain ⟨S,hS⟩:=h n hn
   exact ⟨S,fun _=>hS⟩
  ·exact ⟨.leaf (0,0),fun h=>absurd h hn⟩
 have hl:((List.range items.length).map fun n=>Classical.choose (hf n)).length=items.length:=by simp
 rw[← hl]
 refine q5E ?_ fun S hS=>?_
 ·unfold List.Nodup
  rw[List.pairwise_map]
  refine List.Pairwise.imp_of_mem ?_ (List.pairwise_lt_range (n:=items.length))
  intro a b ha hb hab e
  have h1:=(Classical.choose_spec (hf a) (List.mem_range.1 ha)).1
  have h2:=(Classical.choose_spec (hf b) (List.mem_range.1 hb)).1
  rw[e]at h1
  have:=Rep.num hn h1 h2
  omega
 ·obtain ⟨n,hn,rfl⟩:=List.mem_map.1 hS
  exact qcD (Classical.choose_spec (hf n) (List.mem_range.1 hn)).2
structure T0k (T0:Tr):Prop where
 kt:KT T0
 sz:T0.size≤2048
structure PtO (T0:Tr) (w:World) (G:Nat→Prop) (b:Nat) (T:TypeId) (rest:List Value) (items:List It):Prop where
 t0:T0k T0
 low:Low items
 cov:Cov T0 items
 ex:∃ texts,Pts w G b T rest items texts∧∀ n S,Rep items n S→texts[n]? = some ⟨#[]⟩∨texts[n]? = some (txB S)
theorem PtO.lt{T0:Tr}{w:World}{G:Nat→Prop}{b:Nat}{T:TypeId}{rest:List Value}{items:List It}(h:PtO T0 w G b T rest items):∀ k,G k→k<w.heap.size:=by
 obtain ⟨texts,hp,_⟩:=h.ex
 exact hp.lt
theorem PtO.far{T0:Tr}{w w':World}{G:Nat→Prop}{b:Nat}{T:TypeId}{rest:List Value}{items:List It}(h:PtO T0 w G b T rest items)(hb:∀ k,G k→w'.heap[k]? = w.heap[k]?):PtO T0 w' G b T rest items:=by
 obtain ⟨texts,hp,ht⟩:=h.ex
 exact ⟨h.t0,h.low,h.cov,texts,hp.far hb,ht⟩
theorem PtO.up{T0:Tr}{w w':World}{G:Nat→Prop}{b:Nat}{T:TypeId}{rest:List Value}{items:List It}(h:PtO T0 w G b T rest items)(hb:Below w.heap.size w w'):PtO T0 w' G b T rest items:=h.far fun k hk=>hb.block k (h.lt k hk)
theorem PtO.few{T0:Tr}{w:World}{G:Nat→Prop}{b:Nat}{T:TypeId}{rest:List Value}{items:List It}(h:PtO T0 w G b T rest items):items.length≤20000000:=by
 obtain ⟨texts,hp,_⟩:=h.ex
 exact hp.few
def KeepP (T0:Tr) (w:World) (G:Nat→Prop) (b:Nat) (T:TypeId) (rest:List Value) (items:List It) (R:List It→Int→Prop) (j:Int) (w':World):Prop :=
 ∃ (items':List It) (G':Nat→Prop),items <+: items'∧R items' j∧PtO T0 w' G' b T rest items'∧Fr w w' G G'
def KeepR (T0:Tr) (w:World) (G:Nat→Prop) (b:Nat) (T:TypeId) (rest:List Value) (items:List It) (R:List It→Int→Prop) (e:Ending) (w':World):Prop :=
 ∃ (j:Int),e=.returned (.int .i64 j)∧KeepP T0 w G b T rest items R j w'
def IsN (S:Tr) (items:List It) (j:Int):Prop:=∃ m:Nat,j=(m:Int)∧Rep items m S
theorem Rep.pre{items items':List It}(h:items <+: items'){n:Nat}{S:Tr}(hr:Rep items n S):Rep items' n S:=by
 obtain ⟨l,rfl⟩:=h
 exact hr.more l
theorem q1L{T0:Tr}{w:World}{G:Nat→Prop}{b:Nat}{T:TypeId}{rest:List Value}{items:List It}(h:PtO T0 w G b T rest items)(x:It)(S:Tr)(hS:InC T0 S)(hx:ItOk x)(ha:x.a<(items.length:Int))(hb:x.b<(items.length:Int))
  (hR:∀ items' j,items <+: items'→Low items'→items'[j]? = some x→Rep items' j S) :
  Calls Tryz.prog 75 #[.pointer (some ⟨b,0,none⟩),itV x] w (KeepR T0 w G b T rest items (IsN S)):=by
 obtain ⟨texts,hp,ht⟩:=h.ex
 cases hj:posI items x with
 | some j =>
  have hget:=(q25 hp.nd).1 hj
  have hrep:=hR items j (List.prefix_refl _) h.low hget
  exact (q5m hp x hx j hj).mono fun e w' ⟨he,hbw⟩=>⟨(j:Int),he,items,G,List.prefix_refl _,⟨j,rfl,hrep⟩,h.up hbw,Fr.ofBelow hbw⟩
 | none =>
  have hn:=q1k.1 hj
  have hlow:Low (items++[x]):=by
   have:=q3N h.low ha hb
   have e:addI items x=(items++[x],items.length):=by
    rcases qU items x with ⟨j,_,hj2⟩ | ⟨e,_⟩
    ·exact absurd (List.mem_of_getElem? hj2) hn
    ·exact e
   rw[e]at this
   exact this
  have hrep:=hR (items++[x]) items.length (List.prefix_append _ _) hlow (by simp)
  have hnd:(items++[x]).Nodup:=List.nodup_append.2 ⟨hp.nd,by simp,fun a h1 c hc=>by simp at hc;subst hc;exact fun e=>hn (e ▸ h1)⟩
  have hcov:Cov T0 (items++[x]):=fun n hn2=>by
   by_cases hlt:n<items.length
   ·obtain ⟨S',h1,h2⟩:=h.cov n hlt
    exact ⟨S',h1.more [x],h2⟩
   ·have:n=items.length:=by simp at hn2;omega
    subst this
    exact ⟨S,hrep,hS⟩
  have hl:items.length<20000000:=by
   have h1:=qcz hnd hcov
   have h2:=qcv h.t0.kt h.t0.sz
   simp at h1
   omega
  refine (q3x hp x hx hn hl).mono fun e w' ⟨he,G',hp',fr⟩=>⟨(items.length:Int),he,items++[x],G',List.prefix_append _ _,⟨_,rfl,hrep⟩,⟨h.t0,hlow,hcov,_,hp',fun n S' hr=>?_⟩,fr⟩
  by_cases hlt:n<items.length
  ·obtain ⟨S2,h1,_⟩:=h.cov n hlt
   have e:=Rep.tree (h1.more [x]) hr
   subst e
   rw[List.getElem?_append_left (by rw[hp.tl];exact hlt)]
   exact ht n _ h1
  ·have:n=items.length:=by have:=hr.lt;simp at this;omega
   subst this
   refine Or.inl ?_
   rw[← hp.tl]
   simp
theorem q1x:∀ T:Tr,T.WF→∀ k∈T.flat,k.1≤23∧k.2≤7
 | .leaf (op,p),h,k,hk=>by
  simp[Tr.flat]at hk
  subst hk
  rcases qM h with ⟨rfl,hp⟩ | ⟨rfl,rfl | rfl | rfl | rfl | rfl⟩
  ·exact ⟨by show 2≤23;omega,hp⟩
  all_goals exact ⟨by decide,by decide⟩
 | .un (op,p) c,h,k,hk=>by
  obtain ⟨rfl,hc,_,ho⟩:=qE h
  simp[Tr.flat]at hk
  rcases hk with hk | rfl
  ·exact q1x c hc k hk
  ·exact ⟨by show op≤23;omega,Nat.zero_le _⟩
 | .bin (op,p) c d,h,k,hk=>by
  obtain ⟨rfl,hc,hd,_,ho⟩:=qz h
  simp[Tr.flat]at hk
  rcases hk with hk | hk | rfl
  ·exact q1x c hc k hk
  ·exact q1x d hd k hk
  ·exact ⟨by show op≤23;omega,Nat.zero_le _⟩
theorem q68{T0 S:Tr}(h0:KT T0)(h:InC T0 S):∀ k∈S.flat,k.1≤23∧k.2≤7:=by
 have hw:S.WF:=by rcases q2o h0 h with k | k <;> exact k.wf
 exact q1x S hw
theorem it_ok{op:Nat}{a b:Int}(ho:op<256)(ha:-1≤a)(ha2:a<100000000)(hb:-1≤b)(hb2:b<100000000):ItOk ⟨op,0,a,b⟩:=⟨ho,by show 0<256;decide,ha,ha2,hb,hb2⟩
theorem q3y{T0:Tr}{w:World}{G:Nat→Prop}{b:Nat}{T:TypeId}{rest:List Value}{items:List It}(h:PtO T0 w G b T rest items)(op:Nat)(ho:op=4∨op=5) :
  Calls Tryz.prog 134 #[.pointer (some ⟨b,0,none⟩),.int .u8 (op:Int)] w (KeepR T0 w G b T rest items (IsN (.leaf (op,0)))):=by
 have hk:=q1L h ⟨op,0,-1,-1⟩ (.leaf (op,0)) (q5x ho) (it_ok (by omega) (by decide) (by decide) (by decide) (by decide)) (by show (-1:Int)<_;omega) (by show (-1:Int)<_;omega) (fun items' j _ _ hj=>.leaf hj)
 unfold KeepR at *
 generalize KeepP T0 w G b T rest items (IsN (.leaf (op,0)))=Q at *
 clear h ho
 unfold itV at hk
 dsimp only at hk
 go_enter Tryz.func134,Tryz.ntmps134
 go_wp2_with fail
 refine hk.mono ?_
 rintro e w' ⟨j,rfl,hq⟩
 have HQ:Hid _:=hq
 clear hk hq
 go_wp2
 go_ret
 exact ⟨j,rfl,HQ.out⟩
theorem qW{T0:Tr}{w:World}{G:Nat→Prop}{b:Nat}{T:TypeId}{rest:List Value}{items:List It}(h:PtO T0 w G b T rest items)(op:Nat)(ho:op<256)(m l:Nat)(c d:Tr)(hm:Rep items m c)(hl:Rep items l d)(hS:InC T0 (.bin (op,0) c d)) :
  Calls Tryz.prog 150 #[.pointer (some ⟨b,0,none⟩),.int .u8 (op:Int),.int .i64 (m:Int),.int .i64 (l:Int)] w (KeepR T0 w G b T rest items (IsN (.bin (op,0) c d))):=by
 have hk:=q1L h ⟨op,0,(m:Int),(l:Int)⟩ (.bin (op,0) c d) hS (it_ok ho (by omega) (by have:=hm.lt;have:=h.few;omega) (by omega) (by have:=hl.lt;have:=h.few;omega)) (by show (m:Int)<_;have:=hm.lt;omega) (by show (l:Int)<_;have:=hl.lt;omega) (fun items' j hp hlow hj=>by
  obtain ⟨h1,h2⟩:=q74 (k:=(op,0)) hlow hj
  exact .bin hj h1 h2 (hm.pre hp) (hl.pre hp))
 unfold KeepR at *
 generalize KeepP T0 w G b T rest items (IsN (.bin (op,0) c d))=Q at *
 clear h ho hm hl hS
 unfold itV at hk
 dsimp only at hk
 go_enter Tryz.func150,Tryz.ntmps150
 go_wp2_with fail
 refine hk.mono ?_
 rintro e w' ⟨j,rfl,hq⟩
 have HQ:Hid _:=hq
 clear hk hq
 go_wp2
 go_ret
 exact ⟨j,rfl,HQ.out⟩
def duO (op:Nat):Nat:=if op=0 then 1 else if op=1 then 0 else if op=4 then 5 else if op=5 then 4 else if op=7 then 8 else if op=8 then 7 else if op=11 then 12 else if op=12 then 11 else if op=15 then 16 else if op=16 then 15 else if op=17 then 18 else 17
theorem q3u(op:Nat)(w:World)(h:op=0∨op=1∨op=4∨op=5∨op=7∨op=8∨op=11∨op=12∨op=15∨op=16∨op=17∨op=18):Calls Tryz.prog 158 #[.int .u8 (op:Int)] w fun e w'=>e=.returned (.int .u8 (duO op:Int))∧w'=w:=by
 rcases h with rfl | rfl | rfl | rfl | rfl | rfl | rfl | rfl | rfl | rfl | rfl | rfl <;>
 ·go_enter Tryz.func158,Tryz.ntmps158
  go_wp2
  go_ret
  exact ⟨rfl,rfl⟩
def IsM (_:List It) (j:Int):Prop:=j=-1
theorem KeepP.trans{T0:Tr}{w w1 w2:World}{G G1:Nat→Prop}{b:Nat}{T:TypeId}{rest:List Value}{items items1:List It}{R:List It→Int→Prop}{j:Int}(hp:items <+: items1)(fr:Fr w w1 G G1)(h:KeepP T0 w1 G1 b T rest items1 R j w2):KeepP T0 w G b T rest items R j w2:=by
 obtain ⟨i2,G2,h1,h2,h3,h4⟩:=h
 exact ⟨i2,G2,hp.trans h1,h2,h3,fr.trans h4⟩
theorem q2h{T0:Tr}{w:World}{G:Nat→Prop}{b:Nat}{T:TypeId}{rest:List Value}{items:List It}(h:PtO T0 w G b T rest items) :
  Calls Tryz.prog 151 #[.pointer (some ⟨b,0,none⟩),.int .i64 (-1)] w (KeepR T0 w G b T rest items IsM):=by
 have HQ:Hid (KeepP T0 w G b T rest items IsM (-1) w):=⟨items,G,List.prefix_refl _,rfl,h,Fr.ofBelow (Below.refl _ _)⟩
 clear h
 go_enter Tryz.func151,Tryz.ntmps151
 go_wp2
 go_ret
 exact ⟨-1,rfl,HQ.out⟩
theorem PtO.at{T0:Tr}{w:World}{G:Nat→Prop}{b:Nat}{T:TypeId}{rest:List Value}{items:List It}(h:PtO T0 w G b T rest items){i:Nat}{x:It}(hi:items[i]? = some x) :
  ∃ a n cap g o,w.cell? ⟨b,0,none⟩=some (.slice a n cap)∧(∀ w',(Instr.indexAt 72 (.slice a n cap) (.int .i64 (i:Int))).run Tryz.prog w'=.ok (.pointer (some ⟨g,o,none⟩)) w') ∧
   w.cell? ⟨g,o,none⟩=some (.int .u8 (x.op:Int))∧w.cell? ⟨g,o+1,none⟩=some (.int .u8 (x.p:Int))∧w.cell? ⟨g,o+2,none⟩=some (.int .i64 x.a)∧w.cell? ⟨g,o+3,none⟩=some (.int .i64 x.b):=by
 obtain ⟨texts,hp,_⟩:=h.ex
 obtain ⟨vi,mp,vt,hr,_⟩:=hp.ex
 obtain ⟨hi1,hi2⟩:=List.getElem?_eq_some_iff.1 hi
 rcases hr.ri.2 with ⟨e,e0⟩ | ⟨g,cap',cur,rfl,_,hcell,hnc,_,hsz,htk⟩
 ·omega
 ·have key:∀ j,j<items.length*4→w.cell? ⟨g,j,none⟩=(encI items)[j]? := fun j hj=>by
   rw[← htk,List.getElem?_take,if_pos hj]
   simp[World.cell?,hcell]
  obtain ⟨q0,q1,q2,q3⟩:=q3W items i hi1
  rw[hi2]at q0 q1 q2 q3
  refine ⟨_,_,_,g,4*i,hr.c0,fun w'=>?_,?_,?_,?_,?_⟩
  ·simp[Instr.indexAt,run_underlying Tryz.underlying72,asIntOf,qu q1b,hi1,Result.andThen,go_sem,qj,Nat.mul_comm]
  ·rw[key _ (by omega)];exact q0
  ·rw[key _ (by omega)];exact q1
  ·rw[key _ (by omega)];exact q2
  ·rw[key _ (by omega)];exact q3
theorem PtO.new{T0:Tr}{w:World}{G:Nat→Prop}{b:Nat}{T:TypeId}{rest:List Value}{items:List It}(h:PtO T0 w G b T rest items):¬ G w.heap.size:=fun e=>Nat.lt_irrefl _ (h.lt _ e)
theorem qh{w w':World}{G G':Nat→Prop}{B:Nat}{o:Obj}(h:w.heap[B]? = some o)(hB:¬ G B)(fr:Fr w w' G G'):w'.heap[B]? = some o∧¬ G' B :=
 ⟨(fr.keep B (Array.getElem?_eq_some_iff.1 h).1 hB).trans h,fr.out hB (Array.getElem?_eq_some_iff.1 h).1⟩
theorem q6H{T0:Tr}{w:World}{G:Nat→Prop}{b:Nat}{T:TypeId}{rest:List Value}{items:List It}(h:PtO T0 w G b T rest items)(i q:Nat)(hi:Rep items i (.leaf (2,q)))(hS:InC T0 (.un (6,0) (.leaf (2,q)))) :
  Calls Tryz.prog 151 #[.pointer (some ⟨b,0,none⟩),.int .i64 (i:Int)] w (KeepR T0 w G b T rest items (IsN (.un (6,0) (.leaf (2,q))))):=by
 have hx:items[i]? = some ⟨2,q,-1,-1⟩:=by cases hi with | leaf h=>exact h
 obtain ⟨a,n,cap,g,o,c0,hidx,x0,x1,x2,x3⟩:=h.at hx
 have hb:=qd w (itO ⟨2,q,-1,-1⟩)
 have hk:=q1L (h.up hb) ⟨6,0,(i:Int),-1⟩ (.un (6,0) (.leaf (2,q))) hS (it_ok (by omega) (by omega) (by have:=hi.lt;have:=h.few;omega) (by omega) (by omega)) (by show (i:Int)<_;have:=hi.lt;omega) (by show (-1:Int)<_;omega) (fun items' j hp hlow hj=>by
  exact .un (k:=(6,0)) (m:=i) hj (q96 (k:=(6,0)) hlow hj) (hi.pre hp))
 have hFr:Fr w (w.alloc (itO ⟨2,q,-1,-1⟩)) G G:=Fr.ofBelow hb
 have hne:((i:Int) == -1)=false:=by rw[beq_eq_false_iff_ne];omega
 unfold KeepR at *
 have HTR:Hid (∀ j w',KeepP T0 (w.alloc (itO ⟨2,q,-1,-1⟩)) G b T rest items (IsN (.un (6,0) (.leaf (2,q)))) j w'→KeepP T0 w G b T rest items (IsN (.un (6,0) (.leaf (2,q)))) j w'):=fun j w' h=>h.trans (List.prefix_refl _) hFr
 generalize KeepP T0 (w.alloc (itO ⟨2,q,-1,-1⟩)) G b T rest items (IsN (.un (6,0) (.leaf (2,q))))=Q at *
 generalize KeepP T0 w G b T rest items (IsN (.un (6,0) (.leaf (2,q))))=Q2 at *
 clear h hi hS hb hFr hx
 unfold itO at *
 unfold itV at hk
 dsimp only at *
 go_enter Tryz.func151,Tryz.ntmps151
 go_wp2_with fail
 refine hk.mono ?_
 rintro e w' ⟨j,rfl,hq⟩
 have HQ:Hid _:=HTR.out _ _ hq
 clear hk hq
 go_wp2
 go_ret
 exact ⟨j,rfl,HQ.out⟩
theorem q7U{T0:Tr}{w:World}{G:Nat→Prop}{b:Nat}{T:TypeId}{rest:List Value}{items:List It}(h:PtO T0 w G b T rest items)(i:Nat)(c:Tr)(hi:Rep items i (.un (6,0) c)) :
  Calls Tryz.prog 151 #[.pointer (some ⟨b,0,none⟩),.int .i64 (i:Int)] w (KeepR T0 w G b T rest items (IsN c)):=by
 obtain ⟨m,hx,hm⟩:∃ m:Nat,items[i]? = some ⟨6,0,(m:Int),-1⟩∧Rep items m c:=by cases hi with | un h h1 h2=>exact ⟨_,h,h2⟩
 obtain ⟨a,n,cap,g,o,c0,hidx,x0,x1,x2,x3⟩:=h.at hx
 have hb:=qd w (itO ⟨6,0,(m:Int),-1⟩)
 have HQ:Hid (KeepP T0 w G b T rest items (IsN c) (m:Int) (w.alloc (itO ⟨6,0,(m:Int),-1⟩))):=⟨items,G,List.prefix_refl _,⟨m,rfl,hm⟩,h.up hb,Fr.ofBelow hb⟩
 have hne:((i:Int) == -1)=false:=by rw[beq_eq_false_iff_ne];omega
 clear h hi hb hx hm
 unfold itO at *
 dsimp only at *
 go_enter Tryz.func151,Tryz.ntmps151
 go_wp2
 go_ret
 exact ⟨_,rfl,HQ.out⟩
theorem itV0(op:Nat)(a b:Int):itV ⟨op,0,a,b⟩=.agg #[.int .u8 (op:Int),.int .u8 0,.int .i64 a,.int .i64 b]:=rfl
def NgC (T0:Tr) (b:Nat) (T:TypeId) (rest:List Value) (items0:List It) (a:Int) (R:List It→Int→Prop):Prop :=
 ∀ (w:World) (G:Nat→Prop) (items:List It),items0 <+: items→PtO T0 w G b T rest items→Calls Tryz.prog 151 #[.pointer (some ⟨b,0,none⟩),.int .i64 a] w (KeepR T0 w G b T rest items R)
theorem q2i{T0:Tr}{w:World}{G:Nat→Prop}{b:Nat}{T:TypeId}{rest:List Value}{items:List It}(h:PtO T0 w G b T rest items)(i op p:Nat)(xa xb:Int)(hx:items[i]? = some ⟨op,p,xa,xb⟩)(ho:op=0∨op=1∨op=4∨op=5∨op=7∨op=8∨op=11∨op=12∨op=15∨op=16)
  (RA RB:List It→Int→Prop) (hA:NgC T0 b T rest items xa RA) (hB:NgC T0 b T rest items xb RB) (S:Tr) (hS:InC T0 S)
  (hfin:∀ i1 i2 ja jb,items <+: i1→i1 <+: i2→RA i1 ja→RB i2 jb→-1≤ja∧ja<(i2.length:Int)∧-1≤jb∧jb<(i2.length:Int)∧∀ i3 j,i2 <+: i3→Low i3→i3[j]? = some ⟨duO op,0,ja,jb⟩→Rep i3 j S) :
  Calls Tryz.prog 151 #[.pointer (some ⟨b,0,none⟩),.int .i64 (i:Int)] w (KeepR T0 w G b T rest items (IsN S)):=by
 obtain ⟨a,n,cap,g,o,c0,hidx,x0,x1,x2,x3⟩:=h.at hx
 have hb:=qd w (itO ⟨op,p,xa,xb⟩)
 have hne:((i:Int) == -1)=false:=by rw[beq_eq_false_iff_ne];omega
 have hbx:=(MapKept.heap_alloc w (itO ⟨op,p,xa,xb⟩)).1
 have hdu:op<256∧duO op<256:=by rcases ho with rfl | rfl | rfl | rfl | rfl | rfl | rfl | rfl | rfl | rfl <;> decide
 have hdual:=fun w=>q3u op w (by omega)
 have n2:((op:Int) == 2)=false:=by rw[beq_eq_false_iff_ne];omega
 have n6:((op:Int) == 6)=false:=by rw[beq_eq_false_iff_ne];omega
 have n17:((op:Int) == 17)=false:=by rw[beq_eq_false_iff_ne];omega
 have n18:((op:Int) == 18)=false:=by rw[beq_eq_false_iff_ne];omega
 have hwd:(w.alloc (itO ⟨op,p,xa,xb⟩)).drew.heap[w.heap.size]? = some (itO ⟨op,p,xa,xb⟩):=hbx
 have hPd:PtO T0 (w.alloc (itO ⟨op,p,xa,xb⟩)).drew G b T rest items:=(h.up hb).up (Below.refl _ _).drew
 have hn1:=hA _ _ _ (List.prefix_refl _) hPd
 have HNB:Hid (NgC T0 b T rest items xb RB):=hB
 have HF0:Hid (Fr w (w.alloc (itO ⟨op,p,xa,xb⟩)).drew G G):=Fr.ofBelow hb.drew
 have HBX:Hid _:=hwd
 have HNG:Hid (¬ G w.heap.size):=h.new
 have HFIN:Hid _:=hfin
 have HS:Hid _:=hS
 have HDU:Hid _:=hdu.2
 have cells:∀ w':World,w'.heap[w.heap.size]? = some (itO ⟨op,p,xa,xb⟩)→w'.cell? ⟨w.heap.size,0,none⟩=some (.int .u8 (op:Int))∧w'.cell? ⟨w.heap.size,2,none⟩=some (.int .i64 xa)∧w'.cell? ⟨w.heap.size,3,none⟩=some (.int .i64 xb):=fun w' e=>⟨qb e 0,qb e 2,qb e 3⟩
 have HCL:Hid _:=cells
 have hk0:=cells _ hwd
 have hk00:=cells _ hbx
 clear h hb hx ho hA hB hS hfin hdu cells hbx hwd hPd
 unfold KeepR at *
 unfold itO at *
 dsimp only at *
 go_enter Tryz.func151,Tryz.ntmps151
 go_upto_region 40 with fail
 go_region_held3 (fun w'=>w'.cell? ⟨w.heap.size,0,none⟩=some (.int .u8 (op:Int))∧w'.cell? ⟨w.heap.size,2,none⟩=some (.int .i64 xa)∧w'.cell? ⟨w.heap.size,3,none⟩=some (.int .i64 xb)) (first | exact hk0 | exact hk00 | assumption | fail) (first
  | (go_at_call 158;(with_reducible refine (hdual _).mono ?_);rintro e w' ⟨rfl,rfl⟩)
  | (revert hn1;intro hn1;go_at_call 151;(with_reducible refine hn1.mono ?_);rintro e w1 ⟨ja,rfl,i1,G1,hp1,hr1,hP1,fr1⟩;have hbk1:=qh HBX.out HNG.out fr1;have hk1:=HCL.out _ hbk1.1;have hn2:=HNB.out _ _ _ hp1 hP1)
  | (revert hn2;intro hn2;go_at_call 151;(with_reducible refine hn2.mono ?_);rintro e w2 ⟨jb,rfl,i2,G2,hp2,hr2,hP2,fr2⟩;have hbk2:=qh hbk1.1 hbk1.2 fr2;have hk2:=HCL.out _ hbk2.1;have hz:=HFIN.out i1 i2 ja jb hp1 hp2 hr1 hr2;have hn3:=q1L hP2 ⟨duO op,0,ja,jb⟩ S HS.out (it_ok HDU.out hz.1 (by have:=hP2.few;omega) hz.2.2.1 (by have:=hP2.few;omega)) hz.2.1 hz.2.2.2.1 hz.2.2.2.2;unfold KeepR at hn3;rw[itV0]at hn3)
  | (revert hn3;intro hn3;go_at_call 75;(with_reducible refine hn3.mono ?_);rintro e w3 ⟨j3,rfl,hq3⟩;have hk3:w3.cell? ⟨w.heap.size,0,none⟩=some (.int .u8 (op:Int))∧w3.cell? ⟨w.heap.size,2,none⟩=some (.int .i64 xa)∧w3.cell? ⟨w.heap.size,3,none⟩=some (.int .i64 xb):=(by obtain ⟨i4,G4,_,_,_,fr3⟩:=hq3;exact HCL.out _ (qh hbk2.1 hbk2.2 fr3).1);have HQ:Hid (KeepP T0 w G b T rest items (IsN S) j3 w3):=(hq3.trans (hp1.trans hp2) ((HF0.out.trans fr1).trans fr2)))
  | fail)
 all_goals
  clear hn1 hn2 hn3
  go_wp2
  go_ret
  exact ⟨j3,rfl,HQ.out⟩
theorem q7V{T0:Tr}{w:World}{G:Nat→Prop}{b:Nat}{T:TypeId}{rest:List Value}{items:List It}(h:PtO T0 w G b T rest items)(i op p m:Nat)(xb:Int)(hx:items[i]? = some ⟨op,p,(m:Int),xb⟩)(ho:op=17∨op=18)(c d:Tr)(hm:Rep items m c)
  (hB:NgC T0 b T rest items xb (IsN d)) (hS:InC T0 (.bin (duO op,0) c d)) :
  Calls Tryz.prog 151 #[.pointer (some ⟨b,0,none⟩),.int .i64 (i:Int)] w (KeepR T0 w G b T rest items (IsN (.bin (duO op,0) c d))):=by
 obtain ⟨a,n,cap,g,o,c0,hidx,x0,x1,x2,x3⟩:=h.at hx
 have hb:=qd w (itO ⟨op,p,(m:Int),xb⟩)
 have hne:((i:Int) == -1)=false:=by rw[beq_eq_false_iff_ne];omega
 have hbx:=(MapKept.heap_alloc w (itO ⟨op,p,(m:Int),xb⟩)).1
 have hdu:op<256∧duO op<256:=by rcases ho with rfl | rfl <;> decide
 have hdual:=fun w=>q3u op w (by omega)
 have n2:((op:Int) == 2)=false:=by rw[beq_eq_false_iff_ne];omega
 have n6:((op:Int) == 6)=false:=by rw[beq_eq_false_iff_ne];omega
 obtain ⟨f17,hf17⟩:∃ f:Bool,((op:Int) == 17)=f:=⟨_,rfl⟩
 have n18:f17=false→((op:Int) == 18)=true:=fun hf=>by
  rw[hf,beq_eq_false_iff_ne]at hf17
  rw[beq_iff_eq];omega
 have hwd:(w.alloc (itO ⟨op,p,(m:Int),xb⟩)).drew.heap[w.heap.size]? = some (itO ⟨op,p,(m:Int),xb⟩):=hbx
 have hPd:PtO T0 (w.alloc (itO ⟨op,p,(m:Int),xb⟩)).drew G b T rest items:=(h.up hb).up (Below.refl _ _).drew
 have hn1:=hB _ _ _ (List.prefix_refl _) hPd
 have HF0:Hid (Fr w (w.alloc (itO ⟨op,p,(m:Int),xb⟩)).drew G G):=Fr.ofBelow hb.drew
 have HBX:Hid _:=hwd
 have HNG:Hid (¬ G w.heap.size):=h.new
 have HM:Hid _:=hm
 have HS:Hid _:=hS
 have HDU:Hid _:=hdu.2
 have cells:∀ w':World,w'.heap[w.heap.size]? = some (itO ⟨op,p,(m:Int),xb⟩)→w'.cell? ⟨w.heap.size,0,none⟩=some (.int .u8 (op:Int))∧w'.cell? ⟨w.heap.size,2,none⟩=some (.int .i64 (m:Int))∧w'.cell? ⟨w.heap.size,3,none⟩=some (.int .i64 xb):=fun w' e=>⟨qb e 0,qb e 2,qb e 3⟩
 have HCL:Hid _:=cells
 have hk0:=cells _ hwd
 have hk00:=cells _ hbx
 clear h hb hx ho hB hS hdu cells hbx hwd hPd hm
 unfold KeepR at *
 unfold itO at *
 dsimp only at *
 cases f17 with
 | true =>
  clear n18
  go_enter Tryz.func151,Tryz.ntmps151
  go_upto_region 40 with fail
  go_region_held3 (fun w'=>w'.cell? ⟨w.heap.size,0,none⟩=some (.int .u8 (op:Int))∧w'.cell? ⟨w.heap.size,2,none⟩=some (.int .i64 (m:Int))∧w'.cell? ⟨w.heap.size,3,none⟩=some (.int .i64 xb)) (first | exact hk0 | exact hk00 | assumption | fail) (first
   | (go_at_call 158;(with_reducible refine (hdual _).mono ?_);rintro e w' ⟨rfl,rfl⟩)
   | (revert hn1;intro hn1;go_at_call 151;(with_reducible refine hn1.mono ?_);rintro e w1 ⟨ja,rfl,i1,G1,hp1,hr1,hP1,fr1⟩;obtain ⟨l1,rfl,hrl⟩:=hr1;have hbk1:=qh HBX.out HNG.out fr1;have hk1:=HCL.out _ hbk1.1;have hn2:=qW hP1 (duO op) HDU.out m l1 c d (HM.out.pre hp1) hrl HS.out;unfold KeepR at hn2)
   | (revert hn2;intro hn2;go_at_call 150;(with_reducible refine hn2.mono ?_);rintro e w3 ⟨j3,rfl,hq3⟩;have hk3:w3.cell? ⟨w.heap.size,0,none⟩=some (.int .u8 (op:Int))∧w3.cell? ⟨w.heap.size,2,none⟩=some (.int .i64 (m:Int))∧w3.cell? ⟨w.heap.size,3,none⟩=some (.int .i64 xb):=(by obtain ⟨i4,G4,_,_,_,fr3⟩:=hq3;exact HCL.out _ (qh hbk1.1 hbk1.2 fr3).1);have HQ:Hid (KeepP T0 w G b T rest items (IsN (.bin (duO op,0) c d)) j3 w3):=(hq3.trans hp1 (HF0.out.trans fr1)))
   | fail)
  all_goals
   clear hn1 hn2
   go_wp2
   go_ret
   exact ⟨j3,rfl,HQ.out⟩
 | false =>
  have n18':=n18 rfl
  clear n18
  go_enter Tryz.func151,Tryz.ntmps151
  go_upto_region 40 with fail
  go_region_held3 (fun w'=>w'.cell? ⟨w.heap.size,0,none⟩=some (.int .u8 (op:Int))∧w'.cell? ⟨w.heap.size,2,none⟩=some (.int .i64 (m:Int))∧w'.cell? ⟨w.heap.size,3,none⟩=some (.int .i64 xb)) (first | exact hk0 | exact hk00 | assumption | fail) (first
   | (go_at_call 158;(with_reducible refine (hdual _).mono ?_);rintro e w' ⟨rfl,rfl⟩)
   | (revert hn1;intro hn1;go_at_call 151;(with_reducible refine hn1.mono ?_);rintro e w1 ⟨ja,rfl,i1,G1,hp1,hr1,hP1,fr1⟩;obtain ⟨l1,rfl,hrl⟩:=hr1;have hbk1:=qh HBX.out HNG.out fr1;have hk1:=HCL.out _ hbk1.1;have hn2:=qW hP1 (duO op) HDU.out m l1 c d (HM.out.pre hp1) hrl HS.out;unfold KeepR at hn2)
   | (revert hn2;intro hn2;go_at_call 150;(with_reducible refine hn2.mono ?_);rintro e w3 ⟨j3,rfl,hq3⟩;have hk3:w3.cell? ⟨w.heap.size,0,none⟩=some (.int .u8 (op:Int))∧w3.cell? ⟨w.heap.size,2,none⟩=some (.int .i64 (m:Int))∧w3.cell? ⟨w.heap.size,3,none⟩=some (.int .i64 xb):=(by obtain ⟨i4,G4,_,_,_,fr3⟩:=hq3;exact HCL.out _ (qh hbk1.1 hbk1.2 fr3).1);have HQ:Hid (KeepP T0 w G b T rest items (IsN (.bin (duO op,0) c d)) j3 w3):=(hq3.trans hp1 (HF0.out.trans fr1)))
   | fail)
  all_goals
   clear hn1 hn2
   go_wp2
   go_ret
   exact ⟨j3,rfl,HQ.out⟩
theorem qcX{op:Nat}(h:op=0∨op=1∨op=4∨op=5):(kTr (.leaf (op,0))).2=.leaf (duO op,0):=by rcases h with rfl | rfl | rfl | rfl <;> rfl
theorem qcY{op:Nat}(h:op=7∨op=8)(c:Tr):(kTr (.un (op,0) c)).2=.un (duO op,0) (kTr c).2:=by rcases h with rfl | rfl <;> rfl
theorem qcZ{op:Nat}(h:op=11∨op=12∨op=15∨op=16)(c d:Tr):(kTr (.bin (op,0) c d)).2=.bin (duO op,0) (kTr c).2 (kTr d).2:=by rcases h with rfl | rfl | rfl | rfl <;> rfl
theorem qd0{op:Nat}(h:op=17∨op=18){c:Tr}(hc:KP c)(d:Tr):(kTr (.bin (op,0) c d)).2=.bin (duO op,0) c (kTr d).2:=by
 have e:=(qY c hc.wf hc.kr).1
 rcases h with rfl | rfl
 ·show Tr.bin (18,0) (kTr c).1 (kTr d).2=_;rw[e];rfl
 ·show Tr.bin (17,0) (kTr c).1 (kTr d).2=_;rw[e];rfl
theorem q1y{T0:Tr}{b:Nat}{T:TypeId}{rest:List Value}:∀ (S:Tr),KT S→S∈subL T0→∀ (items:List It) (i:Nat),Rep items i S→NgC T0 b T rest items (i:Int) (IsN (kTr S).2)
 | .leaf (op,p),hS,hin,items,i,hi=>by
  intro w G i1 hp hP
  have hi1:=hi.pre hp
  have hneg:=q4U hin hS
  rcases q1q hS with ⟨rfl,_⟩ | ⟨rfl,ho⟩
  ·exact q6H hP i p hi1 hneg
  ·have hx:i1[i]? = some ⟨op,0,-1,-1⟩:=by cases hi1 with | leaf h=>exact h
   rw[qcX ho]at hneg ⊢
   refine q2i hP i op 0 (-1) (-1) hx (by omega) IsM IsM (fun _ _ _ _ hP=>q2h hP) (fun _ _ _ _ hP=>q2h hP) _ hneg ?_
   rintro j1 j2 ja jb _ _ rfl rfl
   exact ⟨by omega,by omega,by omega,by omega,fun j3 j _ _ hj=>.leaf hj⟩
 | .un (op,p) c,hS,hin,items,i,hi=>by
  intro w G i1 hp hP
  have hi1:=hi.pre hp
  have hneg:=q4U hin hS
  rcases kt_un hS with ⟨rfl,⟨rfl,q,rfl⟩ | ⟨ho,hc⟩⟩
  ·exact q7U hP i _ hi1
  ·obtain ⟨m,hx,hm⟩:∃ m:Nat,i1[i]? = some ⟨op,0,(m:Int),-1⟩∧Rep i1 m c:=by cases hi1 with | un h h1 h2=>exact ⟨_,h,h2⟩
   rw[qcY ho]at hneg ⊢
   refine q2i hP i op 0 (m:Int) (-1) hx (by omega) (IsN (kTr c).2) IsM (q1y c hc (q2B hin) i1 m hm) (fun _ _ _ _ hP=>q2h hP) _ hneg ?_
   rintro j1 j2 ja jb h1 h2 ⟨a,rfl,ha⟩ rfl
   have:=(ha.pre h2).lt
   exact ⟨by omega,by omega,by omega,by omega,fun j3 j h3 hlow hj=>.un (k:=(duO op,0)) hj (q96 (k:=(duO op,0)) hlow hj) ((ha.pre h2).pre h3)⟩
 | .bin (op,p) c d,hS,hin,items,i,hi=>by
  intro w G i1 hp hP
  have hi1:=hi.pre hp
  have hneg:=q4U hin hS
  obtain ⟨rfl,ho⟩:=q1p hS
  obtain ⟨m,l,hx,hm,hl⟩:∃ m l:Nat,i1[i]? = some ⟨op,0,(m:Int),(l:Int)⟩∧Rep i1 m c∧Rep i1 l d:=by cases hi1 with | bin h h1 h2 h3 h4=>exact ⟨_,_,h,h3,h4⟩
  by_cases hw:op=17∨op=18
  ·obtain ⟨kc,kd⟩:=q1i hS hw
   rw[qd0 hw kc]at hneg ⊢
   exact q7V hP i op 0 m (l:Int) hx hw c (kTr d).2 hm (q1y d kd (qT hin).2 i1 l hl) hneg
  ·obtain ⟨kc,kd⟩:=qC hS (by omega)
   have ho4:op=11∨op=12∨op=15∨op=16:=by omega
   rw[qcZ ho4]at hneg ⊢
   refine q2i hP i op 0 (m:Int) (l:Int) hx (by omega) (IsN (kTr c).2) (IsN (kTr d).2) (q1y c kc (qT hin).1 i1 m hm) (q1y d kd (qT hin).2 i1 l hl) _ hneg ?_
   rintro j1 j2 ja jb h1 h2 ⟨a,rfl,ha⟩ ⟨e,rfl,he⟩
   have:=(ha.pre h2).lt
   have:=he.lt
   refine ⟨by omega,by omega,by omega,by omega,fun j3 j h3 hlow hj=>?_⟩
   obtain ⟨u,v⟩:=q74 (k:=(duO op,0)) hlow hj
   exact .bin (k:=(duO op,0)) hj u v ((ha.pre h2).pre h3) (he.pre h3)
def tkY (k:Tk):Nat:=k.1*8+k.2
def encY (ts:List Tk):List Value:=ts.map fun k=>.int .u8 (tkY k:Int)
theorem qbK(a b:List Tk):encY (a++b)=encY a++encY b:=by simp[encY]
structure GrowV (w w':World) (v v':Value):Prop where
 gr:w.grownBy w' v.ownBlock
 loc:v'.ownBlock=v.ownBlock∨∃ k,v'.ownBlock=some k∧w.heap.size≤k
theorem GrowV.refl(w:World)(v:Value):GrowV w w v v:=⟨World.grownBy.refl _ _,Or.inl rfl⟩
theorem GrowV.ofBelow{w w':World}(v:Value)(h:Below w.heap.size w w'):GrowV w w' v v:=⟨⟨h.os,h.tape,h.output,h.size,fun k hk _=>h.block k hk⟩,Or.inl rfl⟩
theorem GrowV.trans{w w1 w2:World}{v v1 v2:Value}(h:GrowV w w1 v v1)(k:GrowV w1 w2 v1 v2):GrowV w w2 v v2:=by
 refine ⟨⟨k.gr.os.trans h.gr.os,k.gr.tape.trans h.gr.tape,k.gr.output.trans h.gr.output,Nat.le_trans h.gr.size k.gr.size,fun j hj hn=>?_⟩,?_⟩
 ·refine (k.gr.block j (Nat.lt_of_lt_of_le hj h.gr.size) ?_).trans (h.gr.block j hj hn)
  rcases h.loc with e | ⟨q,e,hq⟩
  ·rw[e];exact hn
  ·rw[e];intro e2;injection e2 with e2;omega
 ·rcases k.loc with e | ⟨q,e,hq⟩
  ·rw[e]
   exact h.loc
  ·exact Or.inr ⟨q,e,Nat.le_trans h.gr.size hq⟩
def WrC (T0:Tr) (base:Nat) (G:Nat→Prop) (b:Nat) (T:TypeId) (rest:List Value) (items:List It) (a:Int) (ts:List Tk):Prop :=
 ∀ (w:World) (v:Value) (xs:List Tk),base≤w.heap.size→PtO T0 w G b T rest items→w.ownsRow base 5 1 v xs.length (encY xs)→xs.length+ts.length≤60000000 →
  Calls Tryz.prog 85 #[.pointer (some ⟨b,0,none⟩),v,.int .i64 a] w fun e w'=>∃ v',e=.returned v'∧GrowV w w' v v'∧w'.ownsRow base 5 1 v' (xs++ts).length (encY (xs++ts))
theorem q1V{T0:Tr}{base:Nat}{G:Nat→Prop}{b:Nat}{T:TypeId}{rest:List Value}{items:List It}:WrC T0 base G b T rest items (-1) []:=by
 intro w v xs hb hP hO _
 have HQ:Hid (w.ownsRow base 5 1 v (xs++[]).length (encY (xs++[]))):=by rw[List.append_nil];exact hO
 obtain ⟨a,cap,rfl⟩:=qt hO
 clear hP hO
 generalize xs.length=n at *
 go_enter Tryz.func85,Tryz.ntmps85
 go_wp2
 go_ret
 exact ⟨_,rfl,GrowV.refl _ _,HQ.out⟩
theorem q8d:(Tryz.prog.info? 5).map (fun i=>(i.zero,i.size,i.bytes))=some (some (.int .u8 0),1,1):=by kernel_rfl
theorem qcn{op p:Nat}(ho:op≤23)(hp:p≤7):bits .or .u8 ((op:Int)*8) (p:Int)=((op*8+p:Nat):Int):=by
 rcases q44 ho with rfl | rfl | rfl | rfl | rfl | rfl | rfl | rfl | rfl | rfl | rfl | rfl | rfl | rfl | rfl | rfl | rfl | rfl | rfl | rfl | rfl | rfl | rfl | rfl <;>
 ·have:p=0∨p=1∨p=2∨p=3∨p=4∨p=5∨p=6∨p=7:=by omega
  rcases this with rfl | rfl | rfl | rfl | rfl | rfl | rfl | rfl <;> decide
theorem q1W{T0:Tr}{base:Nat}{G:Nat→Prop}{b:Nat}{T:TypeId}{rest:List Value}{items:List It}(hG:∀ k,G k→k<base)(i op p:Nat)(xa xb:Int)(hx:items[i]? = some ⟨op,p,xa,xb⟩)(ho:op≤23)(hp:p≤7)(ta tb:List Tk)
  (hA:WrC T0 base G b T rest items xa ta) (hB:WrC T0 base G b T rest items xb tb):WrC T0 base G b T rest items (i:Int) (ta++tb++[(op,p)]):=by
 intro w v xs hb hP hO hn
 have hl:(ta++tb++[(op,p)]).length=ta.length+tb.length+1:=by simp[Nat.add_assoc]
 rw[hl]at hn
 obtain ⟨a,n,cap,g,o,c0,hidx,x0,x1,x2,x3⟩:=hP.at hx
 have hbn:=qd w (itO ⟨op,p,xa,xb⟩)
 have hne:((i:Int) == -1)=false:=by rw[beq_eq_false_iff_ne];omega
 have hbx:=(MapKept.heap_alloc w (itO ⟨op,p,xa,xb⟩)).1
 have hz:(w.alloc (itO ⟨op,p,xa,xb⟩)).heap.size=w.heap.size+1:=by simp
 have j1:=hA (w.alloc (itO ⟨op,p,xa,xb⟩)) v xs (by omega) (hP.up hbn) (q1r hO hbn) (by omega)
 have hge:=q36 hO
 have hlt:=qN hO
 have HP:Hid (∀ w' v',GrowV w w' v v'→PtO T0 w' G b T rest items):=fun w' v' hg=>hP.far fun k hk=>hg.gr.block k (by have:=hG k hk;omega) (fun e=>by have:=hG k hk;have:=hge k e.symm;omega)
 have HBXK:Hid (∀ w' v',GrowV (w.alloc (itO ⟨op,p,xa,xb⟩)) w' v v'→w'.heap[w.heap.size]? = some (itO ⟨op,p,xa,xb⟩)):=fun w' v' hg=>(hg.gr.block _ (by omega) (fun e=>by have:=hlt _ e.symm;omega)).trans hbx
 have HB:Hid (WrC T0 base G b T rest items xb tb):=hB
 have HG0:Hid (GrowV w (w.alloc (itO ⟨op,p,xa,xb⟩)) v v):=GrowV.ofBelow v hbn
 have HTB:Hid (bits .or .u8 ((op:Int)*8) (p:Int)=((op*8+p:Nat):Int)):=qcn ho hp
 have HN:Hid (xs.length+(ta.length+tb.length+1)≤60000000):=hn
 have HBS:Hid (base≤w.heap.size):=hb
 have HZ:Hid _:=hz
 have a2:(w.alloc (itO ⟨op,p,xa,xb⟩)).cell? ⟨w.heap.size,2,none⟩=some (.int .i64 xa):=qb hbx 2
 obtain ⟨sa,scap,rfl⟩:=qt hO
 clear hP hO hA hB hx hbn hbx hG hge hlt hn hl
 generalize hvv:Value.slice sa xs.length scap=v at *
 unfold itO at *
 dsimp only at *
 go_enter Tryz.func85,Tryz.ntmps85
 go_wp2_with fail
 refine j1.mono ?_
 rintro e w1 ⟨v1,rfl,hg1,ho1⟩
 have hbx1:=HBXK.out w1 v1 hg1
 have a3:w1.cell? ⟨w.heap.size,3,none⟩=some (.int .i64 xb):=qb hbx1 3
 have hsz1:=hg1.gr.size
 have j2:=HB.out w1 v1 (xs++ta) (by have:=HZ.out;have:=HBS.out;omega) (HP.out w1 v1 (HG0.out.trans hg1)) ho1 (by have:=HN.out;simp;omega)
 have HG1:Hid _:=hg1
 clear j1 hg1 ho1 hbx1 a2 c0 hidx x0 x1 x2 x3 hsz1
 go_wp2_with fail
 refine j2.mono ?_
 rintro e w2 ⟨v2,rfl,hg2,ho2⟩
 have HGA:Hid _:=HG1.out.trans hg2
 have HG2:Hid (GrowV w w2 v v2):=HG0.out.trans HGA.out
 have hbx2:=HBXK.out w2 v2 HGA.out
 have b0:w2.cell? ⟨w.heap.size,0,none⟩=some (.int .u8 (op:Int)):=qb hbx2 0
 have b1:w2.cell? ⟨w.heap.size,1,none⟩=some (.int .u8 (p:Int)):=qb hbx2 1
 obtain ⟨sb,bcap,rfl⟩:=qt ho2
 have HO2:Hid _:=ho2
 have hL:(xs++ta++tb).length≤60000000:=by have:=HN.out;simp;omega
 have HS2:Hid (w.heap.size≤w2.heap.size):=HG2.out.gr.size
 clear j2 hg2 ho2 hbx2 a3
 generalize hLL:(xs++ta++tb).length=L at *
 have HL:Hid _:=hLL
 clear hLL
 have hY:∀ y:Int,(w2.alloc (.cells #[.int .u8 y] 5)).cell? ⟨w2.heap.size,0,none⟩=some (.int .u8 y):=fun y=>qb (MapKept.heap_alloc w2 _).1 0
 have hOY:∀ y:Int,(w2.alloc (.cells #[.int .u8 y] 5)).ownsRow base 5 1 (.slice sb L bcap) L (encY (xs++ta++tb)):=fun y=>World.ownsRow.alloc HO2.out _
 go_wp2_with (at_builtin;refine q4E Tryz.underlying136 q8d rfl (by decide) rfl _ _ rfl base _ L (encY (xs++ta++tb)) _ w2.heap.size rfl rfl (hOY _) (hY _) rfl (by omega) (by have:=HBS.out;have:=HS2.out;simp;omega) ?_)
 intro v3 w3 hown3 hgr3 hloc3
 have e3:=HTB.out
 rw[e3]at hown3 hgr3
 have HO3:Hid (w3.ownsRow base 5 1 v3 (xs++(ta++tb++[(op,p)])).length (encY (xs++(ta++tb++[(op,p)])))):=by
  have e:xs++(ta++tb++[(op,p)])=xs++(ta++tb)++[(op,p)]:=by simp
  have e2:(xs++(ta++tb)).length=L:=by have:=HL.out;simpa using this
  show w3.ownsRow _ _ _ _ _ _
  rw[e,qbK,List.length_append,e2]
  exact hown3
 have hbn:=qd w2 (.cells #[.int .u8 ((op*8+p:Nat):Int)] 5)
 have HG3:Hid (GrowV w w3 v v3):=HG2.out.trans ((GrowV.ofBelow _ hbn).trans ⟨hgr3,hloc3.imp id fun e=>⟨_,e,by simp⟩⟩)
 obtain ⟨s3,cap3,rfl⟩:=qt HO3.out
 clear hown3 hgr3 hloc3 hbn hY hOY HO2 e3
 go_wp2
 go_ret
 exact ⟨_,rfl,HG3.out,HO3.out⟩
theorem q1G{T0:Tr}{base:Nat}{G:Nat→Prop}{b:Nat}{T:TypeId}{rest:List Value}{items:List It}(hG:∀ k,G k→k<base):∀ (S:Tr),S.WF→∀ i,Rep items i S→WrC T0 base G b T rest items (i:Int) S.flat
 | .leaf (op,p),hw,i,hi=>by
  have hx:items[i]? = some ⟨op,p,-1,-1⟩:=by cases hi with | leaf h=>exact h
  have hs:=q1x _ hw (op,p) (by simp[Tr.flat])
  exact q1W hG i op p (-1) (-1) hx hs.1 hs.2 [] [] q1V q1V
 | .un (op,p) c,hw,i,hi=>by
  obtain ⟨m,hx,hm⟩:∃ m:Nat,items[i]? = some ⟨op,p,(m:Int),-1⟩∧Rep items m c:=by cases hi with | un h h1 h2=>exact ⟨_,h,h2⟩
  have hs:=q1x _ hw (op,p) (by simp[Tr.flat])
  have h:WrC T0 base G b T rest items (i:Int) (c.flat++[]++[(op,p)]):=q1W hG i op p (m:Int) (-1) hx hs.1 hs.2 c.flat [] (q1G hG c (qE hw).2.1 m hm) q1V
  rw[List.append_nil]at h
  exact h
 | .bin (op,p) c d,hw,i,hi=>by
  obtain ⟨m,l,hx,hm,hl⟩:∃ m l:Nat,items[i]? = some ⟨op,p,(m:Int),(l:Int)⟩∧Rep items m c∧Rep items l d:=by cases hi with | bin h h1 h2 h3 h4=>exact ⟨_,_,h,h3,h4⟩
  have hs:=q1x _ hw (op,p) (by simp[Tr.flat])
  exact q1W hG i op p (m:Int) (l:Int) hx hs.1 hs.2 c.flat d.flat (q1G hG c (qz hw).2.1 m hm) (q1G hG d (qz hw).2.2.1 l hl)
theorem qaj{w:World}{base n:Nat}{v:Value}{ts:List Tk}(h:w.ownsRow base 5 1 v n (encY ts))(hs:∀ k∈ts,k.1≤23∧k.2≤7):(convert 136 9 v).run Tryz.prog w=.ok (.string ⟨(ts.map fun k=>UInt8.ofNat (k.1*8+k.2)).toArray⟩) w:=by
 have hl:ts.length=n:=by have:=h.1;simpa [encY] using this
 rcases h.2 with ⟨rfl,h0⟩ | ⟨g,cap,cur,hv,hg,hcell,hnc,hcm,hsz,htk⟩
 ·obtain rfl:ts=[]:=List.eq_nil_of_length_eq_zero (by omega)
  rw[run_convert_bytes_string w 136 9 5 none 0 0 Tryz.underlying136 Tryz.underlying5 Tryz.underlying9]
  simp[Conv.bytesToString]
  rfl
 ·subst hv hl
  have e:ts.length=(ts.map fun k=>UInt8.ofNat (k.1*8+k.2)).length:=by simp
  have key:=run_convert_bytes_back (P:=Tryz.prog) w 136 9 5 ⟨g,0,none⟩ cap (ts.map fun k=>UInt8.ofNat (k.1*8+k.2)) Tryz.underlying136 Tryz.underlying5 Tryz.underlying9 (fun j hj=>by
   have hj':j<ts.length:=by simpa using hj
   have hk:(cur.toList.take (ts.length*1))[j]? = some (.int .u8 (tkY ts[j]:Int)):=by rw[htk];simp[encY,hj']
   rw[List.getElem?_take,if_pos (by omega)]at hk
   have hb:=hs _ (List.getElem_mem hj')
   rw[qj,Nat.zero_add]
   simp[World.cell?,hcell]
   have e2:(UInt8.ofNat (ts[j].1*8+ts[j].2)).toNat=tkY ts[j]:=by
    unfold tkY
    simp
    omega
   rw[show cur[j]? = cur.toList[j]? by simp,hk,← e2]
   simp)
  rw[← e]at key
  exact key
theorem qa4{w:World}{base e n i:Nat}{v:Value}{xs:List Value}(h:w.ownsRow base e 1 v n xs)(hi:i<n)(y:Value):∃ g cap,v=.slice (some ⟨g,0,none⟩) n cap∧base≤g∧n≤cap∧w.cell? ⟨g,i,none⟩=xs[i]? ∧ w.frozen? ⟨g,i,none⟩=false∧(w.setCell ⟨g,i,none⟩ y).ownsRow base e 1 v n (xs.set i y):=by
 obtain ⟨hl,h⟩:=h
 rcases h with ⟨rfl,h0⟩ | ⟨g,cap,cur,rfl,hg,hcell,hnc,hcm,hsz,htk⟩
 ·omega
 ·have hcu:cur.toList.length=cap:=by simpa using hsz
  refine ⟨g,cap,rfl,hg,hnc,?_,frozen_of_row w g i _ _ hcell,by simpa using hl,Or.inr ⟨g,cap,cur.setIfInBounds i y,rfl,hg,heap_setCell_same w g i _ _ y hcell,hnc,hcm,by simpa using hsz,?_⟩⟩
  ·rw[qb hcell i,← htk,List.getElem?_take,if_pos (by omega)]
   simp
  ·rw[← htk]
   simp[List.take_set]
theorem qdG(S:Tr):txB S≠⟨#[]⟩:=by
 intro h
 have h1:(S.flat.map fun k=>UInt8.ofNat (k.1*8+k.2)).toArray=#[]:=congrArg ByteArray.data h
 have h2:=congrArg Array.size h1
 simp at h2
 have h3:=q1Y S
 have:=q5I S
 rw[h2]at h3
 simp at h3
 omega
theorem q5K(S:Tr):(txB S).size=S.size:=by
 show (S.flat.map fun k=>UInt8.ofNat (k.1*8+k.2)).toArray.size=_
 simp[q1Y]
theorem PtR.setT{w:World}{b mp n i:Nat}{T:TypeId}{rest:List Value}{vi vt:Value}{items:List It}{texts:List ByteArray}{f:It→Option Nat}(h:PtR w b T rest vi mp vt items texts n f)(hi:i<texts.length)(s:ByteArray) :
  ∃ g cap,vt=.slice (some ⟨g,0,none⟩) texts.length cap∧texts.length≤cap∧w.cell? ⟨g,i,none⟩=some (.string texts[i])∧w.frozen? ⟨g,i,none⟩=false∧PtR (w.setCell ⟨g,i,none⟩ (.string s)) b T rest vi mp vt items (texts.set i s) n f∧Fr w (w.setCell ⟨g,i,none⟩ (.string s)) (FP b mp vi vt) (FP b mp vi vt):=by
 obtain ⟨g,cap,rfl,_,hnc,hc,hz,ho⟩:=qa4 h.rt hi (.string s)
 have hgb:b≠g:=fun e=>h.tb (by rw[e];rfl)
 have hgm:mp≠g:=fun e=>h.tm (by rw[e];rfl)
 have st:∀ k,k≠g→(w.setCell ⟨g,i,none⟩ (.string s)).heap[k]? = w.heap[k]? := fun k hk=>Below.heap_setCell _ _ _ _ hk
 refine ⟨g,cap,rfl,hnc,by rw[hc];simp[hi],hz,⟨h.ty,(st b hgb).trans h.blk,qp h.ri fun k hk=>st k (fun e=>h.it k hk (by rw[e];rfl)),?_,h.num.far (st mp hgm)⟩,rfl,rfl,rfl,by simp,fun k hk hF=>st k (fun e=>hF (Or.inr (Or.inr (Or.inr (by rw[e];rfl))))),fun _ hk=>Or.inl hk⟩
 rw[List.length_set,List.map_set]
 exact ho
def TextP (T0:Tr) (w:World) (G:Nat→Prop) (b:Nat) (T:TypeId) (rest:List Value) (items:List It) (w':World):Prop:=PtO T0 w' G b T rest items∧Fr w w' G G
theorem q2j{T0:Tr}{w:World}{G:Nat→Prop}{b:Nat}{T:TypeId}{rest:List Value}{items:List It}(h:PtO T0 w G b T rest items)(i:Nat)(S:Tr)(hi:Rep items i S)(hS:InC T0 S) :
  Calls Tryz.prog 58 #[.pointer (some ⟨b,0,none⟩),.int .i64 (i:Int)] w fun e w'=>e=.returned (.string (txB S))∧TextP T0 w G b T rest items w':=by
 obtain ⟨texts,hp,ht⟩:=h.ex
 obtain ⟨vi,mp,vt,hr,hG⟩:=hp.ex
 have hil:i<texts.length:=by rw[hp.tl];exact hi.lt
 obtain ⟨g,cap,rfl,hcap,hc,hz,hr2,fr2⟩:=hr.setT hil (txB S)
 have c2:=hr.c2
 have hidx:∀ w',(Instr.indexAt 74 (.slice (some ⟨g,0,none⟩) texts.length cap) (.int .i64 (i:Int))).run Tryz.prog w'=.ok (.pointer (some ⟨g,i,none⟩)) w':=fun w'=>by
  simp[Instr.indexAt,run_underlying Tryz.underlying74,asIntOf,qu (show (Tryz.prog.info? 9).map (·.size)=some 1 by kernel_rfl),hil,Result.andThen,go_sem,qj]
 have hk:=q2o h.t0.kt hS
 have hw:S.WF:=by rcases hk with k | k <;> exact k.wf
 have hti:texts[i]? = some texts[i]:=List.getElem?_eq_getElem hil
 rcases ht i S hi with h0 | h1
 ·rw[hti]at h0
  injection h0 with h0
  rw[h0]at hc
  have hglt:∀ k,G k→k<w.heap.size:=h.lt
  have hsz:=(q31 h.t0.sz hS).1
  have hfl:=q1Y S
  have hwr:=q1G (T0:=T0) (T:=T) (b:=b) (rest:=rest) hglt S hw i hi w.drew (.slice none 0 0) [] (Nat.le_refl _) (h.up (Below.refl _ _).drew) ⟨rfl,Or.inl ⟨rfl,rfl⟩⟩ (by simp;omega)
  have HW1:Hid (∀ w1 v1,GrowV w.drew w1 (.slice none 0 0) v1→w1.ownsRow w.heap.size 5 1 v1 ([]++S.flat).length (encY ([]++S.flat))→(convert 136 9 v1).run Tryz.prog w1=.ok (.string (txB S)) w1∧w1.cell? ⟨b,2,none⟩=some (.slice (some ⟨g,0,none⟩) texts.length cap)∧w1.cell? ⟨g,i,none⟩=some (.string ⟨#[]⟩)∧w1.frozen? ⟨g,i,none⟩=false ∧
    (w1.setCell ⟨g,i,none⟩ (.string (txB S))).cell? ⟨b,2,none⟩=some (.slice (some ⟨g,0,none⟩) texts.length cap)∧(w1.setCell ⟨g,i,none⟩ (.string (txB S))).cell? ⟨g,i,none⟩=some (.string (txB S))∧TextP T0 w G b T rest items (w1.setCell ⟨g,i,none⟩ (.string (txB S)))):=by
   intro w1 v1 hg1 ho1
   have hb1:Below w.heap.size w w1:=⟨hg1.gr.os,hg1.gr.tape,hg1.gr.output,hg1.gr.size,fun k hk=>hg1.gr.block k hk (fun e=>by cases e)⟩
   have hr1:=hr.up hb1
   obtain ⟨g',cap',e,_,hc',hz',hr2',fr2'⟩:=hr1.setT hil (txB S)
   injection e with e1 e2 e3
   injection e1 with e1
   injection e1 with e1
   subst e1 e3
   obtain ⟨cs,hcs⟩:∃ cs,(w1.setCell ⟨g,i,none⟩ (.string (txB S))).heap[g]? = some (.cells cs 9 (0,0)):=qbr hr2'.rt rfl
   have hown:=qa4 hr2'.rt (i:=i) (by rw[List.length_set];exact hil) (.string (txB S))
   obtain ⟨g2,cap2,e2,_,_,hc2,_⟩:=hown
   injection e2 with e2 _ _
   injection e2 with e2
   injection e2 with e2
   subst e2
   refine ⟨qaj ho1 (q1x S hw),hr1.c2,by rw[hc',h0],hz',hr2'.c2,by rw[hc2];simp[hil],⟨h.t0,h.low,h.cov,texts.set i (txB S),⟨hp.nd,by rw[List.length_set];exact hp.tl,hp.few,hp.ok,fun s hs=>?_,vi,mp,_,hr2',hG⟩,fun n S' hn=>?_⟩,?_⟩
   ·rcases List.mem_or_eq_of_mem_set hs with hs | rfl
    ·exact hp.tok s hs
    ·unfold SOk;rw[q5K];omega
   ·by_cases e:n=i
    ·subst e
     have:=Rep.tree hi hn
     subst this
     exact Or.inr (by simp[hil])
    ·rw[List.getElem?_set_ne (fun h=>e h.symm)]
     exact ht n S' hn
   ·exact ((Fr.ofBelow hb1).trans fr2').alike (fun k hk=>(hG k).2 hk) (fun k hk=>(hG k).1 hk)
  have hz0:((⟨#[]⟩:ByteArray).toList == ([]:List UInt8))=true:=by rw[ByteArray.toList_eq];rfl
  clear h hp ht hr hr2 fr2 hG hi hS hk hw hti h0 hglt hsz hfl
  generalize txB S=s at *
  generalize S.flat=fl at *
  generalize texts.length=L at *
  go_enter Tryz.func58,Tryz.ntmps58
  go_upto_region 40 with fail
  go_region_with (first
   | (go_at_call 85;(with_reducible refine hwr.mono ?_);rintro e w1 ⟨v1,rfl,hg1,ho1⟩;have hq:=HW1.out w1 v1 hg1 ho1;have q1:=hq.1;have q0:=hq.2.1;have q2:=hq.2.2.1;have q3:=hq.2.2.2.1)
   | fail)
  all_goals
   have q4:=hq.2.2.2.2.1
   have q5:=hq.2.2.2.2.2.1
   have HQ:Hid _:=hq.2.2.2.2.2.2
   clear hwr hq q0 q1 q2 q3 hg1 ho1 HW1 c2 hc hz
   generalize w1.setCell ⟨g,i,none⟩ (.string s)=w2 at *
   go_wp2
   go_ret
   exact ⟨rfl,HQ.out⟩
 ·rw[hti]at h1
  injection h1 with h1
  rw[h1]at hc
  have hne:((txB S).toList == ([]:List UInt8))=false:=by
   rw[beq_eq_false_iff_ne]
   intro e
   refine qdG S ?_
   have:(txB S).toList=(txB S).data.toList:=by rw[ByteArray.toList_eq]
   rw[this]at e
   have e2:(txB S).data=#[]:=by simpa using e
   exact congrArg ByteArray.mk e2
  have HQ:Hid (TextP T0 w G b T rest items w):=⟨h,Fr.ofBelow (Below.refl _ _)⟩
  clear h hp ht hr hr2 fr2 hG hi hS hk hw hti h1
  generalize txB S=s at *
  go_enter Tryz.func58,Tryz.ntmps58
  go_wp2
  go_ret
  exact ⟨rfl,HQ.out⟩
theorem q6Q{w:World}{ops:Array Oper}{o:Oper}{a:Act}{K:Act→World→Prop}{Q:Exit→Act→World→Prop}{E:Prop}(hw:Region.wanted o (yielded ops a.tmps)=true)(m x:Operand)
  (ho:o.op=.call { callee:=.builtin .delete,args:=#[m,x],argTypes:=#[73,124] }) (b n:Nat) (f:It→Option Nat) (y:It) (hm:a.eval m=.map (some b)) (hx:a.eval x=itV y)
  (h:NumOf w b n f) (hy:ItOk y) (hf:(f y).isSome=true)
  (hK:∀ w',NumOf w' b (n - 1) (fun z=>if z=y then none else f z)→w.grownBy w' (some b)→K (a.put o.dst (.tuple #[])) w') :
  if Region.wanted o (yielded ops a.tmps)=true then Oper.wp Tryz.prog o a w K Q else E:=by
 rw[if_pos hw]
 obtain ⟨w',hr,h1,h2⟩:=h.drop hy hf o.type
 unfold Oper.wp execOp
 simp only[ho,resolve,invoke,builtin,Sem.run_bind,Sem.run_pure,Result.andThen_ok,List.map_toArray,List.map_cons,List.map_nil,hm,hx,hr]
 exact hK w' h1 h2
def outI (items:List It) (n i:Nat) (y:It):Option Nat:=(posI items y).bind fun j=>if n≤j∧j<n+i then none else some j
theorem qbo(items:List It)(n:Nat)(y:It):posI items y=outI items n 0 y:=by
 unfold outI
 cases posI items y with
 | none=>rfl
 | some j=>simp only[Option.bind_some];rw[if_neg (by omega)]
theorem qbn{items:List It}(hn:items.Nodup){n i:Nat}(h:n+i<items.length)(y:It):(if y=items[n+i] then none else outI items n i y)=outI items n (i+1) y:=by
 unfold outI
 by_cases e:y=items[n+i]
 ·rw[if_pos e,(q25 hn (j:=n+i)).2 (by rw[e];exact List.getElem?_eq_getElem h)]
  simp only[Option.bind_some]
  rw[if_pos (by omega)]
 ·rw[if_neg e]
  cases hp:posI items y with
  | none=>rfl
  | some j =>
   have hj:=(q25 hn).1 hp
   have:j≠n+i:=fun he=>e (by subst he;rw[List.getElem?_eq_getElem h]at hj;injection hj with hj;exact hj.symm)
   simp only[Option.bind_some]
   by_cases c:n≤j∧j<n+i
   ·rw[if_pos c,if_pos (by omega)]
   ·rw[if_neg c,if_neg (by omega)]
theorem qaD{items:List It}(hn:items.Nodup){n i:Nat}(h:n+i<items.length):(outI items n i items[n+i]).isSome=true:=by
 unfold outI
 rw[(q25 hn (j:=n+i)).2 (List.getElem?_eq_getElem h)]
 simp only[Option.bind_some]
 rw[if_neg (by omega)]
 rfl
theorem qc5{items:List It}(hn:items.Nodup){n:Nat}(h:n≤items.length)(y:It):outI items n (items.length - n) y=posI (items.take n) y:=by
 unfold outI
 cases hp:posI items y with
 | none =>
  rw[q1k]at hp
  exact (q1k.2 (fun hy=>hp (List.mem_of_mem_take hy))).symm
 | some j =>
  have hj:=(q25 hn).1 hp
  have hl:=qd4 hp
  simp only[Option.bind_some]
  by_cases c:j<n
  ·rw[if_neg (by omega)]
   refine ((q25 (hn.sublist (List.take_sublist _ _))).2 ?_).symm
   rw[List.getElem?_take,if_pos c];exact hj
  ·rw[if_pos (by omega)]
   refine (q1k.2 fun hy=>?_).symm
   obtain ⟨i,hi⟩:=List.mem_iff_getElem?.1 hy
   rw[List.getElem?_take]at hi
   by_cases ci:i<n
   ·rw[if_pos ci]at hi
    have:=q35 hn hi hj
    omega
   ·rw[if_neg ci]at hi;cases hi
theorem qd8{w:World}{a:Option Addr}{n cap m:Nat}{items:List It}(h:w.ownsRow 0 124 4 (.slice a n cap) n (encI items))(hl:items.length=n)(hm:m≤n) :
  ∃ a',(∀ w',(Instr.sliceAt 72 (.slice a n cap) (some (.int .i64 (m:Int))) none none).run Tryz.prog w'=.ok (.slice a' (n - m) (cap - m)) w') ∧
   ∀ k (x:It),items[m+k]? = some x→∃ g o,(∀ w',(Instr.indexAt 72 (.slice a' (n - m) (cap - m)) (.int .i64 (k:Int))).run Tryz.prog w'=.ok (.pointer (some ⟨g,o,none⟩)) w') ∧
    ∀ w':World,w'.ownsRow 0 124 4 (.slice a n cap) n (encI items)→w'.cell? ⟨g,o,none⟩=some (.int .u8 (x.op:Int))∧w'.cell? ⟨g,o+1,none⟩=some (.int .u8 (x.p:Int))∧w'.cell? ⟨g,o+2,none⟩=some (.int .i64 x.a)∧w'.cell? ⟨g,o+3,none⟩=some (.int .i64 x.b):=by
 rcases h.2 with ⟨e,e0⟩ | ⟨g,cap',cur,e,_,hcell,hnc,_,hsz,htk⟩
 ·injection e with e1 _ e3
  subst e1 e3 e0
  obtain ⟨a',h1,_⟩:=cut_n (P:=Tryz.prog) Tryz.underlying72 q1b none 0 0 m hm (Nat.le_refl _) (fun _=>rfl)
  exact ⟨a',h1,fun k x hk=>absurd (List.getElem?_eq_some_iff.1 hk).1 (by omega)⟩
 ·injection e with e1 _ e3
  subst e1 e3
  obtain ⟨a',h1,_,h3⟩:=cut_n (P:=Tryz.prog) Tryz.underlying72 q1b (some ⟨g,0,none⟩) n cap m hm hnc (fun e=>by cases e)
  refine ⟨a',h1,fun k x hx=>?_⟩
  obtain ⟨hk,rfl⟩:=List.getElem?_eq_some_iff.1 hx
  have ha:=h3 (by omega) _ rfl
  rw[qj,Nat.zero_add]at ha
  subst ha
  have hkn:k<n - m:=by omega
  refine ⟨g,4*(m+k),fun w'=>?_,fun w' ho=>?_⟩
  ·simp[Instr.indexAt,run_underlying Tryz.underlying72,asIntOf,qu q1b,hkn,Result.andThen,go_sem,qj,Nat.mul_comm]
  ·rcases ho.2 with ⟨e,e0⟩ | ⟨g',cap',cur',e,_,hcell',hnc',_,hsz',htk'⟩
   ·cases e
   ·injection e with e1 _ e3
    injection e1 with e1
    injection e1 with e1 _ _
    subst e1
    have key:∀ j,j<n*4→w'.cell? ⟨g,j,none⟩=(encI items)[j]? := fun j hj=>by
     rw[← htk',List.getElem?_take,if_pos hj]
     simp[World.cell?,hcell']
    obtain ⟨q0,q1,q2,q3⟩:=q3W items (m+k) hk
    refine ⟨?_,?_,?_,?_⟩
    ·rw[key _ (by omega)];exact q0
    ·rw[key _ (by omega)];exact q1
    ·rw[key _ (by omega)];exact q2
    ·rw[key _ (by omega)];exact q3
structure Cut (w wr:World) (t mb L i n:Nat) (a:Option Addr) (cap:Nat) (items:List It):Prop where
 num:NumOf wr mb (L - i) (outI items n i)
 gr:w.grownBy wr (some mb)
theorem Cut.blk{w wr:World}{t mb i n cap:Nat}{a:Option Addr}{items:List It}(h:TabR w t a items.length cap mb items)(c:Cut w wr t mb items.length i n a cap items):wr.heap[t]? = some (.cells #[tbV t,.slice a items.length cap,.map (some mb)] 158 (0,0))∧wr.ownsRow 0 124 4 (.slice a items.length cap) items.length (encI items):=by
 obtain ⟨es,cl,hmap⟩:=h.num.isMap
 have hmt:t≠mb:=fun e=>by rw[← e,h.blk]at hmap;cases hmap
 have hnm:(Value.slice a items.length cap).ownBlock≠some mb:=q3G h.row hmap (fun cs e=>by cases e)
 have st:∀ k,k<w.heap.size→k≠mb→wr.heap[k]? = w.heap[k]? := fun k hk hne=>c.gr.block k hk (fun e=>hne (by injection e))
 exact ⟨(st t (Array.getElem?_eq_some_iff.1 h.blk).1 hmt).trans h.blk,qp h.row fun k hk=>st k (qN h.row k hk) (fun e=>hnm (e ▸ hk))⟩
theorem qcA{w wr:World}{F:Nat→Prop}{t mb n cap:Nat}{a:Option Addr}{items:List It}(hI:TabI w F t items)(h:TabR w t a items.length cap mb items)(hF:∀ k,F k↔(k=t∨k=mb∨(Value.slice a items.length cap).ownBlock=some k))(hn:n≤items.length)
  (c:Cut w wr t mb items.length (items.length - n) n a cap items):TabI (wr.setCell ⟨t,1,none⟩ (.slice a n cap)) F t (items.take n)∧Fr w (wr.setCell ⟨t,1,none⟩ (.slice a n cap)) F F:=by
 obtain ⟨h1,h2⟩:=c.blk h
 obtain ⟨es,cl,hmap⟩:=c.num.isMap
 have hmt:mb≠t:=fun e=>by rw[e,h1]at hmap;cases hmap
 have hne:(Value.slice a items.length cap).ownBlock≠some t:=q3G h2 h1 (fun cs e=>by injection e with _ e _;exact absurd e (by decide))
 have hlen:(items.take n).length=n:=by simp;omega
 obtain ⟨a',cap',e,_,_,_,h4,h5⟩:=q3H h2 hn
 injection e with e1 _ e3
 subst e1 e3
 rw[qaW]at h4
 refine ⟨⟨hI.nd.sublist (List.take_sublist _ _),by have:=hI.few;omega,fun x hx=>hI.ok x (List.mem_of_mem_take hx),.slice a n cap,mb,?_,?_,?_,fun k=>?_⟩,?_⟩
 ·rw[heap_setCell_same wr t 1 _ _ _ h1];rfl
 ·rw[hlen]
  refine qp h4 fun k hk=>Below.heap_setCell _ _ _ _ ?_
  dsimp only
  rintro rfl
  rw[h5]at hk;exact hne hk
 ·rw[hlen]
  have:=c.num
  rw[show items.length - (items.length - n)=n by omega]at this
  exact (this.far (Below.heap_setCell _ _ _ _ (by dsimp only;exact hmt))).alike fun y _=>qc5 hI.nd hn y
 ·rw[h5];exact hF k
 ·refine ⟨c.gr.os,c.gr.tape,c.gr.output,by have:=c.gr.size;simpa using this,fun k hk hf=>?_,fun _ hk=>Or.inl hk⟩
  have hf':=fun e=>hf ((hF k).2 e)
  exact (Below.heap_setCell _ _ _ _ (by dsimp only;exact fun e=>hf' (Or.inl e))).trans (c.gr.block k hk (fun e=>hf' (Or.inr (Or.inl (by injection e)))))
theorem q81{w:World}{F:Nat→Prop}{t:Nat}{items:List It}(h:TabI w F t items)(n:Nat)(hn:n≤items.length) :
  Calls Tryz.prog 109 #[.pointer (some ⟨t,0,none⟩),.int .i64 (n:Int)] w fun e w'=>e=.returned (.tuple #[])∧TabI w' F t (items.take n)∧Fr w w' F F:=by
 obtain ⟨a,cap,mb,hr,hF⟩:=h.read
 have c1:=hr.c1
 obtain ⟨a',hcut,hat⟩:=qd8 hr.row rfl hn
 have hpre:=fun w'=>pre_n (P:=Tryz.prog) Tryz.underlying72 q1b a items.length cap n hn hr.hc hr.nn w'
 have HR:Hid _:=hr
 have HF:Hid _:=hF
 have HI:Hid _:=h
 have HAT:Hid _:=hat
 have HC0:Hid (Cut w w t mb items.length 0 n a cap items):=⟨hr.num.alike fun y _=>qbo items n y,⟨rfl,rfl,rfl,Nat.le_refl _,fun _ _ _=>rfl⟩⟩
 have HN:Hid (n≤items.length):=hn
 have hfew:=h.few
 clear h hr hF hat hn
 generalize hL:items.length=L at *
 have HL:Hid (items.length=L):=hL
 clear hL
 go_enter Tryz.func109,Tryz.ntmps109
 go_wp2
 go_loopw [13] (fun i wr=>∃ k:Nat,k≤L - n∧i=.int .i64 k∧Hid (Cut w wr t mb L k n a cap items)) (fun i _=>(L - n) - (intOf i).toNat)
 case atStart=>exact ⟨0,Nat.zero_le _,rfl,HC0⟩
 case round =>
  obtain ⟨k,hk,rfl,HC⟩:=hrel
  clear HC0 c1
  by_cases hlt:k<L - n
  ·have hkl:n+k<items.length:=by have:=HL.out;omega
   have hx:items[n+k]? = some items[n+k]:=List.getElem?_eq_getElem hkl
   have HX:Hid (ItOk items[n+k]):=HI.out.ok _ (List.getElem_mem hkl)
   have HTH:Hid ((outI items n k items[n+k]).isSome=true):=qaD HI.out.nd hkl
   have HNX:Hid (∀ y,(if y=items[n+k] then none else outI items n k y)=outI items n (k+1) y):=fun y=>qbn HI.out.nd hkl y
   obtain ⟨g,o,hio,hcs⟩:=HAT.out k _ hx
   have HB:Hid _:=(show Cut w wr t mb items.length k n a cap items by rw[HL.out];exact HC.out).blk (by rw[HL.out];exact HR.out)
   rw[HL.out]at HB
   obtain ⟨q0,q1,q2,q3⟩:=hcs wr HB.out.2
   generalize items[n+k]=x at *
   obtain ⟨op,p,xa,xb⟩:=x
   dsimp only at q0 q1 q2 q3
   clear hx hkl hcs
   have hb1:=qd wr (.cells #[.int .u8 (op:Int),.int .u8 (p:Int),.int .i64 xa,.int .i64 xb] 124)
   have c2:(wr.alloc (.cells #[.int .u8 (op:Int),.int .u8 (p:Int),.int .i64 xa,.int .i64 xb] 124)).cell? ⟨t,2,none⟩=some (.map (some mb)):=qA (qb HB.out.1 2) hb1
   have hnum:NumOf (wr.alloc (.cells #[.int .u8 (op:Int),.int .u8 (p:Int),.int .i64 xa,.int .i64 xb] 124)).drew mb (L - k) (outI items n k):=HC.out.num.far (hb1.block mb HC.out.num.lt)
   have HGR:Hid (w.grownBy (wr.alloc (.cells #[.int .u8 (op:Int),.int .u8 (p:Int),.int .i64 xa,.int .i64 xb] 124)).drew (some mb)):=⟨HC.out.gr.os,HC.out.gr.tape,HC.out.gr.output,by have:=HC.out.gr.size;simp;omega,fun j hj hne=>(hb1.block j (by have:=HC.out.gr.size;omega)).trans (HC.out.gr.block j hj hne)⟩
   clear hb1 HB HC
   go_wp2
   go_upto_region 15 with fail
   go_region_law ((refine q6Q rfl _ _ rfl mb (L - k) (outI items n k) ⟨op,p,xa,xb⟩ rfl rfl hnum HX.out HTH.out ?_;intro w6 hn6 hg6))
   all_goals
    have HC6:Hid (Cut w w6 t mb L (k+1) n a cap items):=by
     refine ⟨?_,⟨hg6.os.trans HGR.out.os,hg6.tape.trans HGR.out.tape,hg6.output.trans HGR.out.output,Nat.le_trans HGR.out.size hg6.size,fun j hj hne=>(hg6.block j (Nat.lt_of_lt_of_le hj HGR.out.size) hne).trans (HGR.out.block j hj hne)⟩⟩
     rw[show L - (k+1)=L - k - 1 by omega]
     exact hn6.alike fun y _=>HNX.out y
    clear hnum c2 hn6 hg6 HGR
    go_wp2
    go_roundw
    case rel=>exact ⟨k+1,by omega,by go_num,HC6⟩
    case measure=>simp[intOf] <;> omega
  ·obtain rfl:k=L - n:=by omega
   have HC':Hid (Cut w wr t mb items.length (items.length - n) n a cap items):=by show Cut _ _ _ _ _ _ _ _ _ _;rw[HL.out];exact HC.out
   have HR':Hid (TabR w t a items.length cap mb items):=by show TabR _ _ _ _ _ _ _;rw[HL.out];exact HR.out
   have hb:=HC'.out.blk HR'.out
   rw[HL.out]at hb
   have c1:wr.cell? ⟨t,1,none⟩=some (.slice a L cap):=qb hb.1 1
   have z1:wr.frozen? ⟨t,1,none⟩=false:=frozen_of_row wr _ 1 _ _ hb.1
   have HFIN:Hid _:=qcA HI.out HR'.out (by rw[HL.out];exact HF.out) (by rw[HL.out];exact HN.out) HC'.out
   clear hb HC'
   go_wp2
   go_end0
   exact ⟨rfl,HFIN.out⟩
def TabB (t bx:Nat) (w:World) (G:Nat→Prop) (items:List It):Prop :=
 ∃ F,TabI w F t items∧w.heap[bx]? = some (.cells #[tbV t] 118 (0,0))∧¬ F bx∧∀ k,G k↔(F k∨k=bx)
theorem TabB.lt{t bx:Nat}{w:World}{G:Nat→Prop}{items:List It}(h:TabB t bx w G items):(∀ k,G k→k<w.heap.size)∧items.length≤4096:=by
 obtain ⟨F,h1,h2,_,h4⟩:=h
 refine ⟨fun k hk=>?_,h1.few⟩
 rcases (h4 k).1 hk with hk | rfl
 ·exact h1.lt k hk
 ·exact (Array.getElem?_eq_some_iff.1 h2).1
theorem TabB.far{t bx:Nat}{w w':World}{G:Nat→Prop}{items:List It}(h:TabB t bx w G items)(hb:∀ k,G k→w'.heap[k]? = w.heap[k]?):TabB t bx w' G items:=by
 obtain ⟨F,h1,h2,h3,h4⟩:=h
 exact ⟨F,h1.far (fun k hk=>hb k ((h4 k).2 (Or.inl hk))),(hb bx ((h4 bx).2 (Or.inr rfl))).trans h2,h3,h4⟩
theorem TabB.fr{t bx:Nat}{w w':World}{F F' G:Nat→Prop}{items:List It}(h2:w.heap[bx]? = some (.cells #[tbV t] 118 (0,0)))(h3:¬ F bx)(h4:∀ k,G k↔(F k∨k=bx))(hT:TabI w' F' t items)(fr:Fr w w' F F'):∃ G',TabB t bx w' G' items∧Fr w w' G G':=by
 have hl:=(Array.getElem?_eq_some_iff.1 h2).1
 refine ⟨fun k=>F' k∨k=bx,⟨F',hT,(fr.keep bx hl h3).trans h2,fr.out h3 hl,fun k=>Iff.rfl⟩,⟨fr.os,fr.tape,fr.output,fr.size,fun k hk hg=>fr.keep k hk (fun hf=>hg ((h4 k).2 (Or.inl hf))),fun k hk=>?_⟩⟩
 rcases hk with hk | hk
 ·rcases fr.foot k hk with h | h
  ·exact Or.inl ((h4 k).2 (Or.inl h))
  ·exact Or.inr h
 ·exact Or.inl ((h4 k).2 (Or.inr hk))
def FindC (S:World→(Nat→Prop)→List It→Prop) (fd:Fnd) (fid bx:Nat):Prop:=∀ (w:World) (G:Nat→Prop) (items:List It) (x:It),ItOk x→S w G items→Calls Tryz.prog fid #[itV x,.pointer (some ⟨bx,0,none⟩)] w fun e w' =>
 (∃ r,fd items x=some r∧e=.returned (.tuple #[.int .i64 (r.2:Int),.bool true])∧∃ G',S w' G' r.1∧Fr w w' G G')∨(fd items x=none∧e=.returned (.tuple #[.int .i64 0,.bool false])∧∃ G',S w' G' items∧Fr w w' G G')
theorem q62(t bx:Nat):FindC (TabB t bx) kpF 107 bx:=by
 intro w G items x hx hS
 obtain ⟨F,h1,h2,h3,h4⟩:=hS
 obtain ⟨a,cap,mb,hr,_⟩:=h1.read
 have hb:=qd w (itO x)
 have hr1:=hr.up hb
 have c1:=hr1.c1
 have c2:=hr1.c2
 have cb:(w.alloc (itO x)).cell? ⟨bx,0,none⟩=some (.pointer (some ⟨t,0,none⟩)):=qA (qb h2 0) hb
 have hlk:=fun m=>(show NumOf ((w.alloc (itO x)).drewN m) mb items.length (posI items) from hr1.num).look hx
 have HFIN:Hid (∀ w',Below (w.alloc (itO x)).heap.size (w.alloc (itO x)) w'→∃ G',TabB t bx w' G' items∧Fr w w' G G'):=fun w' hw=>TabB.fr h2 h3 h4 (h1.up (qe hb hw)) (Fr.same (qe hb hw))
 have HFIN2:Hid (∀ (w1 w':World) (F':Nat→Prop),Below (w.alloc (itO x)).heap.size (w.alloc (itO x)) w1→TabI w' F' t (items++[x])→Fr w1 w' F F'→∃ G',TabB t bx w' G' (items++[x])∧Fr w w' G G'):=fun w1 w' F' hw hT fr=>by
  have hw1:=qe hb hw
  refine TabB.fr h2 h3 h4 hT ⟨fr.os.trans hw1.os,fr.tape.trans hw1.tape,fr.output.trans hw1.output,Nat.le_trans hw1.size fr.size,fun k hk hf=>(fr.keep k (Nat.lt_of_lt_of_le hk hw1.size) hf).trans (hw1.block k hk),fun k hk=>?_⟩
  rcases fr.foot k hk with h | h
  ·exact Or.inl h
  ·exact Or.inr (Nat.le_trans hw1.size h)
 have HI:Hid (∀ w',Below (w.alloc (itO x)).heap.size (w.alloc (itO x)) w'→TabI w' F t items):=fun w' hw=>h1.up (qe hb hw)
 have HX:Hid _:=hx
 clear h1 h2 h3 h4 hr hr1 hb hx
 cases hp:posI items x with
 | some j =>
  have HP:Hid (kpF items x=some (items,j)):=by
   show _=_
   unfold kpF
   rw[show items.findIdx? (· = x)=some j from hp]
  rw[hp]at hlk
  clear hp HFIN2
  obtain ⟨op,p,xa,xb⟩:=x
  unfold itV at hlk
  unfold itO at c1 c2 cb HFIN hlk
  dsimp only[Option.getD,Option.isSome]at c1 c2 cb HFIN hlk
  unfold itV
  dsimp only
  go_enter Tryz.func107,Tryz.ntmps107
  go_upto_region 15 with fail
  go_quiet (fail)
  go_wp2
  go_ret2
  exact Or.inl ⟨_,HP.out,rfl,HFIN.out _ (below_drewN (Below.refl _ _) _)⟩
 | none =>
  rw[hp]at hlk
  by_cases hl:items.length=4096
  ·have HP:Hid (kpF items x=none):=by
    show _=_
    unfold kpF
    rw[show items.findIdx? (· = x)=none from hp]
    simp only
    rw[if_pos hl]
   have hl':((items.length:Int) == 4096)=true:=by rw[beq_iff_eq];omega
   clear hp hl
   obtain ⟨op,p,xa,xb⟩:=x
   unfold itV at hlk
   unfold itO at c1 c2 cb HFIN hlk
   dsimp only[Option.getD,Option.isSome]at c1 c2 cb HFIN hlk
   unfold itV
   dsimp only
   go_enter Tryz.func107,Tryz.ntmps107
   go_upto_region 15 with fail
   go_quiet (fail)
   go_wp2
   go_ret2
   exact Or.inr ⟨HP.out,rfl,HFIN.out _ (below_drewN (Below.refl _ _) _)⟩
  ·have HP:Hid (kpF items x=some (items++[x],items.length)):=by
    show _=_
    unfold kpF
    rw[show items.findIdx? (· = x)=none from hp]
    simp only
    rw[if_neg hl]
   have hadd:∀ w',Below (w.alloc (itO x)).heap.size (w.alloc (itO x)) w'→_:=fun w' hw=>q80 (HI.out w' hw) x HX.out (q1k.1 hp) (by have:=(HI.out w' hw).few;omega)
   have hl':((items.length:Int) == 4096)=false:=by rw[beq_eq_false_iff_ne];omega
   clear hp hl HFIN
   obtain ⟨op,p,xa,xb⟩:=x
   unfold itV at hlk hadd
   unfold itO at c1 c2 cb HFIN2 hlk hadd
   dsimp only[Option.getD,Option.isSome]at c1 c2 cb HFIN2 hlk hadd
   unfold itV
   dsimp only
   go_enter Tryz.func107,Tryz.ntmps107
   go_upto_region 15 with fail
   go_quiet (fail)
   have hw1:=below_drewN (Below.refl (w.alloc (.cells #[.int .u8 (op:Int),.int .u8 (p:Int),.int .i64 xa,.int .i64 xb] 124)).heap.size (w.alloc (.cells #[.int .u8 (op:Int),.int .u8 (p:Int),.int .i64 xa,.int .i64 xb] 124))) nq
   have hadd1:=hadd _ hw1
   clear hadd
   go_wp2_with fail
   refine hadd1.mono ?_
   rintro e w2 ⟨rfl,F2,hT2,fr2⟩
   have HG:Hid _:=HFIN2.out _ _ _ hw1 hT2 fr2
   clear hadd1 hT2 fr2 hw1
   go_wp2
   go_ret2
   exact Or.inl ⟨_,HP.out,rfl,HG.out⟩
def encM (ns:List Nat):List Value:=ns.map fun n:Nat=>Value.int .i64 (n:Int)
theorem qaX(ks:List Nat)(m:Nat):(encM ks).take (m*1)=encM (ks.take m):=by simp[encM,List.map_take]
theorem q2E:(Tryz.prog.info? 3).map (·.size)=some 1:=by kernel_rfl
theorem q48:(Tryz.prog.info? 3).map (fun i=>(i.zero,i.size,i.bytes))=some (some (.int .i64 0),1,8):=by kernel_rfl
theorem q6f{w:World}{base L m:Nat}{v:Value}{ns:List Nat}(h:w.ownsRow base 3 1 v L (encM ns))(hm:m≤L) :
  ∃ a cap b,v=.slice a L cap∧(∀ w',(Instr.sliceAt 80 (.slice a L cap) none (some (.int .i64 (m:Int))) none).run Tryz.prog w'=.ok (.slice a m cap) w')∧w.ownsRow base 3 1 (.slice a m cap) m (encM (ns.take m))∧(∀ w',(Instr.sliceAt 80 (.slice a L cap) (some (.int .i64 (m:Int))) none none).run Tryz.prog w'=.ok (.slice b (L - m) (cap - m)) w')∧NsSl w b (L - m) (cap - m) (ns.drop m)∧(Value.slice a m cap).ownBlock=v.ownBlock:=by
 have hlen:ns.length=L:=by have:=h.1;simpa [encM] using this
 obtain ⟨a,cap,rfl,h1,h2,h3,h4,h0⟩:=q3H h hm
 rw[qaX]at h4
 obtain ⟨b,h5,h6,h7⟩:=cut_n (P:=Tryz.prog) (T:=80) Tryz.underlying80 q2E a L cap m hm h1 h3
 refine ⟨a,cap,b,rfl,pre_n Tryz.underlying80 q2E a L cap m hm h1 h3,h4,h5,?_,h0⟩
 have had:∀ k,k<L - m→∃ g cur,a=some ⟨g,0,none⟩∧w.heap[g]? = some (.cells cur 3 (0,0))∧cur.toList.take (L*1)=encM ns∧adOf b k=⟨g,m+k,none⟩:=fun k hk=>by
  rcases h.2 with ⟨e,e0⟩ | ⟨g,cap',cur,e,_,hcell,_,_,_,htk⟩
  ·omega
  ·injection e with e1 _ _
   subst e1
   refine ⟨g,cur,rfl,hcell,htk,?_⟩
   rw[h7 (by omega) _ rfl]
   simp[adOf,qj]
 refine ⟨by simp[hlen],by omega,by omega,fun n k w' hk hn=>?_,fun k hk=>?_,fun k hk=>?_,h6⟩
 ·exact q1A Tryz.underlying80 q2E (fun e=>by have:=h6 e;omega) k w' hk
 ·obtain ⟨g,cur,_,hcell,htk,e⟩:=had k hk
  rw[e,qb hcell]
  have:cur.toList[m+k]? = (encM ns)[m+k]? := by rw[← htk,List.getElem?_take,if_pos (by omega)]
  rw[← Array.getElem?_toList,this]
  have hmk:m+k<ns.length:=by omega
  simp[encM,List.getD_eq_getElem?_getD,hmk]
 ·obtain ⟨g,cur,_,hcell,_,e⟩:=had k hk
  rw[e]
  exact (Array.getElem?_eq_some_iff.1 hcell).1
structure NumSt (S:World→(Nat→Prop)→List It→Prop) (fd:Fnd) (w wr:World) (G G1:Nat→Prop) (items items1:List It) (a:Option Addr) (len cap:Nat) (ts:List Tk) (v:Value) (st:List Nat) (k:Nat):Prop where
 s:S wr G1 items1
 fr:Fr w wr G G1
 tk:TkSl wr a len cap ts
 ap:0<len→∀ x,a=some x→¬ G1 x.block
 row:wr.ownsRow w.heap.size 3 1 v st.length (encM st)
 off:∀ k,v.ownBlock=some k→¬ G1 k
 ns:nS fd (ts.take k) (items,[])=some (items1,st)
 lt:∀ j∈st,j<items1.length
 pre:∃ l,items1=items++l
 few:st.length≤k
def EntersT (F:FuncId):Prop:=∀ args w,(callFunc F args).run Tryz.prog w=.ok (.enter F args) w
theorem qcJ{op p:Nat}{ns:List Nat}{N:Nat}(h1:op<256)(h2:p<256)(hN:N≤4096)(h:∀ j∈ns,j<N):ItOk (itemOf (op,p) ns):=by
 match ns,h with
 | [],_=>exact ⟨h1,h2,by show (-1:Int)≤-1;omega,by show (-1:Int)<100000000;omega,by show (-1:Int)≤-1;omega,by show (-1:Int)<100000000;omega⟩
 | [x],h =>
  have:=h x (by simp)
  exact ⟨h1,h2,by show (-1:Int)≤(x:Int);omega,by show (x:Int)<100000000;omega,by show (-1:Int)≤-1;omega,by show (-1:Int)<100000000;omega⟩
 | x::y::_,h =>
  have:=h x (by simp)
  have:=h y (by simp)
  exact ⟨h1,h2,by show (-1:Int)≤(x:Int);omega,by show (x:Int)<100000000;omega,by show (-1:Int)≤(y:Int);omega,by show (y:Int)<100000000;omega⟩
theorem Fr.trans'{w w1 w2:World}{F F1 F2:Nat→Prop}(h:Fr w w1 F F1)(k:Fr w1 w2 F1 F2):Fr w w2 F F2 :=
 ⟨k.os.trans h.os,k.tape.trans h.tape,k.output.trans h.output,Nat.le_trans h.size k.size,fun j hj hf=>(k.keep j (Nat.lt_of_lt_of_le hj h.size) (fun h1=>by
  rcases h.foot j h1 with e | e
  ·exact hf e
  ·omega)).trans (h.keep j hj hf),fun j hj=>by
  rcases k.foot j hj with e | e
  ·exact h.foot j e
  ·exact Or.inr (Nat.le_trans h.size e)⟩
theorem FindC.uni{S:World→(Nat→Prop)→List It→Prop}{fd:Fnd}{fid bx:Nat}(h:FindC S fd fid bx)(w:World)(G:Nat→Prop)(items:List It)(x:It)(hx:ItOk x)(hS:S w G items):Calls Tryz.prog fid #[itV x,.pointer (some ⟨bx,0,none⟩)] w fun e w' =>
  ∃ (j:Nat) (f:Bool),e=.returned (.tuple #[.int .i64 (j:Int),.bool f])∧((f=true∧∃ items',fd items x=some (items',j)∧∃ G',S w' G' items'∧Fr w w' G G')∨(f=false∧fd items x=none∧∃ G',S w' G' items∧Fr w w' G G')) :=
 (h w G items x hx hS).mono fun e w' hq=>by
  rcases hq with ⟨⟨r,j⟩,h1,h2,h3⟩ | ⟨h1,h2,h3⟩
  ·exact ⟨j,true,h2,Or.inl ⟨rfl,r,h1,h3⟩⟩
  ·exact ⟨0,false,h2,Or.inr ⟨rfl,h1,h3⟩⟩
theorem q5p(S:World→(Nat→Prop)→List It→Prop)(fd:Fnd)(fid bx:Nat)(hE:EntersT fid)(hFd:FindC S fd fid bx)(hP:FdOk fd)
  (hlt:∀ {w G items},S w G items→(∀ k,G k→k<w.heap.size)∧items.length≤4096) (hfar:∀ {w w' G items},S w G items→(∀ k,G k→w'.heap[k]? = w.heap[k]?)→S w' G items)
  (w:World) (G:Nat→Prop) (items:List It) (a:Option Addr) (len cap:Nat) (ts:List Tk) (T:Tr) (hS:S w G items) (hT:TkSl w a len cap ts) (hA:0<len→∀ x,a=some x→¬ G x.block)
  (hl:0<len) (hg:GGood ts T) (hf:fewL false ts=true) :
  Calls Tryz.prog 106 #[.slice a len cap,.func (.func fid) #[] #[.pointer (some ⟨bx,0,none⟩)]] w fun e w'=>∃ G' items',S w' G' items'∧Fr w w' G G'∧(∃ l,items'=items++l)∧(∃ k st,nS fd (ts.take k) (items,[])=some (items',st)) ∧
   ((∃ j st,nS fd ts (items,[])=some (items',st++[j])∧e=.returned (.tuple #[.int .i64 (j:Int),.bool true]))∨(nS fd ts (items,[])=none∧e=.returned (.tuple #[.int .i64 0,.bool false]))):=by
 have HS0:Hid (NumSt S fd w w G G items items a len cap ts (.slice none 0 0) [] 0):=⟨hS,Fr.same (Below.refl _ _),hT,hA,⟨rfl,Or.inl ⟨rfl,rfl⟩⟩,fun k hk=>(by cases hk),rfl,fun j hj=>(by simp at hj),⟨[],by simp⟩,Nat.le_refl _⟩
 have HLEN:Hid (ts.length=len):=hT.hlen
 have HT0:Hid _:=hT
 have HA0:Hid _:=hA
 have HG:Hid _:=hg
 have hl2:len≤2048:=by have:=hg.few;have:=hT.hlen;omega
 have HF:Hid _:=hf
 have HFD:Hid _:=hFd
 have HLT:Hid (∀ {w G items},S w G items→(∀ k,G k→k<w.heap.size)∧items.length≤4096):=hlt
 have HFAR:Hid (∀ {w w' G items},S w G items→(∀ k,G k→w'.heap[k]? = w.heap[k]?)→S w' G items):=hfar
 have HP:Hid _:=hP
 unfold EntersT at hE
 clear hS hT hA hg hf hFd hlt hfar hP
 go_enter Tryz.func106,Tryz.ntmps106
 go_wp2
 go_loopw [4,5,6,12] (fun i b v c wr=>∃ k:Nat,k≤len∧c=.int .i64 k∧∃ (j:Nat) (f:Bool),i=.int .i64 (j:Int)∧b=.bool f∧∃ G1 items1 st,Hid (NumSt S fd w wr G G1 items items1 a len cap ts v st k)∧Hid (0<k→f=true∧∃ st',st=st'++[j])) (fun _ _ _ c _=>len - (intOf c).toNat)
 case atStart=>exact ⟨0,Nat.zero_le _,rfl,0,false,rfl,rfl,G,items,[],HS0,fun h=>absurd h (by omega)⟩
 case round =>
  obtain ⟨k,hk,rfl,j,f,rfl,rfl,G1,items1,st,HN,HJ⟩:=hrel
  clear HS0
  have hfw:=HN.out.few
  by_cases hlt:k<len
  ·have hxl:k<ts.length:=by have:=HLEN.out;omega
   obtain ⟨g1,o1,s1,hi1,hx0,hx1,hg1,_⟩:=HN.out.tk.at Tryz.underlying22 q2b k hlt
   have hidx:=fun w'=>hi1 len w' hlt
   clear hi1
   have HNX:Hid (nS fd (ts.take (k+1)) (items,[])=nStep fd (items1,st) ts[k]):=qcV fd hxl HN.out.ns
   have HOFF:Hid (nStep fd (items1,st) ts[k]=none→nS fd ts (items,[])=none):=fun h=>qdy fd (k:=k+1) (HNX.out.trans h)
   have hdep:takC ts[k]≤st.length:=by
    have:=(HG.out.ok k hxl).2
    rw[← qbf fd (ts.take k) (items,[]) (items1,st) [] rfl HN.out.ns]at this
    exact this
   obtain ⟨b,hfa⟩:=qaZ hxl HF.out
   have hok:=HN.out.tk.ok ts[k] (List.getElem_mem hxl)
   generalize ts[k]=q at *
   obtain ⟨op,p⟩:=q
   dsimp only at hx0 hx1 HNX hfa hok
   obtain ⟨htn,h23,n3,n9,n10,n13,n14,_⟩:=q4I hfa
   have hc:=q1T htn
   clear hfa htn
   have hTk:=fun w'=>q63 op w' h23 n3 n9 n10
   rw[← hc]at hTk
   have hn2:takC (op,p)≤2:=by rw[hc];exact q52 op
   have HSTEP:Hid (nStep fd (items1,st) (op,p)=(fd items1 (itemOf (op,p) (st.drop (st.length - takC (op,p))))).map fun r=>(r.1,st.take (st.length - takC (op,p))++[r.2])):=rfl
   clear hc
   generalize takC (op,p)=n at *
   obtain ⟨M,hM⟩:∃ M,M=st.length - n:=⟨_,rfl⟩
   rw[← hM]at HSTEP
   obtain ⟨av,cv,bv,rfl,hpre,hown,hcut,hns,hob⟩:=q6f HN.out.row (m:=M) (by omega)
   rw[show st.length - M=n by omega]at hcut hns
   have HO:Hid _:=hown
   have HOB:Hid _:=hob
   have HIX:Hid (ItOk (itemOf (op,p) (st.drop M))):=qcJ hok.1 hok.2 (HLT.out HN.out.s).2 (fun j hj=>HN.out.lt j (List.mem_of_mem_drop hj))
   have hb1:=qd wr (.cells #[.int .u8 (op:Int),.int .u8 (p:Int)] 61)
   have hwr:IntKind.i64.wrap ((st.length:Int) - (n:Int))=(M:Int):=by rw[IntKind.wrap_i64];omega
   have hML:M≤st.length:=by omega
   have HIT:Hid (∀ w',Below wr.heap.size wr w'→Calls Tryz.prog 128 #[.agg #[.int .u8 (op:Int),.int .u8 (p:Int)],.slice bv n (cv - M)] w' fun e w''=>e=.returned (itV (itemOf (op,p) (st.drop M)))∧Below w'.heap.size w' w''):=fun w' hb=>q5o op p bv n (cv - M) (st.drop M) w' (hns.up hb) hn2
   have HFI:Hid (∀ w',Below wr.heap.size wr w'→S w' G1 items1):=fun w' hb=>HFAR.out HN.out.s fun k hk=>hb.block k ((HLT.out HN.out.s).1 k hk)
   clear hns hown hob hM
   go_wp2_with (go_at_call 127;refine (hTk _).mono ?_;rintro e w' ⟨rfl,rfl⟩)
   have ct0:(wr.alloc (.cells #[.int .u8 (op:Int),.int .u8 (p:Int)] 61)).cell? ⟨wr.heap.size,0,none⟩=some (.int .u8 (op:Int)):=qb (MapKept.heap_alloc wr _).1 0
   have ct1:(wr.alloc (.cells #[.int .u8 (op:Int),.int .u8 (p:Int)] 61)).cell? ⟨wr.heap.size,1,none⟩=some (.int .u8 (p:Int)):=qb (MapKept.heap_alloc wr _).1 1
   have hitem:=HIT.out (wr.alloc (.cells #[.int .u8 (op:Int),.int .u8 (p:Int)] 61)).drew hb1.drew
   have HB1:Hid _:=hb1.drew
   have hz1:(wr.alloc (.cells #[.int .u8 (op:Int),.int .u8 (p:Int)] 61)).heap.size=wr.heap.size+1:=by simp
   clear hb1
   generalize st.drop M=dk at *
   generalize itemOf (op,p) dk=x at *
   go_region_with (first
    | (go_at_call 128;(with_reducible refine hitem.mono ?_);rintro e w2 ⟨rfl,hb2⟩;have hfind:=FindC.uni HFD.out w2 G1 items1 x HIX.out (HFI.out w2 (qe HB1.out hb2)))
    | ((with_reducible refine hfind.mono ?_);rintro e w3 ⟨j3,f3,rfl,hw3⟩)
    | fail)
   all_goals
    have HB2:Hid (Below wr.heap.size wr w2):=qe HB1.out hb2
    clear hitem hfind hb2 HB1 ct0 ct1 HIT HFI hE hcut hpre hidx hx0 hx1 hTk
    rcases hw3 with ⟨rfl,items2,hfd,G2,hS2,fr2⟩ | ⟨rfl,hfd,G2,hS2,fr2⟩
    ·have HSTEP2:Hid (nS fd (ts.take (k+1)) (items,[])=some (items2,st.take M++[j3])):=by
      show _=_
      rw[HNX.out,HSTEP.out,hfd];rfl
     have hoff1:∀ q,(Value.slice av M cv).ownBlock=some q→¬ G1 q:=fun q hq=>HN.out.off q (HOB.out ▸ hq)
     have HO3:Hid (w3.ownsRow w.heap.size 3 1 (.slice av M cv) M (encM (st.take M))):=fr2.own (q1r HO.out HB2.out) hoff1
     have hlt1:=qN HO.out
     have HOFF3:Hid (∀ q,(Value.slice av M cv).ownBlock=some q→¬ G2 q):=fun q hq=>fr2.out (hoff1 q hq) (Nat.lt_of_lt_of_le (hlt1 q hq) HB2.out.size)
     have HFR:Hid (Fr w w3 G G2):=HN.out.fr.trans' ((Fr.same HB2.out).trans' fr2)
     have HTK:Hid (TkSl w3 a len cap ts):=fr2.tks (HN.out.tk.up HB2.out) HN.out.ap
     have HAP:Hid (0<len→∀ x,a=some x→¬ G2 x.block):=fun h x hx=>by
      subst hx
      have:=(HN.out.tk.up HB2.out).lt h
      exact fr2.out (HN.out.ap h x rfl) this
     have HS3:Hid _:=hS2
     obtain ⟨l2,hl2'⟩:=HP.out.pre hfd
     have hj3:j3<items2.length:=HP.out.lt hfd
     have HPRE:Hid (∃ l,items2=items++l):=by
      obtain ⟨l,hl⟩:=HN.out.pre
      exact ⟨l++l2,by rw[show items2=items1++l2 from hl2',hl,List.append_assoc]⟩
     have HLL:Hid (∀ j∈st.take M++[j3],j<items2.length):=fun j hj=>by
      rcases List.mem_append.1 hj with hj | hj
      ·have:=HN.out.lt j (List.mem_of_mem_take hj)
       rw[show items2=items1++l2 from hl2',List.length_append];omega
      ·simp at hj;omega
     have HTL:Hid ((st.take M).length=M):=by show _=_;simp;omega
     have hz3:=fr2.size
     have hwz:=HN.out.fr.size
     have hw2z:=HB2.out.size
     clear hfd hS2 fr2 hoff1 hlt1 HNX HSTEP HOFF HN HJ HO HOB hl2' HIX HB2
     generalize st.take M=tk at *
     have hc4:(w3.alloc (.cells #[.int .i64 (j3:Int)] 3)).cell? ⟨w3.heap.size,0,none⟩=some (.int .i64 (j3:Int)):=qb (MapKept.heap_alloc w3 _).1 0
     have HO4:Hid ((w3.alloc (.cells #[.int .i64 (j3:Int)] 3)).ownsRow w.heap.size 3 1 (.slice av M cv) M (encM tk)):=World.ownsRow.alloc HO3.out _
     have hz4:w.heap.size≤(w3.alloc (.cells #[.int .i64 (j3:Int)] 3)).heap.size:=by simp;omega
     go_wp2_with (at_builtin;refine qaR Tryz.underlying80 q48 rfl (by decide) rfl _ _ rfl w.heap.size _ M (encM tk) (.int .i64 (j3:Int)) w3.heap.size rfl rfl HO4.out hc4 rfl (by omega) hz4 ?_)
     intro v4 w4 hown4 hgr4 hloc4
     have hbn:=qd w3 (.cells #[.int .i64 (j3:Int)] 3)
     have hge:=q36 HO3.out
     have hG2:=(HLT.out HS3.out).1
     have hs4:=hgr4.size
     have hsn:=hbn.size
     have HFR4:Hid (Fr w w4 G G2):=⟨hgr4.os.trans (hbn.os.trans HFR.out.os),hgr4.tape.trans (hbn.tape.trans HFR.out.tape),hgr4.output.trans (hbn.output.trans HFR.out.output),by omega,fun q hq hg=>(hgr4.block q (by omega) (fun e=>by have:=hge q e.symm;omega)).trans ((hbn.block q (by omega)).trans (HFR.out.keep q hq hg)),HFR.out.foot⟩
     have HNEW:Hid (NumSt S fd w w4 G G2 items items2 a len cap ts v4 (tk++[j3]) (k+1)):=by
      refine ⟨HFAR.out HS3.out fun q hq=>(hgr4.block q (by have:=hG2 q hq;omega) (fun e=>HOFF3.out q e.symm hq)).trans (hbn.block q (hG2 q hq)),HFR4.out,HFR4.out.tks HT0.out HA0.out,HAP.out,?_,fun q hq hg=>?_,HSTEP2.out,HLL.out,HPRE.out,?_⟩
      ·rw[List.length_append,HTL.out]
       unfold encM at hown4 ⊢
       rw[List.map_append];exact hown4
      ·rcases hloc4 with e | e
       ·exact HOFF3.out q (e ▸ hq) hg
       ·rw[e]at hq;injection hq with hq;have:=hG2 q hg;omega
      ·rw[List.length_append,HTL.out];simp;omega
     clear hown4 hgr4 hloc4 hc4 HO4 HO3 hbn hge hG2
     go_wp2
     go_roundw
     case rel=>exact ⟨k+1,by omega,by go_num,j3,true,rfl,rfl,G2,items2,tk++[j3],HNEW,fun _=>⟨rfl,tk,rfl⟩⟩
     case measure=>simp[intOf] <;> omega
    ·have HNO:Hid (nS fd ts (items,[])=none):=HOFF.out (by rw[HSTEP.out,hfd];rfl)
     have HFR:Hid (Fr w w3 G G2):=HN.out.fr.trans' ((Fr.same HB2.out).trans' fr2)
     have HS3:Hid _:=hS2
     have HPRE:Hid _:=HN.out.pre
     have HSO:Hid _:=HN.out.ns
     clear hfd hS2 fr2 HNX HSTEP HOFF HN HJ HO HOB HIX HB2
     go_wp2
     go_ret2
     exact ⟨G2,items1,HS3.out,HFR.out,HPRE.out,⟨_,_,HSO.out⟩,Or.inr ⟨HNO.out,rfl⟩⟩
  ·obtain rfl:k=len:=by omega
   obtain ⟨rfl,st',rfl⟩:=HJ.out hl
   have HYES:Hid (nS fd ts (items,[])=some (items1,st'++[j])):=by
    have:=HN.out.ns
    rw[List.take_of_length_le (by have:=HLEN.out;omega)]at this
    exact this
   have HFR:Hid _:=HN.out.fr
   have HS3:Hid _:=HN.out.s
   have HPRE:Hid _:=HN.out.pre
   have HSO:Hid _:=HN.out.ns
   clear HN HJ hfw
   go_wp2
   go_ret2
   exact ⟨G1,items1,HS3.out,HFR.out,HPRE.out,⟨_,_,HSO.out⟩,Or.inl ⟨j,st',HYES.out,rfl⟩⟩
def TabT (w:World) (F:Nat→Prop) (t:Nat) (items:List It):Prop:=TabI w F t items∧TabIs items
theorem qbN:∀ T:Tr,0<T.flat.length
 | .leaf _=>by simp[Tr.flat]
 | .un _ _=>by simp[Tr.flat]
 | .bin _ _ _=>by simp[Tr.flat];omega
structure Chkd (ts:List Tk):Prop where
 pos:0<ts.length
 few:fewL false ts=true
 good:∃ T,GGood ts T
theorem chkd{ts:List Tk}(h:chkE ts=0):Chkd ts:=by
 obtain ⟨hl,hk⟩:=q2X.1 h
 have hf:=((q3h ts).1 hk).1
 obtain ⟨T,hW,_,_,rfl⟩:=hk
 exact ⟨qbN T,hf,T,ggood hW hl⟩
theorem qcj{w w':World}{F:Nat→Prop}{t:Nat}{items:List It}(h:TabI w F t items)(hb:Below (w.alloc (.cells #[tbV t] 118)).heap.size (w.alloc (.cells #[tbV t] 118)) w'):TabB t w.heap.size w' (fun k=>F k∨k=w.heap.size) items:=by
 have hb1:=qd w (.cells #[tbV t] 118)
 refine ⟨F,h.up (qe hb1 hb),(hb.block _ (by simp)).trans (MapKept.heap_alloc w _).1,fun hf=>?_,fun k=>Iff.rfl⟩
 have:=h.lt _ hf
 omega
theorem q9l{w w1 w2:World}{F G':Nat→Prop}{t:Nat}{items:List It}(hb:Below w.heap.size w w1)(hB:TabB t w.heap.size w2 G' items)(fr:Fr w1 w2 (fun k=>F k∨k=w.heap.size) G'):∃ F',TabI w2 F' t items∧Fr w w2 F F':=by
 obtain ⟨F',h1,_,_,h4⟩:=hB
 refine ⟨F',h1,fr.os.trans hb.os,fr.tape.trans hb.tape,fr.output.trans hb.output,Nat.le_trans hb.size fr.size,fun k hk hf=>(fr.keep k (Nat.lt_of_lt_of_le hk hb.size) (fun h=>?_)).trans (hb.block k hk),fun k hk=>?_⟩
 ·rcases h with h | h
  ·exact hf h
  ·omega
 ·rcases fr.foot k ((h4 k).2 (Or.inl hk)) with (h | h) | h
  ·exact Or.inl h
  ·exact Or.inr (by omega)
  ·exact Or.inr (Nat.le_trans hb.size h)
theorem q6v:EntersT 107:=fun _ _=>rfl
theorem qbW{items items':List It}{ts:List Tk}{st:List Nat}{j:Nat}(hl:items.length≤4096)(hc:chkE ts=0)(h:nS kpF ts (items,[])=some (items',st++[j])):keepE items ts=0∧keepI items ts=items'∧keepN items ts=j:=by
 rw[q76 ts (items,[]) hl]at h
 by_cases c:(tkS ts (items,[])).1.length≤4096
 ·rw[if_pos c]at h
  injection h with h
  have e1:kI items ts=items':=by unfold kI;rw[h]
  have e2:kN items ts=j:=by unfold kN;rw[h];simp
  have e0:keepE items ts=0:=by
   unfold keepE
   rw[if_neg (by omega),if_neg (by unfold kI;omega)]
  exact ⟨e0,by unfold keepI;rw[if_pos e0,e1],by unfold keepN;rw[if_pos e0,e2]⟩
 ·rw[if_neg c]at h;cases h
theorem qcK{items:List It}{ts:List Tk}(hl:items.length≤4096)(hc:chkE ts=0)(h:nS kpF ts (items,[])=none):keepE items ts=3∧keepI items ts=items∧keepN items ts=0:=by
 rw[q76 ts (items,[]) hl]at h
 by_cases c:(tkS ts (items,[])).1.length≤4096
 ·rw[if_pos c]at h;cases h
 ·have e0:keepE items ts=3:=by
   unfold keepE
   rw[if_neg (by omega),if_pos (by unfold kI;omega)]
  exact ⟨e0,by unfold keepI;rw[if_neg (by omega)],by unfold keepN;rw[if_neg (by omega)]⟩
theorem q91{items:List It}{ts:List Tk}(hc:chkE ts≠0):keepE items ts=chkE ts∧keepI items ts=items∧keepN items ts=0:=by
 have e0:keepE items ts=chkE ts:=by unfold keepE;rw[if_pos hc]
 exact ⟨e0,by unfold keepI;rw[if_neg (by omega)],by unfold keepN;rw[if_neg (by omega)]⟩
theorem Fr.self{w w':World}{F:Nat→Prop}{t:Nat}{items:List It}(h:TabT w F t items)(hb:Below w.heap.size w w'):∃ F',TabT w' F' t items∧Fr w w' F F':=⟨F,⟨h.1.up hb,h.2⟩,Fr.same hb⟩
theorem q3B{w:World}{F:Nat→Prop}{t:Nat}{items:List It}(a:Option Addr)(len cap:Nat)(ts:List Tk)(h:TabT w F t items)(hT:TkSl w a len cap ts)(hA:0<len→∀ x,a=some x→¬ F x.block) :
  Calls Tryz.prog 72 #[.pointer (some ⟨t,0,none⟩),.slice a len cap] w fun e w'=>e=.returned (.tuple #[.int .i64 (keepN items ts:Int),.int .i64 (keepE items ts:Int)])∧∃ F',TabT w' F' t (keepI items ts)∧Fr w w' F F':=by
 have hb1:=qd w (.cells #[tbV t] 118)
 obtain ⟨aa,ca,mb,hr,_⟩:=(h.1.up hb1).read
 have hm:=q2D hr
 have HI:Hid _:=h
 have hck:=q5R a len cap ts (w.alloc (.cells #[tbV t] 118)) (hT.up hb1)
 have cb:∀ w',Below (w.alloc (.cells #[tbV t] 118)).heap.size (w.alloc (.cells #[tbV t] 118)) w'→w'.cell? ⟨w.heap.size,0,none⟩=some (.pointer (some ⟨t,0,none⟩)):=fun w' hb=>qA (qb (MapKept.heap_alloc w _).1 0) hb
 have cb0:=cb _ (Below.refl _ _)
 by_cases hc:chkE ts=0
 ·have HC:Hid _:=hc
  have hck':=chkd hc
  have HCK:Hid _:=hck'
  rw[hc]at hck
  have HT:Hid _:=hT
  have HA:Hid _:=hA
  have HCB:Hid _:=cb
  clear hT hA h hr cb hc hck' hb1
  unfold tbV at hm hck cb0 HCB
  go_enter Tryz.func72,Tryz.ntmps72
  go_wp2_with fail
  refine hm.mono ?_
  rintro e w1 ⟨rfl,hw1⟩
  obtain rfl:=hw1.symm
  go_wp2_with fail
  refine hck.mono ?_
  rintro e w2 ⟨rfl,hb2⟩
  have HB2:Hid (Below w.heap.size w w2):=qe (qd w _) hb2
  have cb2:=HCB.out w2 hb2
  obtain ⟨a2,k2,m2,hr2,_⟩:=(HI.out.1.up HB2.out).read
  have c1:=hr2.c1
  obtain ⟨T,hgood⟩:=HCK.out.good
  have hnum:=q5p (TabB t w.heap.size) kpF 107 w.heap.size q6v (q62 t w.heap.size) qds TabB.lt TabB.far w2 (fun k=>F k∨k=w.heap.size) items a len cap ts T (qcj HI.out.1 hb2) (HT.out.up HB2.out) (fun hp x hx hg=>by
   rcases hg with hg | hg
   ·exact HA.out hp x hx hg
   ·subst hx;have:=HT.out.lt hp;omega) (by have:=HCK.out.pos;have:=HT.out.hlen;omega) hgood HCK.out.few
  clear hm hck hr2 hb2 cb0 HCB hgood
  go_wp2_with fail
  refine hnum.mono ?_
  rintro e w3 ⟨G3,items3,hB3,fr3,⟨l3,hl3⟩,⟨q3,st3,hq3⟩,(⟨j,st,hns,rfl⟩ | ⟨hns,rfl⟩)⟩
  ·obtain ⟨k1,k2,k3⟩:=qbW HI.out.1.few HC.out hns
   have HK:Hid _:=And.intro k1 (And.intro k2 k3)
   obtain ⟨F3,hI3,hf3⟩:=q9l HB2.out hB3 fr3
   have HF:Hid _:=And.intro hI3 hf3
   have HIS:Hid (TabIs (keepI items ts)):=(kept HI.out.2 k1).is
   clear hnum hB3 fr3 hl3 hq3 hns k1 k2 k3 hI3 hf3 c1 cb2
   go_wp2
   go_ret2
   rw[HK.out.1,HK.out.2.2]
   exact ⟨rfl,F3,⟨by rw[HK.out.2.1];exact HF.out.1,HIS.out⟩,HF.out.2⟩
  ·have HK:Hid _:=qcK HI.out.1.few HC.out hns
   obtain ⟨F3,hI3,hf3⟩:=q9l HB2.out hB3 fr3
   have HF:Hid _:=hf3
   have cb3:w3.cell? ⟨w.heap.size,0,none⟩=some (.pointer (some ⟨t,0,none⟩)):=by
    obtain ⟨F',_,h2,_⟩:=hB3
    exact qb h2 0
   have hcut:=q81 hI3 items.length (by rw[hl3];simp)
   rw[show items3.take items.length=items by rw[hl3];simp]at hcut
   clear hnum hB3 fr3 hl3 hq3 hns hI3 hf3 c1 cb2
   go_wp2_with fail
   refine hcut.mono ?_
   rintro e w4 ⟨rfl,hI4,fr4⟩
   have HI4:Hid _:=And.intro hI4 fr4
   clear hcut hI4 fr4
   go_wp2
   go_ret2
   rw[HK.out.1,HK.out.2.2,HK.out.2.1]
   exact ⟨rfl,F3,⟨HI4.out.1,HI.out.2⟩,HF.out.trans' HI4.out.2⟩
 ·have HK:Hid _:=q91 (items:=items) hc
  have hc':¬ (chkE ts:Int)=0:=by omega
  have hc2:((chkE ts:Int) == 0)=false:=by rw[beq_eq_false_iff_ne];exact hc'
  clear hT hA h hr cb hb1 hc
  unfold tbV at hm hck cb0
  generalize chkE ts=E at *
  go_enter Tryz.func72,Tryz.ntmps72
  go_wp2_with fail
  refine hm.mono ?_
  rintro e w1 ⟨rfl,hw1⟩
  obtain rfl:=hw1.symm
  go_wp2_with fail
  refine hck.mono ?_
  rintro e w2 ⟨rfl,hb2⟩
  have HB2:Hid (Below w.heap.size w w2):=qe (qd w _) hb2
  clear hm hck hb2 cb0
  go_wp2
  go_ret2
  rw[HK.out.1,HK.out.2.2,HK.out.2.1]
  exact ⟨rfl,Fr.self HI.out HB2.out⟩
def encU (ws:List Nat):Array Value:=(ws.map fun (x:Nat)=>Value.int .u64 (x:Int)).toArray
def RowU (w:World) (g:Nat) (ws:List Nat):Prop:=w.heap[g]? = some (.cells (encU ws) 52 (0,0))
def wordsN (P:Nat):Nat:=(P+63) / 64
structure EndAt (w:World) (g P:Nat) (rs:Nat→List Nat):Prop where
 outer:∃ cur:Array Value,w.heap[g]? = some (.cells cur 33 (0,0))∧cur.size=P∧∀ i,i<P→cur[i]? = some (.slice (some ⟨g+1+i,0,none⟩) (wordsN P) (wordsN P))
 rows:∀ i,i<P→RowU w (g+1+i) (rs i)
 ok:∀ i,i<P→OkW (wordsN P) (rs i)
def ValAt (w:World) (g:Nat) (bs:List Bool):Prop:=w.heap[g]? = some (.cells (bs.map Value.bool).toArray 4 (0,0))
abbrev Sl:=Option Addr×Nat×Nat
abbrev Mp:=Sl×Sl
def PartOk (w:World) (n b:Nat) (x:Sk) (p:Mp) (lo hi:Nat):Prop :=
 (x.1=true→∃ g rs,p.2=(some ⟨g,0,none⟩,n+1,n+1)∧EndAt w g (n+1) rs∧(∀ i,i≤n→∀ k,hasW (rs i) k=true↔x.2.2 i k)∧lo≤g∧g+n+1<hi) ∧
 (x.1=false→∃ g bs,p.1=(some ⟨g,0,none⟩,n+1,n+1)∧ValAt w g bs∧bs.length=n+1∧(∀ i,i≤n→(bs.getD i false=true↔x.2.1 i))∧b≤g)
def Parts (w:World) (n b:Nat):Nat→List (Sk×Mp)→Prop
 | hi,[]=>b<hi
 | hi,(x,p)::r=>∃ lo,PartOk w n b x p lo hi∧lo≤hi∧Parts w n b lo r
theorem q9K(z:Int)(w:World)(h0:0≤z)(h1:z<256):Calls Tryz.prog 94 #[.int .i64 8,.int .u8 z] w fun e w'=>e=.returned (.bool true)∧w'=w:=by
 have hz:z / 256=0:=by omega
 go_enter Tryz.func94,Tryz.ntmps94
 go_wp2
 go_ret
 exact ⟨by simp,rfl⟩
theorem q5T(d:Option Addr)(m c:Nat)(zs:List Int)(w:World)(hL:LtSl w d m c zs) :
  Calls Tryz.prog 68 #[.int .i64 8,.slice d m c] w fun e w'=>e=.returned (.int .i64 (trE zs))∧Below w.heap.size w w':=by
 have hlen:=hL.sl.hlen
 have hb0:=hL.sl.bd
 have hb1:=hL.sl.hcap
 unfold maxLen at hb0
 have HL:Hid (LtSl w d m c zs):=hL
 clear hL
 by_cases hm:1024<m
 ·have HE:Hid (trE zs=3):=if_pos (by omega)
  have hmi:(1024:Int)<(m:Int):=by omega
  go_enter Tryz.func68,Tryz.ntmps68
  go_wp2
  go_ret
  exact ⟨by rw[HE.out];rfl,Below.refl _ _⟩
 ·have HE:Hid (trE zs=0):=if_neg (by omega)
  have hmi:¬ (1024:Int)<(m:Int):=by omega
  go_enter Tryz.func68,Tryz.ntmps68
  go_wp2
  go_loopw [15] (fun i wr=>∃ k:Nat,k≤m∧i=.int .i64 k∧Hid (Below w.heap.size w wr)) (fun i _=>m - (intOf i).toNat)
  case atStart=>exact ⟨0,Nat.zero_le _,rfl,Below.refl _ _⟩
  case round =>
   obtain ⟨k,hk,rfl,HW⟩:=hrel
   by_cases hlt:k<m
   ·have hLr:=HL.out.up HW.out
    have hi1:=fun w'=>hLr.sl.idx m k w' hlt (Nat.le_refl _)
    have hc1:=hLr.sl.cell k hlt
    have hzz:0≤zs.getD k 0∧zs.getD k 0<256:=by
     have:zs.getD k 0=zs[k]'(by omega):=by simp[List.getD_eq_getElem?_getD,show k<zs.length by omega]
     rw[this];exact hLr.ok _ (List.getElem_mem _)
    have hft:=q9K (zs.getD k 0) wr hzz.1 hzz.2
    generalize zs.getD k 0=z at *
    clear hLr hzz
    go_wp2_with fail
    refine hft.mono ?_
    rintro e w2 ⟨rfl,rfl⟩
    go_wp2
    go_roundw
    case rel=>exact ⟨k+1,by omega,by go_num,HW⟩
    case measure=>simp[intOf] <;> omega
   ·obtain rfl:k=m:=by omega
    go_wp2
    go_ret
    exact ⟨by rw[HE.out];rfl,HW.out⟩
end Go.Proofs.YtejekdenpefoiaaGreatDoor
