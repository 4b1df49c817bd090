/- Texts of the proof, put together: what it uses. -/
import Derived.Maps.RangeWalk
import Derived.Lib.SlKeysI
import Derived.Deep.RegionHeld3
import Derived.OwnWalk
import Derived.Deep.DeepCutAuto
import Derived.Test.YtekeaodpdcnfjaaGreatDoorX00
import Derived.Test.YtekeaodpdcnfjaaGreatDoorX03
import Derived.Test.YtekeaodpdcnfjaaGreatDoorX06
import Derived.Test.YtekeaodpdcnfjaaGreatDoorX10
import Derived.Test.YtekeaodpdcnfjaaGreatDoorX15
import Derived.Test.YtekeaodpdcnfjaaGreatDoorX18
import Derived.Test.YtekeaodpdcnfjaaGreatDoorX19
import Derived.Test.YtekeaodpdcnfjaaGreatDoorX26
import Derived.Test.YtekeaodpdcnfjaaGreatDoorX27
set_option maxRecDepth 100000
set_option maxHeartbeats 16000000
namespace Go.Proofs.YtekeaodpdcnfjaaGreatDoor
open Go.RowKit Go.Maps
theorem q7T(n:Nat)(l:List Nat)(h:l.Nodup)(hl:∀ x∈l,x<n):l.length≤n:=by
 have:=q4b (m:=List.range n) h fun x hx=>by simp[hl x hx]
 simpa using this
structure PlD (D:DataW Value) (ks:List Nat):Prop where
 ty:Tidy D
 sz:Maps.size D=ks.length
 nd:ks.Nodup
 lt:∀ i∈ks,i<256
 hs:∀ kl,has D kl=true↔∃ i∈ks,kl=klN i
def PlM (w:World) (b:Nat) (ks:List Nat):Prop:=∃ D:DataW Value,w.ownsMap Tryz.prog 3 anyElem b ks.length D∧PlD D ks
theorem PlM.blt{w:World}{b:Nat}{ks:List Nat}(h:PlM w b ks):b<w.heap.size:=by
 obtain ⟨D,h,_⟩:=h;exact h.lt
theorem PlM.far{w w':World}{b:Nat}{ks:List Nat}(h:PlM w b ks)(hb:w'.heap[b]? = w.heap[b]?):PlM w' b ks:=by
 obtain ⟨D,⟨es,clock,h1,h2⟩,r⟩:=h
 exact ⟨D,⟨es,clock,hb.trans h1,h2⟩,r⟩
theorem PlM.isMap{w:World}{b:Nat}{ks:List Nat}(h:PlM w b ks):∃ es c,w.heap[b]? = some (.map es c):=by
 obtain ⟨D,⟨es,clock,h1,h2⟩,r⟩:=h
 exact ⟨es,clock,h1⟩
theorem PlD.few{D:DataW Value}{ks:List Nat}(h:PlD D ks):ks.length≤256:=q7T 256 ks h.nd h.lt
theorem q9G:PlD (.map []) []:=⟨tidy_empty,rfl,by simp,fun i hi=>(by cases hi),fun kl=>⟨fun h=>(by cases h),fun ⟨i,hi,_⟩=>(by cases hi)⟩⟩
theorem qaz(w:World):PlM (w.alloc (.map #[] 0)) w.heap.size []:=⟨.map [],World.ownsMap_made _ _ _ _,q9G⟩
theorem q37{ks:List Nat}{i j:Nat}:j∈addK ks i↔j∈ks∨j=i:=by
 unfold addK
 by_cases h:i∈ks
 ·rw[if_pos h]
  exact ⟨Or.inl,fun h2=>h2.elim id fun e=>e ▸ h⟩
 ·rw[if_neg h]
  simp[or_comm]
theorem PlM.put{w:World}{b:Nat}{ks:List Nat}(h:PlM w b ks){i:Nat}(hi:i<256) :
  ∃ w',(Instr.mapUpdate 75 (.map (some b)) (.int .i64 (i:Int)) (.agg #[])).run Tryz.prog w=.ok () w'∧PlM w' b (addK ks i)∧w.grownBy w' (some b):=by
 obtain ⟨D,h1,h2⟩:=h
 have hf:=h2.few
 obtain ⟨w',hrun,hown,hg⟩:=h1.update q1w Tryz.underlying75 (by unfold maxLen;omega) (q3U i (by omega)) (val:=.agg #[]) (d:=.held (.agg #[])) (ps:=[]) rfl
 have hsz:Maps.size (D.put (klN i) (.held (.agg #[])))=(addK ks i).length:=by
  rw[size_put h2.ty,h2.sz]
  unfold addK
  by_cases hm:i∈ks
  ·rw[if_pos hm,if_pos ((h2.hs _).2 ⟨i,hm,rfl⟩)]
  ·rw[if_neg hm,if_neg fun e=>by
    obtain ⟨j,hj,e2⟩:=(h2.hs _).1 e
    exact hm (q51 e2 ▸ hj)]
   rfl
 have hown':w'.ownsMap Tryz.prog 3 anyElem b (addK ks i).length (D.put (klN i) (.held (.agg #[]))):=by
  obtain ⟨es,clock,g1,g2,g3,g4⟩:=hown
  refine ⟨es,clock,g1,g2,?_,g4⟩
  rw[← hsz,g4]
  simp[Maps.size,length_sorted]
 refine ⟨w',hrun,⟨_,hown',h2.ty.put (q3M i) _,hsz,?_,fun j hj=>?_,fun kl=>?_⟩,hg⟩
 ·unfold addK
  by_cases hm:i∈ks
  ·rw[if_pos hm];exact h2.nd
  ·rw[if_neg hm];exact List.nodup_cons.2 ⟨hm,h2.nd⟩
 ·rcases q37.1 hj with hj | rfl
  ·exact h2.lt j hj
  ·exact hi
 ·by_cases e:kl=klN i
  ·subst e
   exact ⟨fun _=>⟨i,q37.2 (Or.inr rfl),rfl⟩,fun _=>has_put_same h2.ty.isMap (q3M i) _⟩
  ·rw[has_put_other e,h2.hs]
   constructor
   ·rintro ⟨j,hj,rfl⟩
    exact ⟨j,q37.2 (Or.inl hj),rfl⟩
   ·rintro ⟨j,hj,rfl⟩
    rcases q37.1 hj with hj | rfl
    ·exact ⟨j,hj,rfl⟩
    ·exact absurd rfl e
theorem PlM.clear{w:World}{b:Nat}{ks:List Nat}(h:PlM w b ks) :
  ∃ w',(∀ ty,(Builtin.clear_ #[75] ty #[.map (some b)]).run Tryz.prog w=.ok (.tuple #[]) w')∧PlM w' b []∧w.grownBy w' (some b):=by
 obtain ⟨es,clock,hb⟩:=h.isMap
 have hw:({ w with heap:=w.heap.setIfInBounds b (.map #[] clock) }:World).heap[b]? = some (.map #[] clock):=(MapKept.heap_set hb).1
 have h1:∀ ty,(Builtin.clear_ #[75] ty #[.map (some b)]).run Tryz.prog w=.ok (.tuple #[]) { w with heap:=w.heap.setIfInBounds b (.map #[] clock) }:=fun ty=>by
  simp[Builtin.clear_,run_underlying Tryz.underlying75,MapKept.run_getObj_map hb,MapKept.run_setObj_map _ hb,Result.andThen]
 have h2:w.grownBy { w with heap:=w.heap.setIfInBounds b (.map #[] clock) } (some b):=⟨rfl,rfl,rfl,by simp,fun i hi hne=>(MapKept.heap_set hb).2 i fun e=>hne (by rw[e])⟩
 exact ⟨_,h1,⟨.map [],⟨#[],clock,hw,⟨by simp,MapKept.stamped_empty clock,by simp⟩,Nat.le_refl _,rfl⟩,q9G⟩,h2⟩
theorem qai{w:World}{p:Addr}{v:Value}{es:Array MapEntry}{c:Nat}(h:w.cell? p=some v)(hm:w.heap[p.block]? = some (.map es c)):False:=by
 unfold World.cell? at h
 rw[hm]at h
 simp at h
theorem qd2{w w':World}{a:Option Addr}{n c b:Nat}{l ks:List Nat}(h:ISl w a n c l)(hm:PlM w b ks)(hg:w.grownBy w' (some b)):ISl w' a n c l:=q9t h hg.size fun k hk=>hg.block _ (h.blk k hk) fun e=>by
 obtain ⟨es,cl,hb⟩:=hm.isMap
 have e2:(adOf a k).block=b:=by injection e
 exact qai (h.cell k hk) (by rw[e2];exact hb)
theorem q4y(b:Nat)(v:Value)(l ks:List Nat)(w:World)(hl:LIs w v l)(hP:PlM w b ks)(h8:∀ q∈l,q<256) :
  Calls Tryz.prog 44 #[.map (some b),v] w fun e w'=>e=.returned (.tuple #[])∧∃ ks',PlM w' b ks'∧(∀ i,i∈ks'↔i∈ks∨i∈l)∧w.grownBy w' (some b):=by
 obtain ⟨a,c,rfl,bdl,hI⟩:=hl
 have HI:Hid _:=hI
 have HP:Hid _:=hP
 have H8:Hid _:=h8
 generalize hL:l.length=L at *
 have HL:Hid _:=hL
 clear hI hP h8 hL
 go_enter Tryz.func44,Tryz.ntmps44
 go_wp2
 go_loopw [8] (fun j wr=>∃ (k:Nat) (ks':List Nat),k≤L∧j=.int .i64 (k:Int)∧Hid (PlM wr b ks')∧Hid (∀ i,i∈ks'↔i∈ks∨i∈l.take k)∧Hid (w.grownBy wr (some b))) (fun j _=>L - (intOf j).toNat)
 case atStart=>exact ⟨0,ks,Nat.zero_le _,rfl,HP,fun i=>by simp,World.grownBy.refl _ _⟩
 case round =>
  obtain ⟨k,ks',hk,rfl,HPr,HM,HG⟩:=hrel
  by_cases hlt:k<L
  ·have hkl:k<l.length:=by have:=HL.out;omega
   have hIr:ISl wr a L c l:=qd2 HI.out HP.out HG.out
   have hidx:=fun w'=>hIr.idx L k w' hlt (Nat.le_refl _)
   have hce:=hIr.cell k hlt
   have hgd:(iU l).getD k 0=((l[k]:Nat):Int):=by simp[iU,List.getD_eq_getElem?_getD,List.getElem?_eq_getElem hkl]
   rw[hgd]at hce
   obtain ⟨w4,hrun,hp4,hg4⟩:=PlM.put HPr.out (H8.out l[k] (List.getElem_mem hkl))
   have HP4:Hid _:=hp4
   have HG4:Hid (w.grownBy w4 (some b)):=HG.out.andThen hg4 fun j hj=>Or.inr hj
   have HM4:Hid (∀ i,i∈addK ks' l[k]↔i∈ks∨i∈l.take (k+1)):=fun i=>by
    rw[q37,HM.out i,List.take_add_one,List.getElem?_eq_getElem hkl,List.mem_append]
    simp[or_assoc]
   clear hIr hgd hp4 hg4 HPr HM HG
   generalize addK ks' l[k]=ks4 at *
   generalize l[k]=x at *
   generalize adOf a k=ad at *
   obtain ⟨ga,oa,sa⟩:=ad
   go_wp2
   go_roundw
   case rel=>exact ⟨k+1,ks4,by omega,by go_num,HP4,HM4,HG4⟩
   case measure=>simp[intOf] <;> omega
  ·obtain rfl:k=L:=by omega
   have HM2:Hid (∀ i,i∈ks'↔i∈ks∨i∈l):=fun i=>by
    have:=HM.out i
    rw[List.take_of_length_le (by have:=HL.out;omega)]at this
    exact this
   go_wp2
   go_end0
   exact ⟨rfl,ks',HPr.out,HM2.out,HG.out⟩
theorem q9p(nx:Nat→Nat→List Nat)(x:Nat):∀ (t qs:List Nat),goN nx (t++[x]) qs=(goN nx t qs).flatMap fun q=>nx q x
 | [],qs=>rfl
 | y::t,qs=>by
  show goN nx (t++[x]) _=_
  rw[q9p nx x t]
  rfl
theorem NfB.keep{w w':World}{g n:Nat}{aS:Option Addr}{N cS:Nat}{aT:Option Addr}{nT cT:Nat}{aF:Option Addr}{nF cF:Nat}{aN:Option Addr}{nN cN:Nat}(h:NfB w g n aS N cS aT nT cT aF nF cF aN nN cN){r:Nat}(hg:w.grownBy w' (some r))(hr:g≠r):NfB w' g n aS N cS aT nT cT aF nF cF aN nN cN:=by
 have hl:g<w.heap.size:=World.block_lt_of_cell? _ _ h.c0
 have hb:w'.heap[g]? = w.heap[g]? := hg.block g hl fun e=>hr (by injection e)
 have hc:∀ {j:Nat} {v:Value},w.cell? ⟨g,j,none⟩=some v→w'.cell? ⟨g,j,none⟩=some v:=fun {j v} h=>by
  unfold World.cell? at h ⊢
  rw[hb];exact h
 exact ⟨hc h.c0,hc h.c1,hc h.c2,hc h.c3,hc h.c4⟩
theorem q9X{P:Program}{w:World}{ops:Array Oper}{rest:List Oper}{o:Oper}{a:Act}{Q:Exit→Act→World→Prop}(hg:o.guard=none)(m:Operand)(t:TypeId)(hop:o.op=Op.call { callee:=Callee.builtin Builtin.clear,args:=#[m],argTypes:=#[t] })(b:Nat)(w':World)
  (hm:a.eval m=.map (some b)) (hrun:∀ ty,(Builtin.clear_ #[t] ty #[.map (some b)]).run P w=.ok (.tuple #[]) w') (hK:wpList P ops Q rest (a.put o.dst (.tuple #[])) w'):wpList P ops Q (o::rest) a w:=by
 refine wpList_plain hg fun K' hK'=>?_
 unfold Oper.wp
 simp[execOp,hop,resolve,invoke,builtin,hm,hrun,Result.andThen]
 exact hK' _ _ hK
structure ReI (w:World) (nb:World→Prop) (nx:Nat→Nat→List Nat) (st t:List Nat) (k h x:Nat) (wr:World) (ks:List Nat):Prop where
 nb:nb wr
 ph:PlM wr h ks
 px:PlM wr x []
 ne:h≠x
 hg:w.heap.size<h
 xg:w.heap.size<x
 mem:∀ i,i∈ks↔i∈goN nx (t.take k) st
 bel:Below w.heap.size w wr
structure ReJ (w:World) (nb:World→Prop) (nx:Nat→Nat→List Nat) (h x r:Nat) (D:DataW Value) (ks:List Nat) (z:Nat) (wr:World) (left:Lit→Bool) (cnt:Nat) (k2:List Nat):Prop where
 nb:nb wr
 rg:wr.ranges Tryz.prog 3 anyElem h r ks.length D left cnt
 px:PlM wr x k2
 mem:∀ i,i∈k2↔∃ s∈ks,left (klN s)=false∧i∈nx s z
 bel:Below w.heap.size w wr
structure NbP (g:Nat) (nb:World→Prop):Prop where
 keep:∀ {w w':World} {r:Nat},nb w→w.grownBy w' (some r)→g≠r→nb w'
 up:∀ {w w':World},nb w→Below w.heap.size w w'→nb w'
theorem q38{w w1 w2:World}{r:Nat}(h:Below w.heap.size w w1)(hg:w1.grownBy w2 (some r))(hr:w.heap.size≤r):Below w.heap.size w w2:=h.grown hg h.size (fun k hk=>by cases hk;exact hr)
section
variable {w:World} {nb:World→Prop} {nx:Nat→Nat→List Nat} {st t:List Nat} {k h x:Nat} {wr:World} {ks:List Nat}
theorem ReI.into(hI:ReI w nb nx st t k h x wr ks)(hn:NbP w.heap.size nb){D:DataW Value}(hD:PlD D ks){w0:World}(hrg:w0.ranges Tryz.prog 3 anyElem h wr.heap.size ks.length D (Maps.has D) (Maps.size D))(hg0:wr.grownBy w0 none)(z:Nat):ReJ w nb nx h x wr.heap.size D ks z w0 (Maps.has D) (Maps.size D) []:=by
 have hb:Below wr.heap.size wr w0:=⟨hg0.os,hg0.tape,hg0.output,hg0.size,fun i hi=>hg0.block i hi (by simp)⟩
 refine ⟨hn.up hI.nb hb,hrg,hI.px.far (hb.block _ hI.px.blt),fun i=>⟨fun hi=>(by cases hi),fun ⟨s,hs,hl,_⟩=>?_⟩,qd hI.bel hb⟩
 have:=(hD.hs (klN s)).2 ⟨s,hs,rfl⟩
 rw[this]at hl
 cases hl
theorem ReJ.next{D:DataW Value}{z r:Nat}{left:Lit→Bool}{cnt cnt':Nat}{k2 k3:List Nat}{w1 w2:World}{s:Nat}(hJ:ReJ w nb nx h x r D ks z wr left cnt k2)(hn:NbP w.heap.size nb)(hx:w.heap.size<x)(hr:w.heap.size<r)(hxr:x≠r)(hs:s∈ks)(hrg:w1.ranges Tryz.prog 3 anyElem h r ks.length D (fun y=>left y && !y.sameKey (klN s)) cnt')(hg1:wr.grownBy w1 (some r))(hp:PlM w2 x k3)(hm:∀ i,i∈k3↔i∈k2∨i∈nx s z)(hg2:w1.grownBy w2 (some x))(hhx:h≠x) :
  ReJ w nb nx h x r D ks z w2 (fun y=>left y && !y.sameKey (klN s)) cnt' k3:=by
 refine ⟨hn.keep (hn.keep hJ.nb hg1 (by omega)) hg2 (by omega),hrg.kept hg2 (fun e=>hhx (by injection e)) (fun e=>hxr (by injection e with e;exact e.symm)),hp,fun i=>?_,q38 (q38 hJ.bel hg1 (by omega)) hg2 (by omega)⟩
 rw[hm i,hJ.mem i]
 constructor
 ·rintro (⟨y,hy,hl,hi⟩ | hi)
  ·exact ⟨y,hy,by simp[hl],hi⟩
  ·exact ⟨s,hs,by simp[klN,Lit.sameKey],hi⟩
 ·rintro ⟨y,hy,hl,hi⟩
  by_cases e:y=s
  ·subst e;exact Or.inr hi
  ·have hne:(klN y).sameKey (klN s)=false:=sameKey_ne fun e2=>e (q51 e2)
   rw[hne]at hl
   exact Or.inl ⟨y,hy,by simpa using hl,hi⟩
theorem ReJ.done{D:DataW Value}{z r:Nat}{left:Lit→Bool}{cnt:Nat}{k2:List Nat}{w0 w2:World}(hI:ReI w nb nx st t k h x w0 ks)(hJ:ReJ w nb nx h x r D ks z wr left cnt k2)(hn:NbP w.heap.size nb)(hl:∀ kl,left kl=false)(hz:t[k]? = some z)(hp:PlM w2 h [])(hg:wr.grownBy w2 (some h)):ReI w nb nx st t (k+1) x h w2 k2:=by
 refine ⟨hn.keep hJ.nb hg (by have:=hI.hg;omega),hJ.px.far (hg.block _ hJ.px.blt fun e=>hI.ne (by injection e with e;exact e.symm)),hp,hI.ne.symm,hI.xg,hI.hg,fun i=>?_,q38 hJ.bel hg (by have:=hI.hg;omega)⟩
 rw[hJ.mem i,List.take_add_one,hz]
 simp only[Option.toList]
 rw[q9p,List.mem_flatMap]
 constructor
 ·rintro ⟨s,hs,_,hi⟩
  exact ⟨s,(hI.mem s).1 hs,hi⟩
 ·rintro ⟨s,hs,hi⟩
  exact ⟨s,(hI.mem s).2 hs,hl _,hi⟩
end
def ReQ (nx:Nat→Nat→List Nat) (st t:List Nat) (w:World) (e:Ending) (w':World):Prop:=∃ h ks,e=.returned (.map (some h))∧PlM w' h ks∧(∀ i,i∈ks↔i∈goN nx t st)∧Below w.heap.size w w'
theorem nx_at{w:World}{v:Value}{n:Nat}{S st:List Nat}{fs:List Bool}{rows:List (List (List Nat))}(h:L3s w v rows)(hk:NfK n S st fs rows){q x:Nat}(hq:q<S.length)(hx:x<2 ^ n):∃ a c a2 c2 u,v=.slice a rows.length c∧(a=none→rows.length=0)∧w.cell? (adOf a q)=some (.slice a2 (2 ^ n) c2)∧(a2=none→2 ^ n=0)∧w.cell? (adOf a2 x)=some u∧LIs w u (nxR rows q x)∧∀ j∈nxR rows q x,j<S.length:=by
 obtain ⟨a,c,us,h1,h2,h3⟩:=h
 have hq2:q<rows.length:=by rw[hk.rl];exact hq
 obtain ⟨u,hu,a2,c2,us2,h4,h5,h6⟩:=h3 q rows[q] (List.getElem?_eq_getElem hq2)
 obtain ⟨hl,hj⟩:=hk.row q rows[q] (List.getElem?_eq_getElem hq2)
 have hx2:x<rows[q].length:=by rw[hl];exact hx
 obtain ⟨u2,hu2,h7⟩:=h6 x rows[q][x] (List.getElem?_eq_getElem hx2)
 have hnx:nxR rows q x=rows[q][x]:=by
  unfold nxR
  rw[List.getD_eq_getElem?_getD,List.getD_eq_getElem?_getD,List.getElem?_eq_getElem hq2,Option.getD_some,List.getElem?_eq_getElem hx2,Option.getD_some]
 rw[hl]at h4 h5
 refine ⟨a,c,a2,c2,u2,h1,h2.nn,?_,h5.nn,h5.cell x u2 hu2,by rw[hnx];exact h7,by rw[hnx];exact hj x _ (List.getElem?_eq_getElem hx2)⟩
 have:=h2.cell q u hu
 rw[h4]at this
 exact this
theorem nx_lt{n:Nat}{S st:List Nat}{fs:List Bool}{rows:List (List (List Nat))}(hk:NfK n S st fs rows){q x:Nat}(hq:q<S.length)(hx:x<2 ^ n):∀ j∈nxR rows q x,j<S.length:=by
 have hq2:q<rows.length:=by rw[hk.rl];exact hq
 obtain ⟨hl,hj⟩:=hk.row q rows[q] (List.getElem?_eq_getElem hq2)
 have hx2:x<rows[q].length:=by rw[hl];exact hx
 have hnx:nxR rows q x=rows[q][x]:=by
  unfold nxR
  rw[List.getD_eq_getElem?_getD,List.getD_eq_getElem?_getD,List.getElem?_eq_getElem hq2,Option.getD_some,List.getElem?_eq_getElem hx2,Option.getD_some]
 rw[hnx]
 exact hj x _ (List.getElem?_eq_getElem hx2)
theorem go_lt{n:Nat}{S st:List Nat}{fs:List Bool}{rows:List (List (List Nat))}(hk:NfK n S st fs rows):∀ (t qs:List Nat),(∀ x∈t,x<2 ^ n)→(∀ q∈qs,q<S.length)→∀ q∈goN (nxR rows) t qs,q<S.length
 | [],qs,_,hq,q,hm=>hq q hm
 | x::t,qs,ht,hq,q,hm=>go_lt hk t _ (fun y hy=>ht y (by simp[hy])) (fun r hr=>by
   obtain ⟨p,hp,hr⟩:=List.mem_flatMap.1 hr
   exact nx_lt hk (hq p hp) (ht x (by simp)) r hr) q hm
theorem q76(n:Nat)(vS vT vF vN:Value)(S st:List Nat)(fs:List Bool)(rows:List (List (List Nat)))(d:Option Addr)(m c:Nat)(zs:List Int)(w:World)(h:NfAt w vS vT vF vN S st fs rows)(hk:NfK n S st fs rows)(hL:LtSl w d m c zs)(hm:m≤1024)(hz:∀ x∈zN zs,x<2 ^ n) :
  Calls Tryz.prog 27 #[nfV n vS vT vF vN,.slice d m c] w (ReQ (nxR rows) st (zN zs) w):=by
 obtain ⟨Q,hQ⟩:∃ Q:Ending→World→Prop,Q=ReQ (nxR rows) st (zN zs) w:=⟨_,rfl⟩
 have HQ:Hid (∀ e w',ReQ (nxR rows) st (zN zs) w e w'→Q e w'):=fun e w' h=>by rw[hQ];exact h
 rw[← hQ]
 have HA:Hid _:=h
 obtain ⟨aS,cS,rfl,-⟩:=h.s
 obtain ⟨aT,cT,hvT,-⟩:=h.t
 subst hvT
 obtain ⟨aF,cF,rfl,-⟩:=h.f
 obtain ⟨aN,cN,us,rfl,-⟩:=h.nx
 have hbA:=qc w (.cells #[.int .i64 (n:Int),.slice aS S.length cS,.slice aT st.length cT,.slice aF fs.length cF,.slice aN rows.length cN] 31 (0,0))
 have hNB:=q1j w n aS S.length cS aT st.length cT aF fs.length cF aN rows.length cN
 obtain ⟨w1,hw1⟩:∃ w1,w1=w.alloc (.cells #[.int .i64 (n:Int),.slice aS S.length cS,.slice aT st.length cT,.slice aF fs.length cF,.slice aN rows.length cN] 31 (0,0)):=⟨_,rfl⟩
 have hz1:w1.heap.size=w.heap.size+1:=by rw[hw1];simp
 have hmm:=@run_makeMap Tryz.prog
 rw[← hw1]at hbA hNB
 have hbB:=qc w1 (.map #[] 0)
 have hbC:=qc (w1.alloc (.map #[] 0)) (.map #[] 0)
 have hbw:=qd (qd hbA hbB) hbC
 have hP1:PlM ((w1.alloc (.map #[] 0)).alloc (.map #[] 0)) (w.heap.size+1) []:=by
  have h2:=qaz w1
  rw[hz1]at h2
  exact h2.far (hbC.block _ h2.blt)
 have hP2:PlM ((w1.alloc (.map #[] 0)).alloc (.map #[] 0)) (w.heap.size+1+1) []:=by
  have h2:=qaz (w1.alloc (.map #[] 0))
  have e:(w1.alloc (.map #[] 0)).heap.size=w.heap.size+1+1:=by simp[hz1]
  rw[e]at h2
  exact h2
 have hNB2:=(hNB.up hbB).up hbC
 have HNB:Hid (NbP w.heap.size fun w'=>NfB w' w.heap.size n aS S.length cS aT st.length cT aF fs.length cF aN rows.length cN):=⟨fun h hg hr=>h.keep hg hr,fun h hb=>h.up hb⟩
 have c2:=hNB2.c2
 have ja:=q4y (w.heap.size+1) (.slice aT st.length cT) st [] ((w1.alloc (.map #[] 0)).alloc (.map #[] 0)) (h.t.up hbw) hP1 (fun q hq=>Nat.lt_of_lt_of_le (hk.st q hq) hk.few)
 have HI0:Hid (∀ w',(∃ ks',PlM w' (w.heap.size+1) ks'∧(∀ i,i∈ks'↔i∈([]:List Nat)∨i∈st)∧((w1.alloc (.map #[] 0)).alloc (.map #[] 0)).grownBy w' (some (w.heap.size+1)))→∃ ks,ReI w (fun w'=>NfB w' w.heap.size n aS S.length cS aT st.length cT aF fs.length cF aN rows.length cN) (nxR rows) st (zN zs) 0 (w.heap.size+1) (w.heap.size+1+1) w' ks):=fun w' ⟨ks',hp,hm,hg⟩=>⟨ks',HNB.out.keep hNB2 hg (by omega),hp,hP2.far (hg.block _ hP2.blt fun e=>by injection e with e;omega),by omega,by omega,by omega,fun i=>by rw[hm i];simp[goN],q38 hbw hg (by omega)⟩
 have HGL:Hid (∀ k s,s∈goN (nxR rows) ((zN zs).take k) st→s<S.length):=fun k s hs=>go_lt hk ((zN zs).take k) st (fun x hx=>hz x (List.mem_of_mem_take hx)) hk.st s hs
 have HL:Hid _:=hL
 have HZ:Hid _:=hz
 have HK:Hid _:=hk
 have hlen:=hL.sl.hlen
 have HLN:Hid _:=hlen
 clear h hk hL hz hQ hbA hNB hbB hbC hbw hP1 hP2 hNB2 hlen
 unfold nfV
 generalize st.length=nT at *
 generalize fs.length=nF at *
 generalize hRL:rows.length=nN at *
 have HRL:Hid _:=hRL
 clear hRL
 subst hw1
 go_enter Tryz.func27,Tryz.ntmps27
 go_wp2_with fail
 refine ja.mono ?_
 rintro e w3 ⟨rfl,hq⟩
 obtain ⟨ks0,hI0⟩:=HI0.out w3 hq
 have HI1:Hid _:=hI0
 clear ja hq hI0 HI0 c2 hmm hz1
 go_wp2
 go_loopw [5,6,18] (fun v5 v6 j wr=>∃ (k h x:Nat) (ks:List Nat),k≤m∧j=.int .i64 (k:Int)∧v5=.map (some h)∧v6=.map (some x)∧Hid (ReI w (fun w'=>NfB w' w.heap.size n aS S.length cS aT nT cT aF nF cF aN nN cN) (nxR rows) st (zN zs) k h x wr ks)) (fun _ _ j _=>m - (intOf j).toNat)
 case atStart=>exact ⟨0,_,_,ks0,Nat.zero_le _,rfl,rfl,rfl,HI1⟩
 case round =>
  clear HI1
  obtain ⟨k,h,x,ks,hk,rfl,rfl,rfl,HI⟩:=hrel
  by_cases hlt:k<m
  ·have hkz:k<zs.length:=by have:=HLN.out;omega
   have hS:=HL.out.sl.up HI.out.bel
   have hixz:=fun w'=>hS.idx m k w' hlt (Nat.le_refl _)
   have hce:=hS.cell k hlt
   have hok:=HL.out.ok zs[k] (List.getElem_mem hkz)
   have hgd:zs.getD k 0=zs[k]:=by simp[List.getD,hkz]
   rw[hgd]at hce
   obtain ⟨z,hzx⟩:=Int.eq_ofNat_of_zero_le hok.1
   have HTX:Hid ((zN zs)[k]? = some z):=by
    show _=_
    simp[zN,hkz,hzx]
   have hz2:z<2 ^ n:=HZ.out z (List.mem_of_getElem? HTX.out)
   rw[hzx]at hce
   obtain ⟨D,hown,hD⟩:=HI.out.ph
   have HD:Hid _:=hD
   clear hS hok hgd hzx hD
   generalize adOf d k=ad at *
   obtain ⟨ga,oa,sa⟩:=ad
   go_wp2_with (first
    | (at_range;refine wpList_range_own _ rfl _ 75 rfl 3 _ q1w Tryz.underlying75 anyElem h ks.length D rfl hown ?_;intro w0 hrg0 hg0 hs0)
    | go_in)
   go_frame
   have HJ0:Hid _:=HI.out.into HNB.out HD.out hrg0 hg0 z
   obtain ⟨W0,hW0⟩:∃ W0,W0=wr:=⟨_,rfl⟩
   subst hW0
   clear hrg0 hg0 hs0 hown hce hixz
   go_loopw [9] (fun _ w4=>∃ (left:Lit→Bool) (cnt:Nat) (k2:List Nat),Hid (ReJ w (fun w'=>NfB w' w.heap.size n aS S.length cS aT nT cT aF nF cF aN nN cN) (nxR rows) h x W0.heap.size D ks z w4 left cnt k2)) (fun _ w4=>w4.rangeLeft h W0.heap.size)
   case atStart=>exact ⟨_,_,_,HJ0⟩
   case round =>
    clear HJ0
    obtain ⟨left,cnt,k2,HJ⟩:=hrel
    go_wp2_with (first
     | (at_next;refine wpList_next_ranges _ rfl _ rfl 3 q1w anyElem (fun y:Int=>Value.int .i64 y) (fun v:Value=>v) (fun key kl hk=>by obtain ⟨y,rfl,_⟩:=Maps.keyOf_int_inv Tryz.underlying3 hk;exact ⟨y,rfl⟩) (fun v y _=>⟨v,rfl⟩) h W0.heap.size ks.length D left cnt rfl HJ.out.rg ?_ ?_)
     | go_in)
    ·intro _ hl0
     obtain ⟨w5,hrun,hp5,hg5⟩:=PlM.clear ⟨D,HJ.out.rg.owns,HD.out⟩
     have HI5:Hid _:=HJ.out.done HI.out HNB.out hl0 HTX.out hp5 hg5
     clear hp5 hg5 HJ HI
     go_wp2_with (at_builtin;refine q9X rfl _ 75 rfl h w5 rfl hrun ?_)
     go_wp2
     go_roundw
     case rel=>exact ⟨k+1,x,h,k2,by omega,by go_num,rfl,rfl,HI5⟩
     case measure=>simp[intOf] <;> omega
    ·intro y cv kl u1 u2 w5 cnt5 hkey hlk hv hat hrg5 hlt5 hg5 hs5 hen
     obtain ⟨y2,ey,ekl,_⟩:=Maps.keyOf_int_inv Tryz.underlying3 hkey
     obtain ⟨s,hs,es⟩:=(HD.out.hs kl).1 (has_true_of_atKey hat)
     have hys:y=(s:Int):=by
      injection ey with _ ey
      rw[ekl]at es
      injection es with _ es
      omega
     subst hys
     subst es
     have hb5:Below w.heap.size w w5:=q38 HJ.out.bel hg5 (by have:=HI.out.bel.size;omega)
     have hsN:s<S.length:=by
      have:=(HI.out.mem s).1 hs
      exact HGL.out k s this
     obtain ⟨aN',cN',a2,c2,v2,hv2,hnn,hcq,hnn2,hcx,hli,hjl⟩:=nx_at (HA.out.up hb5).nx HK.out hsN hz2
     obtain ⟨rfl,hlr,rfl⟩:aN=aN'∧nN=rows.length∧cN=cN':=by
      injection hv2 with h1 h2 h3
      exact ⟨h1,h2,h3⟩
     rw[← hlr]at hnn
     have hixq:=fun w'=>q27 (P:=Tryz.prog) (a:=aN) (cap:=cN) .i64 Tryz.underlying29 q20 hnn s w' (by have:=HK.out.rl;omega)
     have hixx:=fun w'=>q27 (P:=Tryz.prog) (a:=a2) (cap:=c2) .u8 Tryz.underlying47 q2j hnn2 z w' hz2
     have hxr:x≠W0.heap.size:=fun e=>by have:=HI.out.px.blt;omega
     have hrr:w.heap.size<W0.heap.size:=by have:=HI.out.ph.blt;have:=HI.out.hg;omega
     have hpx:PlM w5 x k2:=HJ.out.px.far (hg5.block _ HJ.out.px.blt fun e=>hxr (by injection e))
     have ja:=q4y x v2 (nxR rows s z) k2 w5 hli hpx (fun q hq=>Nat.lt_of_lt_of_le (hjl q hq) HK.out.few)
     have nb5:=HNB.out.keep HJ.out.nb hg5 (by omega)
     have c4:=nb5.c4
     have HNX:Hid (∀ w6,(∃ k3,PlM w6 x k3∧(∀ i,i∈k3↔i∈k2∨i∈nxR rows s z)∧w5.grownBy w6 (some x))→∃ (left:Lit→Bool) (cnt':Nat) (k3:List Nat),ReJ w (fun w'=>NfB w' w.heap.size n aS S.length cS aT nT cT aF nF cF aN nN cN) (nxR rows) h x W0.heap.size D ks z w6 left cnt' k3∧w6.rangeLeft h W0.heap.size<wr.rangeLeft h W0.heap.size):=fun w6 ⟨k3,hp,hm,hg6⟩=>by
      have hJ:=HJ.out.next HNB.out HI.out.xg hrr hxr hs hrg5 hg5 hp hm hg6 HI.out.ne
      exact ⟨_,cnt5,k3,hJ,by rw[hJ.rg.left_eq,HJ.out.rg.left_eq];exact hlt5⟩
     obtain ⟨b2,m2,k2',rfl⟩:IsSl v2:=by
      obtain ⟨b2,m2,rfl,_⟩:=hli
      exact ⟨_,_,_,rfl⟩
     clear hkey hlk hv hat hrg5 hlt5 hg5 hs5 ey ekl hs hb5 hsN hv2 hnn hnn2 hli hjl hxr hrr hpx nb5 hlr HJ HI
     generalize adOf aN s=adq at *
     obtain ⟨gq,oq,sq⟩:=adq
     generalize adOf a2 z=adx at *
     obtain ⟨gx,ox,sx⟩:=adx
     generalize (2 ^ n:Nat)=m8 at *
     go_wp2_with fail
     refine ja.mono ?_
     rintro e w6 ⟨rfl,hq6⟩
     obtain ⟨l6,cnt6,k6,hJ6,hlt6⟩:=HNX.out w6 hq6
     have HJ6:Hid _:=hJ6
     have HLT6:Hid _:=hlt6
     clear ja hq6 HNX hJ6 hlt6 hen hcq hcx hixq hixx c4
     go_wp2
     go_roundw
     case rel=>exact ⟨l6,cnt6,k6,HJ6⟩
     case measure=>exact HLT6.out
  ·obtain rfl:k=m:=by omega
   have HR:Hid (Q (.returned (.map (some h))) wr):=HQ.out _ _ ⟨h,ks,rfl,HI.out.ph,fun i=>by
    have:=HI.out.mem i
    rw[List.take_of_length_le (by simp[zN,HLN.out])]at this
    exact this,HI.out.bel⟩
   clear HI
   go_wp2
   exact HR.out
theorem qab(n z:Nat)(w:World)(hn:n≤8)(hz:z<2 ^ n):Calls Tryz.prog 56 #[.int .i64 (n:Int),.int .u8 (z:Int)] w fun e w'=>e=.returned (.bool true)∧w'=w:=by
 have hq:(z:Int) / 2 ^ n=0:=by rw[q7x,Nat.shiftRight_eq_div_pow,Nat.div_eq_of_lt hz];rfl
 have hmin:min n 8=n:=by omega
 have d0:decide ((0:Int)≤(n:Int))=true:=decide_eq_true (by omega)
 have d1:decide ((n:Int)≤8)=true:=decide_eq_true (by omega)
 clear hz
 go_enter Tryz.func56,Tryz.ntmps56
 go_wp2
 go_ret
 exact ⟨by simp,rfl⟩
theorem q64(n:Nat)(d:Option Addr)(m c:Nat)(zs:List Int)(w:World)(hn:n≤8)(hL:LtSl w d m c zs)(hm:m≤1024)(hz:∀ x∈zN zs,x<2 ^ n) :
  Calls Tryz.prog 36 #[.int .i64 (n:Int),.slice d m c] w fun e w'=>e=.returned (.int .i64 0)∧Below w.heap.size w w':=by
 have hlen:=hL.sl.hlen
 have HL:Hid (LtSl w d m c zs):=hL
 have HZ:Hid _:=hz
 have d0:decide ((0:Int)≤(n:Int))=true:=decide_eq_true (by omega)
 have d1:decide ((n:Int)≤8)=true:=decide_eq_true (by omega)
 have hmi:¬ (1024:Int)<(m:Int):=by omega
 clear hL hz
 go_enter Tryz.func36,Tryz.ntmps36
 go_wp2
 go_loopw [15] (fun i wr=>∃ k:Nat,k≤m∧i=.int .i64 k∧Hid (Below w.heap.size w wr)) (fun i _=>m - (intOf i).toNat)
 case atStart=>exact ⟨0,Nat.zero_le _,rfl,Below.refl _ _⟩
 case round =>
  obtain ⟨k,hk,rfl,HW⟩:=hrel
  by_cases hlt:k<m
  ·have hLr:=HL.out.up HW.out
   have hi1:=fun w'=>hLr.sl.idx m k w' hlt (Nat.le_refl _)
   have hc1:=hLr.sl.cell k hlt
   have hkz:k<zs.length:=by omega
   have hok:=HL.out.ok zs[k] (List.getElem_mem hkz)
   have hgd:zs.getD k 0=zs[k]:=by simp[List.getD,hkz]
   rw[hgd]at hc1
   obtain ⟨z,hzx⟩:=Int.eq_ofNat_of_zero_le hok.1
   have hzn:z<2 ^ n:=HZ.out z (List.mem_of_getElem? (i:=k) (by simp[zN,hkz,hzx]))
   rw[hzx]at hc1
   have hft:=qab n z wr hn hzn
   clear hLr hok hgd hzx hzn
   go_wp2_with fail
   refine hft.mono ?_
   rintro e w2 ⟨rfl,rfl⟩
   go_wp2
   go_roundw
   case rel=>exact ⟨k+1,by omega,by go_num,HW⟩
   case measure=>simp[intOf] <;> omega
  ·obtain rfl:k=m:=by omega
   go_wp2
   go_ret
   exact ⟨rfl,HW.out⟩
theorem q60(n:Nat)(vS vT vF vN:Value)(S st:List Nat)(fs:List Bool)(rows:List (List (List Nat)))(d:Option Addr)(m c:Nat)(zs:List Int)(w:World)(h:NfAt w vS vT vF vN S st fs rows)(hk:NfK n S st fs rows)(hL:LtSl w d m c zs)(hm:m≤1024)(hz:∀ x∈zN zs,x<2 ^ n) :
  Calls Tryz.prog 24 #[nfV n vS vT vF vN,.slice d m c] w fun e w'=>e=.returned (.int .i64 0)∧Below w.heap.size w w':=by
 have HA:Hid _:=h
 obtain ⟨aS,cS,rfl,-⟩:=h.s
 obtain ⟨aT,cT,hvT,-⟩:=h.t
 subst hvT
 obtain ⟨aF,cF,rfl,-⟩:=h.f
 obtain ⟨aN,cN,us,rfl,-⟩:=h.nx
 have hb0:=qc w (.cells #[.int .i64 (n:Int),.slice aS S.length cS,.slice aT st.length cT,.slice aF fs.length cF,.slice aN rows.length cN] 31 (0,0))
 have hNB:=q1j w n aS S.length cS aT st.length cT aF fs.length cF aN rows.length cN
 have jc:=q61 n _ _ _ _ S st fs rows _ (h.up hb0) hk
 have HB0:Hid _:=hb0
 have HNB:Hid _:=hNB
 obtain ⟨c0,c1,c2,c3,c4⟩:=hNB
 have HT:Hid (∀ w',Below w.heap.size w w'→Calls Tryz.prog 36 #[.int .i64 (n:Int),.slice d m c] w' fun e w2=>e=.returned (.int .i64 0)∧Below w'.heap.size w' w2):=fun w' hb=>q64 n d m c zs w' hk.n8 (hL.up hb) hm hz
 clear h hk hL hz hb0
 unfold nfV at *
 generalize S.length=nS at *
 generalize st.length=nT at *
 generalize fs.length=nF at *
 generalize rows.length=nN at *
 go_enter Tryz.func24,Tryz.ntmps24
 go_wp2_with fail
 refine jc.mono ?_
 rintro e w1 ⟨rfl,hb1⟩
 have hbb:=qd HB0.out hb1
 have jt:=HT.out w1 hbb
 have d0:=(HNB.out.up hb1).c0
 have HBB:Hid _:=hbb
 clear jc hb1 hbb c0 c1 c2 c3 c4
 go_wp2_with fail
 refine jt.mono ?_
 rintro e w2 ⟨rfl,hb2⟩
 have HB2:Hid _:=qd HBB.out hb2
 clear jt hb2
 go_wp2
 go_ret
 exact ⟨rfl,HB2.out⟩
end Go.Proofs.YtekeaodpdcnfjaaGreatDoor
