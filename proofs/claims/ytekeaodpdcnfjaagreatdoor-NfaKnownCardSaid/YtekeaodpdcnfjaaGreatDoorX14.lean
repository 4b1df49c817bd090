/- Texts of the proof, put together: what it uses. -/
import Derived.Laws.BytesString
import Derived.Laws.IdiomStrings
import Derived.Deep.RegionHeld3
import Derived.Test.YtekeaodpdcnfjaaGreatDoorX02
import Derived.Test.YtekeaodpdcnfjaaGreatDoorX12
import Derived.Test.YtekeaodpdcnfjaaGreatDoorX13
set_option maxRecDepth 100000
set_option maxHeartbeats 16000000
namespace Go.Proofs.YtekeaodpdcnfjaaGreatDoor
open Go.RowKit Go.Maps
def tkY (k:Tk):Nat:=k.1*8+k.2
def encY (ts:List Tk):List Value:=ts.map fun k=>.int .u8 (tkY k:Int)
theorem qc0(a b:List Tk):encY (a++b)=encY a++encY b:=by simp[encY]
structure GrowV (w w':World) (v v':Value):Prop where
 gr:w.grownBy w' v.ownBlock
 loc:v'.ownBlock=v.ownBlock∨∃ k,v'.ownBlock=some k∧w.heap.size≤k
theorem GrowV.refl(w:World)(v:Value):GrowV w w v v:=⟨World.grownBy.refl _ _,Or.inl rfl⟩
theorem GrowV.ofBelow{w w':World}(v:Value)(h:Below w.heap.size w w'):GrowV w w' v v:=⟨⟨h.os,h.tape,h.output,h.size,fun k hk _=>h.block k hk⟩,Or.inl rfl⟩
theorem GrowV.trans{w w1 w2:World}{v v1 v2:Value}(h:GrowV w w1 v v1)(k:GrowV w1 w2 v1 v2):GrowV w w2 v v2:=by
 refine ⟨⟨k.gr.os.trans h.gr.os,k.gr.tape.trans h.gr.tape,k.gr.output.trans h.gr.output,Nat.le_trans h.gr.size k.gr.size,fun j hj hn=>?_⟩,?_⟩
 ·refine (k.gr.block j (Nat.lt_of_lt_of_le hj h.gr.size) ?_).trans (h.gr.block j hj hn)
  rcases h.loc with e | ⟨q,e,hq⟩
  ·rw[e];exact hn
  ·rw[e];intro e2;injection e2 with e2;omega
 ·rcases k.loc with e | ⟨q,e,hq⟩
  ·rw[e]
   exact h.loc
  ·exact Or.inr ⟨q,e,Nat.le_trans h.gr.size hq⟩
def WrC (T0:Tr) (base:Nat) (G:Nat→Prop) (b:Nat) (T:TypeId) (rest:List Value) (items:List It) (a:Int) (ts:List Tk):Prop :=
 ∀ (w:World) (v:Value) (xs:List Tk),base≤w.heap.size→PtO T0 w G b T rest items→w.ownsRow base 5 1 v xs.length (encY xs)→xs.length+ts.length≤60000000 →
  Calls Tryz.prog 135 #[.pointer (some ⟨b,0,none⟩),v,.int .i64 a] w fun e w'=>∃ v',e=.returned v'∧GrowV w w' v v'∧w'.ownsRow base 5 1 v' (xs++ts).length (encY (xs++ts))
theorem q21{T0:Tr}{base:Nat}{G:Nat→Prop}{b:Nat}{T:TypeId}{rest:List Value}{items:List It}:WrC T0 base G b T rest items (-1) []:=by
 intro w v xs hb hP hO _
 have HQ:Hid (w.ownsRow base 5 1 v (xs++[]).length (encY (xs++[]))):=by rw[List.append_nil];exact hO
 obtain ⟨a,cap,rfl⟩:=qx hO
 clear hP hO
 generalize xs.length=n at *
 go_enter Tryz.func135,Tryz.ntmps135
 go_wp2
 go_ret
 exact ⟨_,rfl,GrowV.refl _ _,HQ.out⟩
theorem q8L:(Tryz.prog.info? 5).map (fun i=>(i.zero,i.size,i.bytes))=some (some (.int .u8 0),1,1):=by kernel_rfl
theorem qcH{op p:Nat}(ho:op≤23)(hp:p≤7):bits .or .u8 ((op:Int)*8) (p:Int)=((op*8+p:Nat):Int):=by
 rcases q5L ho with rfl | rfl | rfl | rfl | rfl | rfl | rfl | rfl | rfl | rfl | rfl | rfl | rfl | rfl | rfl | rfl | rfl | rfl | rfl | rfl | rfl | rfl | rfl | rfl <;>
 ·have:p=0∨p=1∨p=2∨p=3∨p=4∨p=5∨p=6∨p=7:=by omega
  rcases this with rfl | rfl | rfl | rfl | rfl | rfl | rfl | rfl <;> decide
theorem q22{T0:Tr}{base:Nat}{G:Nat→Prop}{b:Nat}{T:TypeId}{rest:List Value}{items:List It}(hG:∀ k,G k→k<base)(i op p:Nat)(xa xb:Int)(hx:items[i]? = some ⟨op,p,xa,xb⟩)(ho:op≤23)(hp:p≤7)(ta tb:List Tk)
  (hA:WrC T0 base G b T rest items xa ta) (hB:WrC T0 base G b T rest items xb tb):WrC T0 base G b T rest items (i:Int) (ta++tb++[(op,p)]):=by
 intro w v xs hb hP hO hn
 have hl:(ta++tb++[(op,p)]).length=ta.length+tb.length+1:=by simp[Nat.add_assoc]
 rw[hl]at hn
 obtain ⟨a,n,cap,g,o,c0,hidx,x0,x1,x2,x3⟩:=hP.at hx
 have hbn:=qc w (itO ⟨op,p,xa,xb⟩)
 have hne:((i:Int) == -1)=false:=by rw[beq_eq_false_iff_ne];omega
 have hbx:=(MapKept.heap_alloc w (itO ⟨op,p,xa,xb⟩)).1
 have hz:(w.alloc (itO ⟨op,p,xa,xb⟩)).heap.size=w.heap.size+1:=by simp
 have j1:=hA (w.alloc (itO ⟨op,p,xa,xb⟩)) v xs (by omega) (hP.up hbn) (q1z hO hbn) (by omega)
 have hge:=q1E hO
 have hlt:=qu hO
 have HP:Hid (∀ w' v',GrowV w w' v v'→PtO T0 w' G b T rest items):=fun w' v' hg=>hP.far fun k hk=>hg.gr.block k (by have:=hG k hk;omega) (fun e=>by have:=hG k hk;have:=hge k e.symm;omega)
 have HBXK:Hid (∀ w' v',GrowV (w.alloc (itO ⟨op,p,xa,xb⟩)) w' v v'→w'.heap[w.heap.size]? = some (itO ⟨op,p,xa,xb⟩)):=fun w' v' hg=>(hg.gr.block _ (by omega) (fun e=>by have:=hlt _ e.symm;omega)).trans hbx
 have HB:Hid (WrC T0 base G b T rest items xb tb):=hB
 have HG0:Hid (GrowV w (w.alloc (itO ⟨op,p,xa,xb⟩)) v v):=GrowV.ofBelow v hbn
 have HTB:Hid (bits .or .u8 ((op:Int)*8) (p:Int)=((op*8+p:Nat):Int)):=qcH ho hp
 have HN:Hid (xs.length+(ta.length+tb.length+1)≤60000000):=hn
 have HBS:Hid (base≤w.heap.size):=hb
 have HZ:Hid _:=hz
 have a2:(w.alloc (itO ⟨op,p,xa,xb⟩)).cell? ⟨w.heap.size,2,none⟩=some (.int .i64 xa):=qb hbx 2
 obtain ⟨sa,scap,rfl⟩:=qx hO
 clear hP hO hA hB hx hbn hbx hG hge hlt hn hl
 generalize hvv:Value.slice sa xs.length scap=v at *
 unfold itO at *
 dsimp only at *
 go_enter Tryz.func135,Tryz.ntmps135
 go_wp2_with fail
 refine j1.mono ?_
 rintro e w1 ⟨v1,rfl,hg1,ho1⟩
 have hbx1:=HBXK.out w1 v1 hg1
 have a3:w1.cell? ⟨w.heap.size,3,none⟩=some (.int .i64 xb):=qb hbx1 3
 have hsz1:=hg1.gr.size
 have j2:=HB.out w1 v1 (xs++ta) (by have:=HZ.out;have:=HBS.out;omega) (HP.out w1 v1 (HG0.out.trans hg1)) ho1 (by have:=HN.out;simp;omega)
 have HG1:Hid _:=hg1
 clear j1 hg1 ho1 hbx1 a2 c0 hidx x0 x1 x2 x3 hsz1
 go_wp2_with fail
 refine j2.mono ?_
 rintro e w2 ⟨v2,rfl,hg2,ho2⟩
 have HGA:Hid _:=HG1.out.trans hg2
 have HG2:Hid (GrowV w w2 v v2):=HG0.out.trans HGA.out
 have hbx2:=HBXK.out w2 v2 HGA.out
 have b0:w2.cell? ⟨w.heap.size,0,none⟩=some (.int .u8 (op:Int)):=qb hbx2 0
 have b1:w2.cell? ⟨w.heap.size,1,none⟩=some (.int .u8 (p:Int)):=qb hbx2 1
 obtain ⟨sb,bcap,rfl⟩:=qx ho2
 have HO2:Hid _:=ho2
 have hL:(xs++ta++tb).length≤60000000:=by have:=HN.out;simp;omega
 have HS2:Hid (w.heap.size≤w2.heap.size):=HG2.out.gr.size
 clear j2 hg2 ho2 hbx2 a3
 generalize hLL:(xs++ta++tb).length=L at *
 have HL:Hid _:=hLL
 clear hLL
 have hY:∀ y:Int,(w2.alloc (.cells #[.int .u8 y] 5)).cell? ⟨w2.heap.size,0,none⟩=some (.int .u8 y):=fun y=>qb (MapKept.heap_alloc w2 _).1 0
 have hOY:∀ y:Int,(w2.alloc (.cells #[.int .u8 y] 5)).ownsRow base 5 1 (.slice sb L bcap) L (encY (xs++ta++tb)):=fun y=>World.ownsRow.alloc HO2.out _
 go_wp2_with (at_builtin;refine q2G Tryz.underlying199 q8L rfl (by decide) rfl _ _ rfl base _ L (encY (xs++ta++tb)) _ w2.heap.size rfl rfl (hOY _) (hY _) rfl (by omega) (by have:=HBS.out;have:=HS2.out;simp;omega) ?_)
 intro v3 w3 hown3 hgr3 hloc3
 have e3:=HTB.out
 rw[e3]at hown3 hgr3
 have HO3:Hid (w3.ownsRow base 5 1 v3 (xs++(ta++tb++[(op,p)])).length (encY (xs++(ta++tb++[(op,p)])))):=by
  have e:xs++(ta++tb++[(op,p)])=xs++(ta++tb)++[(op,p)]:=by simp
  have e2:(xs++(ta++tb)).length=L:=by have:=HL.out;simpa using this
  show w3.ownsRow _ _ _ _ _ _
  rw[e,qc0,List.length_append,e2]
  exact hown3
 have hbn:=qc w2 (.cells #[.int .u8 ((op*8+p:Nat):Int)] 5)
 have HG3:Hid (GrowV w w3 v v3):=HG2.out.trans ((GrowV.ofBelow _ hbn).trans ⟨hgr3,hloc3.imp id fun e=>⟨_,e,by simp⟩⟩)
 obtain ⟨s3,cap3,rfl⟩:=qx HO3.out
 clear hown3 hgr3 hloc3 hbn hY hOY HO2 e3
 go_wp2
 go_ret
 exact ⟨_,rfl,HG3.out,HO3.out⟩
theorem q1I{T0:Tr}{base:Nat}{G:Nat→Prop}{b:Nat}{T:TypeId}{rest:List Value}{items:List It}(hG:∀ k,G k→k<base):∀ (S:Tr),S.WF→∀ i,Rep items i S→WrC T0 base G b T rest items (i:Int) S.flat
 | .leaf (op,p),hw,i,hi=>by
  have hx:items[i]? = some ⟨op,p,-1,-1⟩:=by cases hi with | leaf h=>exact h
  have hs:=q1v _ hw (op,p) (by simp[Tr.flat])
  exact q22 hG i op p (-1) (-1) hx hs.1 hs.2 [] [] q21 q21
 | .un (op,p) c,hw,i,hi=>by
  obtain ⟨m,hx,hm⟩:∃ m:Nat,items[i]? = some ⟨op,p,(m:Int),-1⟩∧Rep items m c:=by cases hi with | un h h1 h2=>exact ⟨_,h,h2⟩
  have hs:=q1v _ hw (op,p) (by simp[Tr.flat])
  have h:WrC T0 base G b T rest items (i:Int) (c.flat++[]++[(op,p)]):=q22 hG i op p (m:Int) (-1) hx hs.1 hs.2 c.flat [] (q1I hG c (qE hw).2.1 m hm) q21
  rw[List.append_nil]at h
  exact h
 | .bin (op,p) c d,hw,i,hi=>by
  obtain ⟨m,l,hx,hm,hl⟩:∃ m l:Nat,items[i]? = some ⟨op,p,(m:Int),(l:Int)⟩∧Rep items m c∧Rep items l d:=by cases hi with | bin h h1 h2 h3 h4=>exact ⟨_,_,h,h3,h4⟩
  have hs:=q1v _ hw (op,p) (by simp[Tr.flat])
  exact q22 hG i op p (m:Int) (l:Int) hx hs.1 hs.2 c.flat d.flat (q1I hG c (qy hw).2.1 m hm) (q1I hG d (qy hw).2.2.1 l hl)
theorem qaL{w:World}{base n:Nat}{v:Value}{ts:List Tk}(h:w.ownsRow base 5 1 v n (encY ts))(hs:∀ k∈ts,k.1≤23∧k.2≤7):(convert 199 9 v).run Tryz.prog w=.ok (.string ⟨(ts.map fun k=>UInt8.ofNat (k.1*8+k.2)).toArray⟩) w:=by
 have hl:ts.length=n:=by have:=h.1;simpa [encY] using this
 rcases h.2 with ⟨rfl,h0⟩ | ⟨g,cap,cur,hv,hg,hcell,hnc,hcm,hsz,htk⟩
 ·obtain rfl:ts=[]:=List.eq_nil_of_length_eq_zero (by omega)
  rw[run_convert_bytes_string w 199 9 5 none 0 0 Tryz.underlying199 Tryz.underlying5 Tryz.underlying9]
  simp[Conv.bytesToString]
  rfl
 ·subst hv hl
  have e:ts.length=(ts.map fun k=>UInt8.ofNat (k.1*8+k.2)).length:=by simp
  have key:=run_convert_bytes_back (P:=Tryz.prog) w 199 9 5 ⟨g,0,none⟩ cap (ts.map fun k=>UInt8.ofNat (k.1*8+k.2)) Tryz.underlying199 Tryz.underlying5 Tryz.underlying9 (fun j hj=>by
   have hj':j<ts.length:=by simpa using hj
   have hk:(cur.toList.take (ts.length*1))[j]? = some (.int .u8 (tkY ts[j]:Int)):=by rw[htk];simp[encY,hj']
   rw[List.getElem?_take,if_pos (by omega)]at hk
   have hb:=hs _ (List.getElem_mem hj')
   rw[qh,Nat.zero_add]
   simp[World.cell?,hcell]
   have e2:(UInt8.ofNat (ts[j].1*8+ts[j].2)).toNat=tkY ts[j]:=by
    unfold tkY
    simp
    omega
   rw[show cur[j]? = cur.toList[j]? by simp,hk,← e2]
   simp)
  rw[← e]at key
  exact key
theorem qay{w:World}{base e n i:Nat}{v:Value}{xs:List Value}(h:w.ownsRow base e 1 v n xs)(hi:i<n)(y:Value):∃ g cap,v=.slice (some ⟨g,0,none⟩) n cap∧base≤g∧n≤cap∧w.cell? ⟨g,i,none⟩=xs[i]? ∧ w.frozen? ⟨g,i,none⟩=false∧(w.setCell ⟨g,i,none⟩ y).ownsRow base e 1 v n (xs.set i y):=by
 obtain ⟨hl,h⟩:=h
 rcases h with ⟨rfl,h0⟩ | ⟨g,cap,cur,rfl,hg,hcell,hnc,hcm,hsz,htk⟩
 ·omega
 ·have hcu:cur.toList.length=cap:=by simpa using hsz
  refine ⟨g,cap,rfl,hg,hnc,?_,frozen_of_row w g i _ _ hcell,by simpa using hl,Or.inr ⟨g,cap,cur.setIfInBounds i y,rfl,hg,heap_setCell_same w g i _ _ y hcell,hnc,hcm,by simpa using hsz,?_⟩⟩
  ·rw[qb hcell i,← htk,List.getElem?_take,if_pos (by omega)]
   simp
  ·rw[← htk]
   simp[List.take_set]
theorem qe6(S:Tr):txB S≠⟨#[]⟩:=by
 intro h
 have h1:(S.flat.map fun k=>UInt8.ofNat (k.1*8+k.2)).toArray=#[]:=congrArg ByteArray.data h
 have h2:=congrArg Array.size h1
 simp at h2
 have h3:=q2v S
 have:=q5Q S
 rw[h2]at h3
 simp at h3
 omega
theorem q5S(S:Tr):(txB S).size=S.size:=by
 show (S.flat.map fun k=>UInt8.ofNat (k.1*8+k.2)).toArray.size=_
 simp[q2v]
theorem PtR.setT{w:World}{b mp n i:Nat}{T:TypeId}{rest:List Value}{vi vt:Value}{items:List It}{texts:List ByteArray}{f:It→Option Nat}(h:PtR w b T rest vi mp vt items texts n f)(hi:i<texts.length)(s:ByteArray) :
  ∃ g cap,vt=.slice (some ⟨g,0,none⟩) texts.length cap∧texts.length≤cap∧w.cell? ⟨g,i,none⟩=some (.string texts[i])∧w.frozen? ⟨g,i,none⟩=false∧PtR (w.setCell ⟨g,i,none⟩ (.string s)) b T rest vi mp vt items (texts.set i s) n f∧Fr w (w.setCell ⟨g,i,none⟩ (.string s)) (FP b mp vi vt) (FP b mp vi vt):=by
 obtain ⟨g,cap,rfl,_,hnc,hc,hz,ho⟩:=qay h.rt hi (.string s)
 have hgb:b≠g:=fun e=>h.tb (by rw[e];rfl)
 have hgm:mp≠g:=fun e=>h.tm (by rw[e];rfl)
 have st:∀ k,k≠g→(w.setCell ⟨g,i,none⟩ (.string s)).heap[k]? = w.heap[k]? := fun k hk=>Below.heap_setCell _ _ _ _ hk
 refine ⟨g,cap,rfl,hnc,by rw[hc];simp[hi],hz,⟨h.ty,(st b hgb).trans h.blk,qj h.ri fun k hk=>st k (fun e=>h.it k hk (by rw[e];rfl)),?_,h.num.far (st mp hgm)⟩,rfl,rfl,rfl,by simp,fun k hk hF=>st k (fun e=>hF (Or.inr (Or.inr (Or.inr (by rw[e];rfl))))),fun _ hk=>Or.inl hk⟩
 rw[List.length_set,List.map_set]
 exact ho
def TextP (T0:Tr) (w:World) (G:Nat→Prop) (b:Nat) (T:TypeId) (rest:List Value) (items:List It) (w':World):Prop:=PtO T0 w' G b T rest items∧Fr w w' G G
theorem q3G{T0:Tr}{w:World}{G:Nat→Prop}{b:Nat}{T:TypeId}{rest:List Value}{items:List It}(h:PtO T0 w G b T rest items)(i:Nat)(S:Tr)(hi:Rep items i S)(hS:InC T0 S) :
  Calls Tryz.prog 115 #[.pointer (some ⟨b,0,none⟩),.int .i64 (i:Int)] w fun e w'=>e=.returned (.string (txB S))∧TextP T0 w G b T rest items w':=by
 obtain ⟨texts,hp,ht⟩:=h.ex
 obtain ⟨vi,mp,vt,hr,hG⟩:=hp.ex
 have hil:i<texts.length:=by rw[hp.tl];exact hi.lt
 obtain ⟨g,cap,rfl,hcap,hc,hz,hr2,fr2⟩:=hr.setT hil (txB S)
 have c2:=hr.c2
 have hidx:∀ w',(Instr.indexAt 101 (.slice (some ⟨g,0,none⟩) texts.length cap) (.int .i64 (i:Int))).run Tryz.prog w'=.ok (.pointer (some ⟨g,i,none⟩)) w':=fun w'=>by
  simp[Instr.indexAt,run_underlying Tryz.underlying101,asIntOf,q1h (show (Tryz.prog.info? 9).map (·.size)=some 1 by kernel_rfl),hil,Result.andThen,go_sem,qh]
 have hk:=q2y h.t0.kt hS
 have hw:S.WF:=by rcases hk with k | k <;> exact k.wf
 have hti:texts[i]? = some texts[i]:=List.getElem?_eq_getElem hil
 rcases ht i S hi with h0 | h1
 ·rw[hti]at h0
  injection h0 with h0
  rw[h0]at hc
  have hglt:∀ k,G k→k<w.heap.size:=h.lt
  have hsz:=(q45 h.t0.sz hS).1
  have hfl:=q2v S
  have hwr:=q1I (T0:=T0) (T:=T) (b:=b) (rest:=rest) hglt S hw i hi w.drew (.slice none 0 0) [] (Nat.le_refl _) (h.up (Below.refl _ _).drew) ⟨rfl,Or.inl ⟨rfl,rfl⟩⟩ (by simp;omega)
  have HW1:Hid (∀ w1 v1,GrowV w.drew w1 (.slice none 0 0) v1→w1.ownsRow w.heap.size 5 1 v1 ([]++S.flat).length (encY ([]++S.flat))→(convert 199 9 v1).run Tryz.prog w1=.ok (.string (txB S)) w1∧w1.cell? ⟨b,2,none⟩=some (.slice (some ⟨g,0,none⟩) texts.length cap)∧w1.cell? ⟨g,i,none⟩=some (.string ⟨#[]⟩)∧w1.frozen? ⟨g,i,none⟩=false ∧
    (w1.setCell ⟨g,i,none⟩ (.string (txB S))).cell? ⟨b,2,none⟩=some (.slice (some ⟨g,0,none⟩) texts.length cap)∧(w1.setCell ⟨g,i,none⟩ (.string (txB S))).cell? ⟨g,i,none⟩=some (.string (txB S))∧TextP T0 w G b T rest items (w1.setCell ⟨g,i,none⟩ (.string (txB S)))):=by
   intro w1 v1 hg1 ho1
   have hb1:Below w.heap.size w w1:=⟨hg1.gr.os,hg1.gr.tape,hg1.gr.output,hg1.gr.size,fun k hk=>hg1.gr.block k hk (fun e=>by cases e)⟩
   have hr1:=hr.up hb1
   obtain ⟨g',cap',e,_,hc',hz',hr2',fr2'⟩:=hr1.setT hil (txB S)
   injection e with e1 e2 e3
   injection e1 with e1
   injection e1 with e1
   subst e1 e3
   obtain ⟨cs,hcs⟩:∃ cs,(w1.setCell ⟨g,i,none⟩ (.string (txB S))).heap[g]? = some (.cells cs 9 (0,0)):=qbH hr2'.rt rfl
   have hown:=qay hr2'.rt (i:=i) (by rw[List.length_set];exact hil) (.string (txB S))
   obtain ⟨g2,cap2,e2,_,_,hc2,_⟩:=hown
   injection e2 with e2 _ _
   injection e2 with e2
   injection e2 with e2
   subst e2
   refine ⟨qaL ho1 (q1v S hw),hr1.c2,by rw[hc',h0],hz',hr2'.c2,by rw[hc2];simp[hil],⟨h.t0,h.low,h.cov,texts.set i (txB S),⟨hp.nd,by rw[List.length_set];exact hp.tl,hp.few,hp.ok,fun s hs=>?_,vi,mp,_,hr2',hG⟩,fun n S' hn=>?_⟩,?_⟩
   ·rcases List.mem_or_eq_of_mem_set hs with hs | rfl
    ·exact hp.tok s hs
    ·unfold SOk;rw[q5S];omega
   ·by_cases e:n=i
    ·subst e
     have:=Rep.tree hi hn
     subst this
     exact Or.inr (by simp[hil])
    ·rw[List.getElem?_set_ne (fun h=>e h.symm)]
     exact ht n S' hn
   ·exact ((Fr.ofBelow hb1).trans fr2').alike (fun k hk=>(hG k).2 hk) (fun k hk=>(hG k).1 hk)
  have hz0:((⟨#[]⟩:ByteArray).toList == ([]:List UInt8))=true:=by rw[ByteArray.toList_eq];rfl
  clear h hp ht hr hr2 fr2 hG hi hS hk hw hti h0 hglt hsz hfl
  generalize txB S=s at *
  generalize S.flat=fl at *
  generalize texts.length=L at *
  go_enter Tryz.func115,Tryz.ntmps115
  go_upto_region 40 with fail
  go_region_with (first
   | (go_at_call 135;(with_reducible refine hwr.mono ?_);rintro e w1 ⟨v1,rfl,hg1,ho1⟩;have hq:=HW1.out w1 v1 hg1 ho1;have q1:=hq.1;have q0:=hq.2.1;have q2:=hq.2.2.1;have q3:=hq.2.2.2.1)
   | fail)
  all_goals
   have q4:=hq.2.2.2.2.1
   have q5:=hq.2.2.2.2.2.1
   have HQ:Hid _:=hq.2.2.2.2.2.2
   clear hwr hq q0 q1 q2 q3 hg1 ho1 HW1 c2 hc hz
   generalize w1.setCell ⟨g,i,none⟩ (.string s)=w2 at *
   go_wp2
   go_ret
   exact ⟨rfl,HQ.out⟩
 ·rw[hti]at h1
  injection h1 with h1
  rw[h1]at hc
  have hne:((txB S).toList == ([]:List UInt8))=false:=by
   rw[beq_eq_false_iff_ne]
   intro e
   refine qe6 S ?_
   have:(txB S).toList=(txB S).data.toList:=by rw[ByteArray.toList_eq]
   rw[this]at e
   have e2:(txB S).data=#[]:=by simpa using e
   exact congrArg ByteArray.mk e2
  have HQ:Hid (TextP T0 w G b T rest items w):=⟨h,Fr.ofBelow (Below.refl _ _)⟩
  clear h hp ht hr hr2 fr2 hG hi hS hk hw hti h1
  generalize txB S=s at *
  go_enter Tryz.func115,Tryz.ntmps115
  go_wp2
  go_ret
  exact ⟨rfl,HQ.out⟩
theorem q7b{w:World}{ops:Array Oper}{o:Oper}{a:Act}{K:Act→World→Prop}{Q:Exit→Act→World→Prop}{E:Prop}(hw:Region.wanted o (yielded ops a.tmps)=true)(m x:Operand)
  (ho:o.op=.call { callee:=.builtin .delete,args:=#[m,x],argTypes:=#[100,140] }) (b n:Nat) (f:It→Option Nat) (y:It) (hm:a.eval m=.map (some b)) (hx:a.eval x=itV y)
  (h:NumOf w b n f) (hy:ItOk y) (hf:(f y).isSome=true)
  (hK:∀ w',NumOf w' b (n - 1) (fun z=>if z=y then none else f z)→w.grownBy w' (some b)→K (a.put o.dst (.tuple #[])) w') :
  if Region.wanted o (yielded ops a.tmps)=true then Oper.wp Tryz.prog o a w K Q else E:=by
 rw[if_pos hw]
 obtain ⟨w',hr,h1,h2⟩:=h.drop hy hf o.type
 unfold Oper.wp execOp
 simp only[ho,resolve,invoke,builtin,Sem.run_bind,Sem.run_pure,Result.andThen_ok,List.map_toArray,List.map_cons,List.map_nil,hm,hx,hr]
 exact hK w' h1 h2
def outI (items:List It) (n i:Nat) (y:It):Option Nat:=(posI items y).bind fun j=>if n≤j∧j<n+i then none else some j
theorem qbE(items:List It)(n:Nat)(y:It):posI items y=outI items n 0 y:=by
 unfold outI
 cases posI items y with
 | none=>rfl
 | some j=>simp only[Option.bind_some];rw[if_neg (by omega)]
theorem qbD{items:List It}(hn:items.Nodup){n i:Nat}(h:n+i<items.length)(y:It):(if y=items[n+i] then none else outI items n i y)=outI items n (i+1) y:=by
 unfold outI
 by_cases e:y=items[n+i]
 ·rw[if_pos e,(q2d hn (j:=n+i)).2 (by rw[e];exact List.getElem?_eq_getElem h)]
  simp only[Option.bind_some]
  rw[if_pos (by omega)]
 ·rw[if_neg e]
  cases hp:posI items y with
  | none=>rfl
  | some j =>
   have hj:=(q2d hn).1 hp
   have:j≠n+i:=fun he=>e (by subst he;rw[List.getElem?_eq_getElem h]at hj;injection hj with hj;exact hj.symm)
   simp only[Option.bind_some]
   by_cases c:n≤j∧j<n+i
   ·rw[if_pos c,if_pos (by omega)]
   ·rw[if_neg c,if_neg (by omega)]
theorem qb2{items:List It}(hn:items.Nodup){n i:Nat}(h:n+i<items.length):(outI items n i items[n+i]).isSome=true:=by
 unfold outI
 rw[(q2d hn (j:=n+i)).2 (List.getElem?_eq_getElem h)]
 simp only[Option.bind_some]
 rw[if_neg (by omega)]
 rfl
theorem qco{items:List It}(hn:items.Nodup){n:Nat}(h:n≤items.length)(y:It):outI items n (items.length - n) y=posI (items.take n) y:=by
 unfold outI
 cases hp:posI items y with
 | none =>
  rw[q1u]at hp
  exact (q1u.2 (fun hy=>hp (List.mem_of_mem_take hy))).symm
 | some j =>
  have hj:=(q2d hn).1 hp
  have hl:=qdr hp
  simp only[Option.bind_some]
  by_cases c:j<n
  ·rw[if_neg (by omega)]
   refine ((q2d (hn.sublist (List.take_sublist _ _))).2 ?_).symm
   rw[List.getElem?_take,if_pos c];exact hj
  ·rw[if_pos (by omega)]
   refine (q1u.2 fun hy=>?_).symm
   obtain ⟨i,hi⟩:=List.mem_iff_getElem?.1 hy
   rw[List.getElem?_take]at hi
   by_cases ci:i<n
   ·rw[if_pos ci]at hi
    have:=q3e hn hi hj
    omega
   ·rw[if_neg ci]at hi;cases hi
theorem qdv{w:World}{a:Option Addr}{n cap m:Nat}{items:List It}(h:w.ownsRow 0 140 4 (.slice a n cap) n (encI items))(hl:items.length=n)(hm:m≤n) :
  ∃ a',(∀ w',(Instr.sliceAt 99 (.slice a n cap) (some (.int .i64 (m:Int))) none none).run Tryz.prog w'=.ok (.slice a' (n - m) (cap - m)) w') ∧
   ∀ k (x:It),items[m+k]? = some x→∃ g o,(∀ w',(Instr.indexAt 99 (.slice a' (n - m) (cap - m)) (.int .i64 (k:Int))).run Tryz.prog w'=.ok (.pointer (some ⟨g,o,none⟩)) w') ∧
    ∀ w':World,w'.ownsRow 0 140 4 (.slice a n cap) n (encI items)→w'.cell? ⟨g,o,none⟩=some (.int .u8 (x.op:Int))∧w'.cell? ⟨g,o+1,none⟩=some (.int .u8 (x.p:Int))∧w'.cell? ⟨g,o+2,none⟩=some (.int .i64 x.a)∧w'.cell? ⟨g,o+3,none⟩=some (.int .i64 x.b):=by
 rcases h.2 with ⟨e,e0⟩ | ⟨g,cap',cur,e,_,hcell,hnc,_,hsz,htk⟩
 ·injection e with e1 _ e3
  subst e1 e3 e0
  obtain ⟨a',h1,_⟩:=cut_n (P:=Tryz.prog) Tryz.underlying99 q1p none 0 0 m hm (Nat.le_refl _) (fun _=>rfl)
  exact ⟨a',h1,fun k x hk=>absurd (List.getElem?_eq_some_iff.1 hk).1 (by omega)⟩
 ·injection e with e1 _ e3
  subst e1 e3
  obtain ⟨a',h1,_,h3⟩:=cut_n (P:=Tryz.prog) Tryz.underlying99 q1p (some ⟨g,0,none⟩) n cap m hm hnc (fun e=>by cases e)
  refine ⟨a',h1,fun k x hx=>?_⟩
  obtain ⟨hk,rfl⟩:=List.getElem?_eq_some_iff.1 hx
  have ha:=h3 (by omega) _ rfl
  rw[qh,Nat.zero_add]at ha
  subst ha
  have hkn:k<n - m:=by omega
  refine ⟨g,4*(m+k),fun w'=>?_,fun w' ho=>?_⟩
  ·simp[Instr.indexAt,run_underlying Tryz.underlying99,asIntOf,q1h q1p,hkn,Result.andThen,go_sem,qh,Nat.mul_comm]
  ·rcases ho.2 with ⟨e,e0⟩ | ⟨g',cap',cur',e,_,hcell',hnc',_,hsz',htk'⟩
   ·cases e
   ·injection e with e1 _ e3
    injection e1 with e1
    injection e1 with e1 _ _
    subst e1
    have key:∀ j,j<n*4→w'.cell? ⟨g,j,none⟩=(encI items)[j]? := fun j hj=>by
     rw[← htk',List.getElem?_take,if_pos hj]
     simp[World.cell?,hcell']
    obtain ⟨q0,q1,q2,q3⟩:=q43 items (m+k) hk
    refine ⟨?_,?_,?_,?_⟩
    ·rw[key _ (by omega)];exact q0
    ·rw[key _ (by omega)];exact q1
    ·rw[key _ (by omega)];exact q2
    ·rw[key _ (by omega)];exact q3
structure Cut (w wr:World) (t mb L i n:Nat) (a:Option Addr) (cap:Nat) (items:List It):Prop where
 num:NumOf wr mb (L - i) (outI items n i)
 gr:w.grownBy wr (some mb)
theorem Cut.blk{w wr:World}{t mb i n cap:Nat}{a:Option Addr}{items:List It}(h:TabR w t a items.length cap mb items)(c:Cut w wr t mb items.length i n a cap items):wr.heap[t]? = some (.cells #[tbV t,.slice a items.length cap,.map (some mb)] 175 (0,0))∧wr.ownsRow 0 140 4 (.slice a items.length cap) items.length (encI items):=by
 obtain ⟨es,cl,hmap⟩:=h.num.isMap
 have hmt:t≠mb:=fun e=>by rw[← e,h.blk]at hmap;cases hmap
 have hnm:(Value.slice a items.length cap).ownBlock≠some mb:=q3O h.row hmap (fun cs e=>by cases e)
 have st:∀ k,k<w.heap.size→k≠mb→wr.heap[k]? = w.heap[k]? := fun k hk hne=>c.gr.block k hk (fun e=>hne (by injection e))
 exact ⟨(st t (Array.getElem?_eq_some_iff.1 h.blk).1 hmt).trans h.blk,qj h.row fun k hk=>st k (qu h.row k hk) (fun e=>hnm (e ▸ hk))⟩
theorem qcU{w wr:World}{F:Nat→Prop}{t mb n cap:Nat}{a:Option Addr}{items:List It}(hI:TabI w F t items)(h:TabR w t a items.length cap mb items)(hF:∀ k,F k↔(k=t∨k=mb∨(Value.slice a items.length cap).ownBlock=some k))(hn:n≤items.length)
  (c:Cut w wr t mb items.length (items.length - n) n a cap items):TabI (wr.setCell ⟨t,1,none⟩ (.slice a n cap)) F t (items.take n)∧Fr w (wr.setCell ⟨t,1,none⟩ (.slice a n cap)) F F:=by
 obtain ⟨h1,h2⟩:=c.blk h
 obtain ⟨es,cl,hmap⟩:=c.num.isMap
 have hmt:mb≠t:=fun e=>by rw[e,h1]at hmap;cases hmap
 have hne:(Value.slice a items.length cap).ownBlock≠some t:=q3O h2 h1 (fun cs e=>by injection e with _ e _;exact absurd e (by decide))
 have hlen:(items.take n).length=n:=by simp;omega
 obtain ⟨a',cap',e,_,_,_,h4,h5⟩:=q3P h2 hn
 injection e with e1 _ e3
 subst e1 e3
 rw[qbe]at h4
 refine ⟨⟨hI.nd.sublist (List.take_sublist _ _),by have:=hI.few;omega,fun x hx=>hI.ok x (List.mem_of_mem_take hx),.slice a n cap,mb,?_,?_,?_,fun k=>?_⟩,?_⟩
 ·rw[heap_setCell_same wr t 1 _ _ _ h1];rfl
 ·rw[hlen]
  refine qj h4 fun k hk=>Below.heap_setCell _ _ _ _ ?_
  dsimp only
  rintro rfl
  rw[h5]at hk;exact hne hk
 ·rw[hlen]
  have:=c.num
  rw[show items.length - (items.length - n)=n by omega]at this
  exact (this.far (Below.heap_setCell _ _ _ _ (by dsimp only;exact hmt))).alike fun y _=>qco hI.nd hn y
 ·rw[h5];exact hF k
 ·refine ⟨c.gr.os,c.gr.tape,c.gr.output,by have:=c.gr.size;simpa using this,fun k hk hf=>?_,fun _ hk=>Or.inl hk⟩
  have hf':=fun e=>hf ((hF k).2 e)
  exact (Below.heap_setCell _ _ _ _ (by dsimp only;exact fun e=>hf' (Or.inl e))).trans (c.gr.block k hk (fun e=>hf' (Or.inr (Or.inl (by injection e)))))
theorem q8A{w:World}{F:Nat→Prop}{t:Nat}{items:List It}(h:TabI w F t items)(n:Nat)(hn:n≤items.length) :
  Calls Tryz.prog 110 #[.pointer (some ⟨t,0,none⟩),.int .i64 (n:Int)] w fun e w'=>e=.returned (.tuple #[])∧TabI w' F t (items.take n)∧Fr w w' F F:=by
 obtain ⟨a,cap,mb,hr,hF⟩:=h.read
 have c1:=hr.c1
 obtain ⟨a',hcut,hat⟩:=qdv hr.row rfl hn
 have hpre:=fun w'=>pre_n (P:=Tryz.prog) Tryz.underlying99 q1p a items.length cap n hn hr.hc hr.nn w'
 have HR:Hid _:=hr
 have HF:Hid _:=hF
 have HI:Hid _:=h
 have HAT:Hid _:=hat
 have HC0:Hid (Cut w w t mb items.length 0 n a cap items):=⟨hr.num.alike fun y _=>qbE items n y,⟨rfl,rfl,rfl,Nat.le_refl _,fun _ _ _=>rfl⟩⟩
 have HN:Hid (n≤items.length):=hn
 have hfew:=h.few
 clear h hr hF hat hn
 generalize hL:items.length=L at *
 have HL:Hid (items.length=L):=hL
 clear hL
 go_enter Tryz.func110,Tryz.ntmps110
 go_wp2
 go_loopw [13] (fun i wr=>∃ k:Nat,k≤L - n∧i=.int .i64 k∧Hid (Cut w wr t mb L k n a cap items)) (fun i _=>(L - n) - (intOf i).toNat)
 case atStart=>exact ⟨0,Nat.zero_le _,rfl,HC0⟩
 case round =>
  obtain ⟨k,hk,rfl,HC⟩:=hrel
  clear HC0 c1
  by_cases hlt:k<L - n
  ·have hkl:n+k<items.length:=by have:=HL.out;omega
   have hx:items[n+k]? = some items[n+k]:=List.getElem?_eq_getElem hkl
   have HX:Hid (ItOk items[n+k]):=HI.out.ok _ (List.getElem_mem hkl)
   have HTH:Hid ((outI items n k items[n+k]).isSome=true):=qb2 HI.out.nd hkl
   have HNX:Hid (∀ y,(if y=items[n+k] then none else outI items n k y)=outI items n (k+1) y):=fun y=>qbD HI.out.nd hkl y
   obtain ⟨g,o,hio,hcs⟩:=HAT.out k _ hx
   have HB:Hid _:=(show Cut w wr t mb items.length k n a cap items by rw[HL.out];exact HC.out).blk (by rw[HL.out];exact HR.out)
   rw[HL.out]at HB
   obtain ⟨q0,q1,q2,q3⟩:=hcs wr HB.out.2
   generalize items[n+k]=x at *
   obtain ⟨op,p,xa,xb⟩:=x
   dsimp only at q0 q1 q2 q3
   clear hx hkl hcs
   have hb1:=qc wr (.cells #[.int .u8 (op:Int),.int .u8 (p:Int),.int .i64 xa,.int .i64 xb] 140)
   have c2:(wr.alloc (.cells #[.int .u8 (op:Int),.int .u8 (p:Int),.int .i64 xa,.int .i64 xb] 140)).cell? ⟨t,2,none⟩=some (.map (some mb)):=qm (qb HB.out.1 2) hb1
   have hnum:NumOf (wr.alloc (.cells #[.int .u8 (op:Int),.int .u8 (p:Int),.int .i64 xa,.int .i64 xb] 140)).drew mb (L - k) (outI items n k):=HC.out.num.far (hb1.block mb HC.out.num.lt)
   have HGR:Hid (w.grownBy (wr.alloc (.cells #[.int .u8 (op:Int),.int .u8 (p:Int),.int .i64 xa,.int .i64 xb] 140)).drew (some mb)):=⟨HC.out.gr.os,HC.out.gr.tape,HC.out.gr.output,by have:=HC.out.gr.size;simp;omega,fun j hj hne=>(hb1.block j (by have:=HC.out.gr.size;omega)).trans (HC.out.gr.block j hj hne)⟩
   clear hb1 HB HC
   go_wp2
   go_upto_region 15 with fail
   go_region_law ((refine q7b rfl _ _ rfl mb (L - k) (outI items n k) ⟨op,p,xa,xb⟩ rfl rfl hnum HX.out HTH.out ?_;intro w6 hn6 hg6))
   all_goals
    have HC6:Hid (Cut w w6 t mb L (k+1) n a cap items):=by
     refine ⟨?_,⟨hg6.os.trans HGR.out.os,hg6.tape.trans HGR.out.tape,hg6.output.trans HGR.out.output,Nat.le_trans HGR.out.size hg6.size,fun j hj hne=>(hg6.block j (Nat.lt_of_lt_of_le hj HGR.out.size) hne).trans (HGR.out.block j hj hne)⟩⟩
     rw[show L - (k+1)=L - k - 1 by omega]
     exact hn6.alike fun y _=>HNX.out y
    clear hnum c2 hn6 hg6 HGR
    go_wp2
    go_roundw
    case rel=>exact ⟨k+1,by omega,by go_num,HC6⟩
    case measure=>simp[intOf] <;> omega
  ·obtain rfl:k=L - n:=by omega
   have HC':Hid (Cut w wr t mb items.length (items.length - n) n a cap items):=by show Cut _ _ _ _ _ _ _ _ _ _;rw[HL.out];exact HC.out
   have HR':Hid (TabR w t a items.length cap mb items):=by show TabR _ _ _ _ _ _ _;rw[HL.out];exact HR.out
   have hb:=HC'.out.blk HR'.out
   rw[HL.out]at hb
   have c1:wr.cell? ⟨t,1,none⟩=some (.slice a L cap):=qb hb.1 1
   have z1:wr.frozen? ⟨t,1,none⟩=false:=frozen_of_row wr _ 1 _ _ hb.1
   have HFIN:Hid _:=qcU HI.out HR'.out (by rw[HL.out];exact HF.out) (by rw[HL.out];exact HN.out) HC'.out
   clear hb HC'
   go_wp2
   go_end0
   exact ⟨rfl,HFIN.out⟩
def TabB (t bx:Nat) (w:World) (G:Nat→Prop) (items:List It):Prop :=
 ∃ F,TabI w F t items∧w.heap[bx]? = some (.cells #[tbV t] 135 (0,0))∧¬ F bx∧∀ k,G k↔(F k∨k=bx)
theorem TabB.lt{t bx:Nat}{w:World}{G:Nat→Prop}{items:List It}(h:TabB t bx w G items):(∀ k,G k→k<w.heap.size)∧items.length≤4096:=by
 obtain ⟨F,h1,h2,_,h4⟩:=h
 refine ⟨fun k hk=>?_,h1.few⟩
 rcases (h4 k).1 hk with hk | rfl
 ·exact h1.lt k hk
 ·exact (Array.getElem?_eq_some_iff.1 h2).1
theorem TabB.far{t bx:Nat}{w w':World}{G:Nat→Prop}{items:List It}(h:TabB t bx w G items)(hb:∀ k,G k→w'.heap[k]? = w.heap[k]?):TabB t bx w' G items:=by
 obtain ⟨F,h1,h2,h3,h4⟩:=h
 exact ⟨F,h1.far (fun k hk=>hb k ((h4 k).2 (Or.inl hk))),(hb bx ((h4 bx).2 (Or.inr rfl))).trans h2,h3,h4⟩
theorem TabB.fr{t bx:Nat}{w w':World}{F F' G:Nat→Prop}{items:List It}(h2:w.heap[bx]? = some (.cells #[tbV t] 135 (0,0)))(h3:¬ F bx)(h4:∀ k,G k↔(F k∨k=bx))(hT:TabI w' F' t items)(fr:Fr w w' F F'):∃ G',TabB t bx w' G' items∧Fr w w' G G':=by
 have hl:=(Array.getElem?_eq_some_iff.1 h2).1
 refine ⟨fun k=>F' k∨k=bx,⟨F',hT,(fr.keep bx hl h3).trans h2,fr.out h3 hl,fun k=>Iff.rfl⟩,⟨fr.os,fr.tape,fr.output,fr.size,fun k hk hg=>fr.keep k hk (fun hf=>hg ((h4 k).2 (Or.inl hf))),fun k hk=>?_⟩⟩
 rcases hk with hk | hk
 ·rcases fr.foot k hk with h | h
  ·exact Or.inl ((h4 k).2 (Or.inl h))
  ·exact Or.inr h
 ·exact Or.inl ((h4 k).2 (Or.inr hk))
def FindC (S:World→(Nat→Prop)→List It→Prop) (fd:Fnd) (fid bx:Nat):Prop:=∀ (w:World) (G:Nat→Prop) (items:List It) (x:It),ItOk x→S w G items→Calls Tryz.prog fid #[itV x,.pointer (some ⟨bx,0,none⟩)] w fun e w' =>
 (∃ r,fd items x=some r∧e=.returned (.tuple #[.int .i64 (r.2:Int),.bool true])∧∃ G',S w' G' r.1∧Fr w w' G G')∨(fd items x=none∧e=.returned (.tuple #[.int .i64 0,.bool false])∧∃ G',S w' G' items∧Fr w w' G G')
theorem q6h(t bx:Nat):FindC (TabB t bx) kpF 108 bx:=by
 intro w G items x hx hS
 obtain ⟨F,h1,h2,h3,h4⟩:=hS
 obtain ⟨a,cap,mb,hr,_⟩:=h1.read
 have hb:=qc w (itO x)
 have hr1:=hr.up hb
 have c1:=hr1.c1
 have c2:=hr1.c2
 have cb:(w.alloc (itO x)).cell? ⟨bx,0,none⟩=some (.pointer (some ⟨t,0,none⟩)):=qm (qb h2 0) hb
 have hlk:=fun m=>(show NumOf ((w.alloc (itO x)).drewN m) mb items.length (posI items) from hr1.num).look hx
 have HFIN:Hid (∀ w',Below (w.alloc (itO x)).heap.size (w.alloc (itO x)) w'→∃ G',TabB t bx w' G' items∧Fr w w' G G'):=fun w' hw=>TabB.fr h2 h3 h4 (h1.up (qd hb hw)) (Fr.same (qd hb hw))
 have HFIN2:Hid (∀ (w1 w':World) (F':Nat→Prop),Below (w.alloc (itO x)).heap.size (w.alloc (itO x)) w1→TabI w' F' t (items++[x])→Fr w1 w' F F'→∃ G',TabB t bx w' G' (items++[x])∧Fr w w' G G'):=fun w1 w' F' hw hT fr=>by
  have hw1:=qd hb hw
  refine TabB.fr h2 h3 h4 hT ⟨fr.os.trans hw1.os,fr.tape.trans hw1.tape,fr.output.trans hw1.output,Nat.le_trans hw1.size fr.size,fun k hk hf=>(fr.keep k (Nat.lt_of_lt_of_le hk hw1.size) hf).trans (hw1.block k hk),fun k hk=>?_⟩
  rcases fr.foot k hk with h | h
  ·exact Or.inl h
  ·exact Or.inr (Nat.le_trans hw1.size h)
 have HI:Hid (∀ w',Below (w.alloc (itO x)).heap.size (w.alloc (itO x)) w'→TabI w' F t items):=fun w' hw=>h1.up (qd hb hw)
 have HX:Hid _:=hx
 clear h1 h2 h3 h4 hr hr1 hb hx
 cases hp:posI items x with
 | some j =>
  have HP:Hid (kpF items x=some (items,j)):=by
   show _=_
   unfold kpF
   rw[show items.findIdx? (· = x)=some j from hp]
  rw[hp]at hlk
  clear hp HFIN2
  obtain ⟨op,p,xa,xb⟩:=x
  unfold itV at hlk
  unfold itO at c1 c2 cb HFIN hlk
  dsimp only[Option.getD,Option.isSome]at c1 c2 cb HFIN hlk
  unfold itV
  dsimp only
  go_enter Tryz.func108,Tryz.ntmps108
  go_upto_region 15 with fail
  go_quiet (fail)
  go_wp2
  go_ret2
  exact Or.inl ⟨_,HP.out,rfl,HFIN.out _ (below_drewN (Below.refl _ _) _)⟩
 | none =>
  rw[hp]at hlk
  by_cases hl:items.length=4096
  ·have HP:Hid (kpF items x=none):=by
    show _=_
    unfold kpF
    rw[show items.findIdx? (· = x)=none from hp]
    simp only
    rw[if_pos hl]
   have hl':((items.length:Int) == 4096)=true:=by rw[beq_iff_eq];omega
   clear hp hl
   obtain ⟨op,p,xa,xb⟩:=x
   unfold itV at hlk
   unfold itO at c1 c2 cb HFIN hlk
   dsimp only[Option.getD,Option.isSome]at c1 c2 cb HFIN hlk
   unfold itV
   dsimp only
   go_enter Tryz.func108,Tryz.ntmps108
   go_upto_region 15 with fail
   go_quiet (fail)
   go_wp2
   go_ret2
   exact Or.inr ⟨HP.out,rfl,HFIN.out _ (below_drewN (Below.refl _ _) _)⟩
  ·have HP:Hid (kpF items x=some (items++[x],items.length)):=by
    show _=_
    unfold kpF
    rw[show items.findIdx? (· = x)=none from hp]
    simp only
    rw[if_neg hl]
   have hadd:∀ w',Below (w.alloc (itO x)).heap.size (w.alloc (itO x)) w'→_:=fun w' hw=>q8z (HI.out w' hw) x HX.out (q1u.1 hp) (by have:=(HI.out w' hw).few;omega)
   have hl':((items.length:Int) == 4096)=false:=by rw[beq_eq_false_iff_ne];omega
   clear hp hl HFIN
   obtain ⟨op,p,xa,xb⟩:=x
   unfold itV at hlk hadd
   unfold itO at c1 c2 cb HFIN2 hlk hadd
   dsimp only[Option.getD,Option.isSome]at c1 c2 cb HFIN2 hlk hadd
   unfold itV
   dsimp only
   go_enter Tryz.func108,Tryz.ntmps108
   go_upto_region 15 with fail
   go_quiet (fail)
   have hw1:=below_drewN (Below.refl (w.alloc (.cells #[.int .u8 (op:Int),.int .u8 (p:Int),.int .i64 xa,.int .i64 xb] 140)).heap.size (w.alloc (.cells #[.int .u8 (op:Int),.int .u8 (p:Int),.int .i64 xa,.int .i64 xb] 140))) nq
   have hadd1:=hadd _ hw1
   clear hadd
   go_wp2_with fail
   refine hadd1.mono ?_
   rintro e w2 ⟨rfl,F2,hT2,fr2⟩
   have HG:Hid _:=HFIN2.out _ _ _ hw1 hT2 fr2
   clear hadd1 hT2 fr2 hw1
   go_wp2
   go_ret2
   exact Or.inl ⟨_,HP.out,rfl,HG.out⟩
def encM (ns:List Nat):List Value:=ns.map fun n:Nat=>Value.int .i64 (n:Int)
theorem qbf(ks:List Nat)(m:Nat):(encM ks).take (m*1)=encM (ks.take m):=by simp[encM,List.map_take]
theorem q2O:(Tryz.prog.info? 3).map (·.size)=some 1:=by kernel_rfl
theorem q4g:(Tryz.prog.info? 3).map (fun i=>(i.zero,i.size,i.bytes))=some (some (.int .i64 0),1,8):=by kernel_rfl
theorem q6u{w:World}{base L m:Nat}{v:Value}{ns:List Nat}(h:w.ownsRow base 3 1 v L (encM ns))(hm:m≤L) :
  ∃ a cap b,v=.slice a L cap∧(∀ w',(Instr.sliceAt 27 (.slice a L cap) none (some (.int .i64 (m:Int))) none).run Tryz.prog w'=.ok (.slice a m cap) w')∧w.ownsRow base 3 1 (.slice a m cap) m (encM (ns.take m))∧(∀ w',(Instr.sliceAt 27 (.slice a L cap) (some (.int .i64 (m:Int))) none none).run Tryz.prog w'=.ok (.slice b (L - m) (cap - m)) w')∧NsSl w b (L - m) (cap - m) (ns.drop m)∧(Value.slice a m cap).ownBlock=v.ownBlock:=by
 have hlen:ns.length=L:=by have:=h.1;simpa [encM] using this
 obtain ⟨a,cap,rfl,h1,h2,h3,h4,h0⟩:=q3P h hm
 rw[qbf]at h4
 obtain ⟨b,h5,h6,h7⟩:=cut_n (P:=Tryz.prog) (T:=27) Tryz.underlying27 q2O a L cap m hm h1 h3
 refine ⟨a,cap,b,rfl,pre_n Tryz.underlying27 q2O a L cap m hm h1 h3,h4,h5,?_,h0⟩
 have had:∀ k,k<L - m→∃ g cur,a=some ⟨g,0,none⟩∧w.heap[g]? = some (.cells cur 3 (0,0))∧cur.toList.take (L*1)=encM ns∧adOf b k=⟨g,m+k,none⟩:=fun k hk=>by
  rcases h.2 with ⟨e,e0⟩ | ⟨g,cap',cur,e,_,hcell,_,_,_,htk⟩
  ·omega
  ·injection e with e1 _ _
   subst e1
   refine ⟨g,cur,rfl,hcell,htk,?_⟩
   rw[h7 (by omega) _ rfl]
   simp[adOf,qh]
 refine ⟨by simp[hlen],by omega,by omega,fun n k w' hk hn=>?_,fun k hk=>?_,fun k hk=>?_,h6⟩
 ·exact q1c Tryz.underlying27 q2O (fun e=>by have:=h6 e;omega) k w' hk
 ·obtain ⟨g,cur,_,hcell,htk,e⟩:=had k hk
  rw[e,qb hcell]
  have:cur.toList[m+k]? = (encM ns)[m+k]? := by rw[← htk,List.getElem?_take,if_pos (by omega)]
  rw[← Array.getElem?_toList,this]
  have hmk:m+k<ns.length:=by omega
  simp[encM,List.getD_eq_getElem?_getD,hmk]
 ·obtain ⟨g,cur,_,hcell,_,e⟩:=had k hk
  rw[e]
  exact (Array.getElem?_eq_some_iff.1 hcell).1
structure NumSt (S:World→(Nat→Prop)→List It→Prop) (fd:Fnd) (w wr:World) (G G1:Nat→Prop) (items items1:List It) (a:Option Addr) (len cap:Nat) (ts:List Tk) (v:Value) (st:List Nat) (k:Nat):Prop where
 s:S wr G1 items1
 fr:Fr w wr G G1
 tk:TkSl wr a len cap ts
 ap:0<len→∀ x,a=some x→¬ G1 x.block
 row:wr.ownsRow w.heap.size 3 1 v st.length (encM st)
 off:∀ k,v.ownBlock=some k→¬ G1 k
 ns:nS fd (ts.take k) (items,[])=some (items1,st)
 lt:∀ j∈st,j<items1.length
 pre:∃ l,items1=items++l
 few:st.length≤k
def EntersT (F:FuncId):Prop:=∀ args w,(callFunc F args).run Tryz.prog w=.ok (.enter F args) w
theorem qd4{op p:Nat}{ns:List Nat}{N:Nat}(h1:op<256)(h2:p<256)(hN:N≤4096)(h:∀ j∈ns,j<N):ItOk (itemOf (op,p) ns):=by
 match ns,h with
 | [],_=>exact ⟨h1,h2,by show (-1:Int)≤-1;omega,by show (-1:Int)<100000000;omega,by show (-1:Int)≤-1;omega,by show (-1:Int)<100000000;omega⟩
 | [x],h =>
  have:=h x (by simp)
  exact ⟨h1,h2,by show (-1:Int)≤(x:Int);omega,by show (x:Int)<100000000;omega,by show (-1:Int)≤-1;omega,by show (-1:Int)<100000000;omega⟩
 | x::y::_,h =>
  have:=h x (by simp)
  have:=h y (by simp)
  exact ⟨h1,h2,by show (-1:Int)≤(x:Int);omega,by show (x:Int)<100000000;omega,by show (-1:Int)≤(y:Int);omega,by show (y:Int)<100000000;omega⟩
theorem Fr.trans'{w w1 w2:World}{F F1 F2:Nat→Prop}(h:Fr w w1 F F1)(k:Fr w1 w2 F1 F2):Fr w w2 F F2 :=
 ⟨k.os.trans h.os,k.tape.trans h.tape,k.output.trans h.output,Nat.le_trans h.size k.size,fun j hj hf=>(k.keep j (Nat.lt_of_lt_of_le hj h.size) (fun h1=>by
  rcases h.foot j h1 with e | e
  ·exact hf e
  ·omega)).trans (h.keep j hj hf),fun j hj=>by
  rcases k.foot j hj with e | e
  ·exact h.foot j e
  ·exact Or.inr (Nat.le_trans h.size e)⟩
theorem FindC.uni{S:World→(Nat→Prop)→List It→Prop}{fd:Fnd}{fid bx:Nat}(h:FindC S fd fid bx)(w:World)(G:Nat→Prop)(items:List It)(x:It)(hx:ItOk x)(hS:S w G items):Calls Tryz.prog fid #[itV x,.pointer (some ⟨bx,0,none⟩)] w fun e w' =>
  ∃ (j:Nat) (f:Bool),e=.returned (.tuple #[.int .i64 (j:Int),.bool f])∧((f=true∧∃ items',fd items x=some (items',j)∧∃ G',S w' G' items'∧Fr w w' G G')∨(f=false∧fd items x=none∧∃ G',S w' G' items∧Fr w w' G G')) :=
 (h w G items x hx hS).mono fun e w' hq=>by
  rcases hq with ⟨⟨r,j⟩,h1,h2,h3⟩ | ⟨h1,h2,h3⟩
  ·exact ⟨j,true,h2,Or.inl ⟨rfl,r,h1,h3⟩⟩
  ·exact ⟨0,false,h2,Or.inr ⟨rfl,h1,h3⟩⟩
theorem q5u(S:World→(Nat→Prop)→List It→Prop)(fd:Fnd)(fid bx:Nat)(hE:EntersT fid)(hFd:FindC S fd fid bx)(hP:FdOk fd)
  (hlt:∀ {w G items},S w G items→(∀ k,G k→k<w.heap.size)∧items.length≤4096) (hfar:∀ {w w' G items},S w G items→(∀ k,G k→w'.heap[k]? = w.heap[k]?)→S w' G items)
  (w:World) (G:Nat→Prop) (items:List It) (a:Option Addr) (len cap:Nat) (ts:List Tk) (T:Tr) (hS:S w G items) (hT:TkSl w a len cap ts) (hA:0<len→∀ x,a=some x→¬ G x.block)
  (hl:0<len) (hg:GGood ts T) (hf:fewL false ts=true) :
  Calls Tryz.prog 107 #[.slice a len cap,.func (.func fid) #[] #[.pointer (some ⟨bx,0,none⟩)]] w fun e w'=>∃ G' items',S w' G' items'∧Fr w w' G G'∧(∃ l,items'=items++l)∧(∃ k st,nS fd (ts.take k) (items,[])=some (items',st)) ∧
   ((∃ j st,nS fd ts (items,[])=some (items',st++[j])∧e=.returned (.tuple #[.int .i64 (j:Int),.bool true]))∨(nS fd ts (items,[])=none∧e=.returned (.tuple #[.int .i64 0,.bool false]))):=by
 have HS0:Hid (NumSt S fd w w G G items items a len cap ts (.slice none 0 0) [] 0):=⟨hS,Fr.same (Below.refl _ _),hT,hA,⟨rfl,Or.inl ⟨rfl,rfl⟩⟩,fun k hk=>(by cases hk),rfl,fun j hj=>(by simp at hj),⟨[],by simp⟩,Nat.le_refl _⟩
 have HLEN:Hid (ts.length=len):=hT.hlen
 have HT0:Hid _:=hT
 have HA0:Hid _:=hA
 have HG:Hid _:=hg
 have hl2:len≤2048:=by have:=hg.few;have:=hT.hlen;omega
 have HF:Hid _:=hf
 have HFD:Hid _:=hFd
 have HLT:Hid (∀ {w G items},S w G items→(∀ k,G k→k<w.heap.size)∧items.length≤4096):=hlt
 have HFAR:Hid (∀ {w w' G items},S w G items→(∀ k,G k→w'.heap[k]? = w.heap[k]?)→S w' G items):=hfar
 have HP:Hid _:=hP
 unfold EntersT at hE
 clear hS hT hA hg hf hFd hlt hfar hP
 go_enter Tryz.func107,Tryz.ntmps107
 go_wp2
 go_loopw [4,5,6,12] (fun i b v c wr=>∃ k:Nat,k≤len∧c=.int .i64 k∧∃ (j:Nat) (f:Bool),i=.int .i64 (j:Int)∧b=.bool f∧∃ G1 items1 st,Hid (NumSt S fd w wr G G1 items items1 a len cap ts v st k)∧Hid (0<k→f=true∧∃ st',st=st'++[j])) (fun _ _ _ c _=>len - (intOf c).toNat)
 case atStart=>exact ⟨0,Nat.zero_le _,rfl,0,false,rfl,rfl,G,items,[],HS0,fun h=>absurd h (by omega)⟩
 case round =>
  obtain ⟨k,hk,rfl,j,f,rfl,rfl,G1,items1,st,HN,HJ⟩:=hrel
  clear HS0
  have hfw:=HN.out.few
  by_cases hlt:k<len
  ·have hxl:k<ts.length:=by have:=HLEN.out;omega
   obtain ⟨g1,o1,s1,hi1,hx0,hx1,hg1,_⟩:=HN.out.tk.at Tryz.underlying22 q1M k hlt
   have hidx:=fun w'=>hi1 len w' hlt
   clear hi1
   have HNX:Hid (nS fd (ts.take (k+1)) (items,[])=nStep fd (items1,st) ts[k]):=qdi fd hxl HN.out.ns
   have HOFF:Hid (nStep fd (items1,st) ts[k]=none→nS fd ts (items,[])=none):=fun h=>qdW fd (k:=k+1) (HNX.out.trans h)
   have hdep:takC ts[k]≤st.length:=by
    have:=(HG.out.ok k hxl).2
    rw[← qbu fd (ts.take k) (items,[]) (items1,st) [] rfl HN.out.ns]at this
    exact this
   obtain ⟨b,hfa⟩:=qbh hxl HF.out
   have hok:=HN.out.tk.ok ts[k] (List.getElem_mem hxl)
   generalize ts[k]=q at *
   obtain ⟨op,p⟩:=q
   dsimp only at hx0 hx1 HNX hfa hok
   obtain ⟨htn,h23,n3,n9,n10,n13,n14,_⟩:=q4M hfa
   have hc:=q1Y htn
   clear hfa htn
   have hTk:=fun w'=>q6i op w' h23 n3 n9 n10
   rw[← hc]at hTk
   have hn2:takC (op,p)≤2:=by rw[hc];exact q57 op
   have HSTEP:Hid (nStep fd (items1,st) (op,p)=(fd items1 (itemOf (op,p) (st.drop (st.length - takC (op,p))))).map fun r=>(r.1,st.take (st.length - takC (op,p))++[r.2])):=rfl
   clear hc
   generalize takC (op,p)=n at *
   obtain ⟨M,hM⟩:∃ M,M=st.length - n:=⟨_,rfl⟩
   rw[← hM]at HSTEP
   obtain ⟨av,cv,bv,rfl,hpre,hown,hcut,hns,hob⟩:=q6u HN.out.row (m:=M) (by omega)
   rw[show st.length - M=n by omega]at hcut hns
   have HO:Hid _:=hown
   have HOB:Hid _:=hob
   have HIX:Hid (ItOk (itemOf (op,p) (st.drop M))):=qd4 hok.1 hok.2 (HLT.out HN.out.s).2 (fun j hj=>HN.out.lt j (List.mem_of_mem_drop hj))
   have hb1:=qc wr (.cells #[.int .u8 (op:Int),.int .u8 (p:Int)] 43)
   have hwr:IntKind.i64.wrap ((st.length:Int) - (n:Int))=(M:Int):=by rw[IntKind.wrap_i64];omega
   have hML:M≤st.length:=by omega
   have HIT:Hid (∀ w',Below wr.heap.size wr w'→Calls Tryz.prog 131 #[.agg #[.int .u8 (op:Int),.int .u8 (p:Int)],.slice bv n (cv - M)] w' fun e w''=>e=.returned (itV (itemOf (op,p) (st.drop M)))∧Below w'.heap.size w' w''):=fun w' hb=>q5t op p bv n (cv - M) (st.drop M) w' (hns.up hb) hn2
   have HFI:Hid (∀ w',Below wr.heap.size wr w'→S w' G1 items1):=fun w' hb=>HFAR.out HN.out.s fun k hk=>hb.block k ((HLT.out HN.out.s).1 k hk)
   clear hns hown hob hM
   go_wp2_with (go_at_call 130;refine (hTk _).mono ?_;rintro e w' ⟨rfl,rfl⟩)
   have ct0:(wr.alloc (.cells #[.int .u8 (op:Int),.int .u8 (p:Int)] 43)).cell? ⟨wr.heap.size,0,none⟩=some (.int .u8 (op:Int)):=qb (MapKept.heap_alloc wr _).1 0
   have ct1:(wr.alloc (.cells #[.int .u8 (op:Int),.int .u8 (p:Int)] 43)).cell? ⟨wr.heap.size,1,none⟩=some (.int .u8 (p:Int)):=qb (MapKept.heap_alloc wr _).1 1
   have hitem:=HIT.out (wr.alloc (.cells #[.int .u8 (op:Int),.int .u8 (p:Int)] 43)).drew hb1.drew
   have HB1:Hid _:=hb1.drew
   have hz1:(wr.alloc (.cells #[.int .u8 (op:Int),.int .u8 (p:Int)] 43)).heap.size=wr.heap.size+1:=by simp
   clear hb1
   generalize st.drop M=dk at *
   generalize itemOf (op,p) dk=x at *
   go_region_with (first
    | (go_at_call 131;(with_reducible refine hitem.mono ?_);rintro e w2 ⟨rfl,hb2⟩;have hfind:=FindC.uni HFD.out w2 G1 items1 x HIX.out (HFI.out w2 (qd HB1.out hb2)))
    | ((with_reducible refine hfind.mono ?_);rintro e w3 ⟨j3,f3,rfl,hw3⟩)
    | fail)
   all_goals
    have HB2:Hid (Below wr.heap.size wr w2):=qd HB1.out hb2
    clear hitem hfind hb2 HB1 ct0 ct1 HIT HFI hE hcut hpre hidx hx0 hx1 hTk
    rcases hw3 with ⟨rfl,items2,hfd,G2,hS2,fr2⟩ | ⟨rfl,hfd,G2,hS2,fr2⟩
    ·have HSTEP2:Hid (nS fd (ts.take (k+1)) (items,[])=some (items2,st.take M++[j3])):=by
      show _=_
      rw[HNX.out,HSTEP.out,hfd];rfl
     have hoff1:∀ q,(Value.slice av M cv).ownBlock=some q→¬ G1 q:=fun q hq=>HN.out.off q (HOB.out ▸ hq)
     have HO3:Hid (w3.ownsRow w.heap.size 3 1 (.slice av M cv) M (encM (st.take M))):=fr2.own (q1z HO.out HB2.out) hoff1
     have hlt1:=qu HO.out
     have HOFF3:Hid (∀ q,(Value.slice av M cv).ownBlock=some q→¬ G2 q):=fun q hq=>fr2.out (hoff1 q hq) (Nat.lt_of_lt_of_le (hlt1 q hq) HB2.out.size)
     have HFR:Hid (Fr w w3 G G2):=HN.out.fr.trans' ((Fr.same HB2.out).trans' fr2)
     have HTK:Hid (TkSl w3 a len cap ts):=fr2.tks (HN.out.tk.up HB2.out) HN.out.ap
     have HAP:Hid (0<len→∀ x,a=some x→¬ G2 x.block):=fun h x hx=>by
      subst hx
      have:=(HN.out.tk.up HB2.out).lt h
      exact fr2.out (HN.out.ap h x rfl) this
     have HS3:Hid _:=hS2
     obtain ⟨l2,hl2'⟩:=HP.out.pre hfd
     have hj3:j3<items2.length:=HP.out.lt hfd
     have HPRE:Hid (∃ l,items2=items++l):=by
      obtain ⟨l,hl⟩:=HN.out.pre
      exact ⟨l++l2,by rw[show items2=items1++l2 from hl2',hl,List.append_assoc]⟩
     have HLL:Hid (∀ j∈st.take M++[j3],j<items2.length):=fun j hj=>by
      rcases List.mem_append.1 hj with hj | hj
      ·have:=HN.out.lt j (List.mem_of_mem_take hj)
       rw[show items2=items1++l2 from hl2',List.length_append];omega
      ·simp at hj;omega
     have HTL:Hid ((st.take M).length=M):=by show _=_;simp;omega
     have hz3:=fr2.size
     have hwz:=HN.out.fr.size
     have hw2z:=HB2.out.size
     clear hfd hS2 fr2 hoff1 hlt1 HNX HSTEP HOFF HN HJ HO HOB hl2' HIX HB2
     generalize st.take M=tk at *
     have hc4:(w3.alloc (.cells #[.int .i64 (j3:Int)] 3)).cell? ⟨w3.heap.size,0,none⟩=some (.int .i64 (j3:Int)):=qb (MapKept.heap_alloc w3 _).1 0
     have HO4:Hid ((w3.alloc (.cells #[.int .i64 (j3:Int)] 3)).ownsRow w.heap.size 3 1 (.slice av M cv) M (encM tk)):=World.ownsRow.alloc HO3.out _
     have hz4:w.heap.size≤(w3.alloc (.cells #[.int .i64 (j3:Int)] 3)).heap.size:=by simp;omega
     go_wp2_with (at_builtin;refine qb9 Tryz.underlying27 q4g rfl (by decide) rfl _ _ rfl w.heap.size _ M (encM tk) (.int .i64 (j3:Int)) w3.heap.size rfl rfl HO4.out hc4 rfl (by omega) hz4 ?_)
     intro v4 w4 hown4 hgr4 hloc4
     have hbn:=qc w3 (.cells #[.int .i64 (j3:Int)] 3)
     have hge:=q1E HO3.out
     have hG2:=(HLT.out HS3.out).1
     have hs4:=hgr4.size
     have hsn:=hbn.size
     have HFR4:Hid (Fr w w4 G G2):=⟨hgr4.os.trans (hbn.os.trans HFR.out.os),hgr4.tape.trans (hbn.tape.trans HFR.out.tape),hgr4.output.trans (hbn.output.trans HFR.out.output),by omega,fun q hq hg=>(hgr4.block q (by omega) (fun e=>by have:=hge q e.symm;omega)).trans ((hbn.block q (by omega)).trans (HFR.out.keep q hq hg)),HFR.out.foot⟩
     have HNEW:Hid (NumSt S fd w w4 G G2 items items2 a len cap ts v4 (tk++[j3]) (k+1)):=by
      refine ⟨HFAR.out HS3.out fun q hq=>(hgr4.block q (by have:=hG2 q hq;omega) (fun e=>HOFF3.out q e.symm hq)).trans (hbn.block q (hG2 q hq)),HFR4.out,HFR4.out.tks HT0.out HA0.out,HAP.out,?_,fun q hq hg=>?_,HSTEP2.out,HLL.out,HPRE.out,?_⟩
      ·rw[List.length_append,HTL.out]
       unfold encM at hown4 ⊢
       rw[List.map_append];exact hown4
      ·rcases hloc4 with e | e
       ·exact HOFF3.out q (e ▸ hq) hg
       ·rw[e]at hq;injection hq with hq;have:=hG2 q hg;omega
      ·rw[List.length_append,HTL.out];simp;omega
     clear hown4 hgr4 hloc4 hc4 HO4 HO3 hbn hge hG2
     go_wp2
     go_roundw
     case rel=>exact ⟨k+1,by omega,by go_num,j3,true,rfl,rfl,G2,items2,tk++[j3],HNEW,fun _=>⟨rfl,tk,rfl⟩⟩
     case measure=>simp[intOf] <;> omega
    ·have HNO:Hid (nS fd ts (items,[])=none):=HOFF.out (by rw[HSTEP.out,hfd];rfl)
     have HFR:Hid (Fr w w3 G G2):=HN.out.fr.trans' ((Fr.same HB2.out).trans' fr2)
     have HS3:Hid _:=hS2
     have HPRE:Hid _:=HN.out.pre
     have HSO:Hid _:=HN.out.ns
     clear hfd hS2 fr2 HNX HSTEP HOFF HN HJ HO HOB HIX HB2
     go_wp2
     go_ret2
     exact ⟨G2,items1,HS3.out,HFR.out,HPRE.out,⟨_,_,HSO.out⟩,Or.inr ⟨HNO.out,rfl⟩⟩
  ·obtain rfl:k=len:=by omega
   obtain ⟨rfl,st',rfl⟩:=HJ.out hl
   have HYES:Hid (nS fd ts (items,[])=some (items1,st'++[j])):=by
    have:=HN.out.ns
    rw[List.take_of_length_le (by have:=HLEN.out;omega)]at this
    exact this
   have HFR:Hid _:=HN.out.fr
   have HS3:Hid _:=HN.out.s
   have HPRE:Hid _:=HN.out.pre
   have HSO:Hid _:=HN.out.ns
   clear HN HJ hfw
   go_wp2
   go_ret2
   exact ⟨G1,items1,HS3.out,HFR.out,HPRE.out,⟨_,_,HSO.out⟩,Or.inl ⟨j,st',HYES.out,rfl⟩⟩
def TabT (w:World) (F:Nat→Prop) (t:Nat) (items:List It):Prop:=TabI w F t items∧TabIs items
theorem qc2:∀ T:Tr,0<T.flat.length
 | .leaf _=>by simp[Tr.flat]
 | .un _ _=>by simp[Tr.flat]
 | .bin _ _ _=>by simp[Tr.flat];omega
structure Chkd (ts:List Tk):Prop where
 pos:0<ts.length
 few:fewL false ts=true
 good:∃ T,GGood ts T
theorem chkd{ts:List Tk}(h:chkE ts=0):Chkd ts:=by
 obtain ⟨hl,hk⟩:=q25.1 h
 have hf:=((q3n ts).1 hk).1
 obtain ⟨T,hW,_,_,rfl⟩:=hk
 exact ⟨qc2 T,hf,T,ggood hW hl⟩
theorem qcD{w w':World}{F:Nat→Prop}{t:Nat}{items:List It}(h:TabI w F t items)(hb:Below (w.alloc (.cells #[tbV t] 135)).heap.size (w.alloc (.cells #[tbV t] 135)) w'):TabB t w.heap.size w' (fun k=>F k∨k=w.heap.size) items:=by
 have hb1:=qc w (.cells #[tbV t] 135)
 refine ⟨F,h.up (qd hb1 hb),(hb.block _ (by simp)).trans (MapKept.heap_alloc w _).1,fun hf=>?_,fun k=>Iff.rfl⟩
 have:=h.lt _ hf
 omega
theorem q9Q{w w1 w2:World}{F G':Nat→Prop}{t:Nat}{items:List It}(hb:Below w.heap.size w w1)(hB:TabB t w.heap.size w2 G' items)(fr:Fr w1 w2 (fun k=>F k∨k=w.heap.size) G'):∃ F',TabI w2 F' t items∧Fr w w2 F F':=by
 obtain ⟨F',h1,_,_,h4⟩:=hB
 refine ⟨F',h1,fr.os.trans hb.os,fr.tape.trans hb.tape,fr.output.trans hb.output,Nat.le_trans hb.size fr.size,fun k hk hf=>(fr.keep k (Nat.lt_of_lt_of_le hk hb.size) (fun h=>?_)).trans (hb.block k hk),fun k hk=>?_⟩
 ·rcases h with h | h
  ·exact hf h
  ·omega
 ·rcases fr.foot k ((h4 k).2 (Or.inl hk)) with (h | h) | h
  ·exact Or.inl h
  ·exact Or.inr (by omega)
  ·exact Or.inr (Nat.le_trans hb.size h)
theorem q6O:EntersT 108:=fun _ _=>rfl
theorem qcc{items items':List It}{ts:List Tk}{st:List Nat}{j:Nat}(hl:items.length≤4096)(hc:chkE ts=0)(h:nS kpF ts (items,[])=some (items',st++[j])):keepE items ts=0∧keepI items ts=items'∧keepN items ts=j:=by
 rw[q7s ts (items,[]) hl]at h
 by_cases c:(tkS ts (items,[])).1.length≤4096
 ·rw[if_pos c]at h
  injection h with h
  have e1:kI items ts=items':=by unfold kI;rw[h]
  have e2:kN items ts=j:=by unfold kN;rw[h];simp
  have e0:keepE items ts=0:=by
   unfold keepE
   rw[if_neg (by omega),if_neg (by unfold kI;omega)]
  exact ⟨e0,by unfold keepI;rw[if_pos e0,e1],by unfold keepN;rw[if_pos e0,e2]⟩
 ·rw[if_neg c]at h;cases h
theorem qd5{items:List It}{ts:List Tk}(hl:items.length≤4096)(hc:chkE ts=0)(h:nS kpF ts (items,[])=none):keepE items ts=3∧keepI items ts=items∧keepN items ts=0:=by
 rw[q7s ts (items,[]) hl]at h
 by_cases c:(tkS ts (items,[])).1.length≤4096
 ·rw[if_pos c]at h;cases h
 ·have e0:keepE items ts=3:=by
   unfold keepE
   rw[if_neg (by omega),if_pos (by unfold kI;omega)]
  exact ⟨e0,by unfold keepI;rw[if_neg (by omega)],by unfold keepN;rw[if_neg (by omega)]⟩
theorem q9v{items:List It}{ts:List Tk}(hc:chkE ts≠0):keepE items ts=chkE ts∧keepI items ts=items∧keepN items ts=0:=by
 have e0:keepE items ts=chkE ts:=by unfold keepE;rw[if_pos hc]
 exact ⟨e0,by unfold keepI;rw[if_neg (by omega)],by unfold keepN;rw[if_neg (by omega)]⟩
theorem Fr.self{w w':World}{F:Nat→Prop}{t:Nat}{items:List It}(h:TabT w F t items)(hb:Below w.heap.size w w'):∃ F',TabT w' F' t items∧Fr w w' F F':=⟨F,⟨h.1.up hb,h.2⟩,Fr.same hb⟩
theorem q3I{w:World}{F:Nat→Prop}{t:Nat}{items:List It}(a:Option Addr)(len cap:Nat)(ts:List Tk)(h:TabT w F t items)(hT:TkSl w a len cap ts)(hA:0<len→∀ x,a=some x→¬ F x.block) :
  Calls Tryz.prog 72 #[.pointer (some ⟨t,0,none⟩),.slice a len cap] w fun e w'=>e=.returned (.tuple #[.int .i64 (keepN items ts:Int),.int .i64 (keepE items ts:Int)])∧∃ F',TabT w' F' t (keepI items ts)∧Fr w w' F F':=by
 have hb1:=qc w (.cells #[tbV t] 135)
 obtain ⟨aa,ca,mb,hr,_⟩:=(h.1.up hb1).read
 have hm:=q2N hr
 have HI:Hid _:=h
 have hck:=q5X a len cap ts (w.alloc (.cells #[tbV t] 135)) (hT.up hb1)
 have cb:∀ w',Below (w.alloc (.cells #[tbV t] 135)).heap.size (w.alloc (.cells #[tbV t] 135)) w'→w'.cell? ⟨w.heap.size,0,none⟩=some (.pointer (some ⟨t,0,none⟩)):=fun w' hb=>qm (qb (MapKept.heap_alloc w _).1 0) hb
 have cb0:=cb _ (Below.refl _ _)
 by_cases hc:chkE ts=0
 ·have HC:Hid _:=hc
  have hck':=chkd hc
  have HCK:Hid _:=hck'
  rw[hc]at hck
  have HT:Hid _:=hT
  have HA:Hid _:=hA
  have HCB:Hid _:=cb
  clear hT hA h hr cb hc hck' hb1
  unfold tbV at hm hck cb0 HCB
  go_enter Tryz.func72,Tryz.ntmps72
  go_wp2_with fail
  refine hm.mono ?_
  rintro e w1 ⟨rfl,hw1⟩
  obtain rfl:=hw1.symm
  go_wp2_with fail
  refine hck.mono ?_
  rintro e w2 ⟨rfl,hb2⟩
  have HB2:Hid (Below w.heap.size w w2):=qd (qc w _) hb2
  have cb2:=HCB.out w2 hb2
  obtain ⟨a2,k2,m2,hr2,_⟩:=(HI.out.1.up HB2.out).read
  have c1:=hr2.c1
  obtain ⟨T,hgood⟩:=HCK.out.good
  have hnum:=q5u (TabB t w.heap.size) kpF 108 w.heap.size q6O (q6h t w.heap.size) qdR TabB.lt TabB.far w2 (fun k=>F k∨k=w.heap.size) items a len cap ts T (qcD HI.out.1 hb2) (HT.out.up HB2.out) (fun hp x hx hg=>by
   rcases hg with hg | hg
   ·exact HA.out hp x hx hg
   ·subst hx;have:=HT.out.lt hp;omega) (by have:=HCK.out.pos;have:=HT.out.hlen;omega) hgood HCK.out.few
  clear hm hck hr2 hb2 cb0 HCB hgood
  go_wp2_with fail
  refine hnum.mono ?_
  rintro e w3 ⟨G3,items3,hB3,fr3,⟨l3,hl3⟩,⟨q3,st3,hq3⟩,(⟨j,st,hns,rfl⟩ | ⟨hns,rfl⟩)⟩
  ·obtain ⟨k1,k2,k3⟩:=qcc HI.out.1.few HC.out hns
   have HK:Hid _:=And.intro k1 (And.intro k2 k3)
   obtain ⟨F3,hI3,hf3⟩:=q9Q HB2.out hB3 fr3
   have HF:Hid _:=And.intro hI3 hf3
   have HIS:Hid (TabIs (keepI items ts)):=(kept HI.out.2 k1).is
   clear hnum hB3 fr3 hl3 hq3 hns k1 k2 k3 hI3 hf3 c1 cb2
   go_wp2
   go_ret2
   rw[HK.out.1,HK.out.2.2]
   exact ⟨rfl,F3,⟨by rw[HK.out.2.1];exact HF.out.1,HIS.out⟩,HF.out.2⟩
  ·have HK:Hid _:=qd5 HI.out.1.few HC.out hns
   obtain ⟨F3,hI3,hf3⟩:=q9Q HB2.out hB3 fr3
   have HF:Hid _:=hf3
   have cb3:w3.cell? ⟨w.heap.size,0,none⟩=some (.pointer (some ⟨t,0,none⟩)):=by
    obtain ⟨F',_,h2,_⟩:=hB3
    exact qb h2 0
   have hcut:=q8A hI3 items.length (by rw[hl3];simp)
   rw[show items3.take items.length=items by rw[hl3];simp]at hcut
   clear hnum hB3 fr3 hl3 hq3 hns hI3 hf3 c1 cb2
   go_wp2_with fail
   refine hcut.mono ?_
   rintro e w4 ⟨rfl,hI4,fr4⟩
   have HI4:Hid _:=And.intro hI4 fr4
   clear hcut hI4 fr4
   go_wp2
   go_ret2
   rw[HK.out.1,HK.out.2.2,HK.out.2.1]
   exact ⟨rfl,F3,⟨HI4.out.1,HI.out.2⟩,HF.out.trans' HI4.out.2⟩
 ·have HK:Hid _:=q9v (items:=items) hc
  have hc':¬ (chkE ts:Int)=0:=by omega
  have hc2:((chkE ts:Int) == 0)=false:=by rw[beq_eq_false_iff_ne];exact hc'
  clear hT hA h hr cb hb1 hc
  unfold tbV at hm hck cb0
  generalize chkE ts=E at *
  go_enter Tryz.func72,Tryz.ntmps72
  go_wp2_with fail
  refine hm.mono ?_
  rintro e w1 ⟨rfl,hw1⟩
  obtain rfl:=hw1.symm
  go_wp2_with fail
  refine hck.mono ?_
  rintro e w2 ⟨rfl,hb2⟩
  have HB2:Hid (Below w.heap.size w w2):=qd (qc w _) hb2
  clear hm hck hb2 cb0
  go_wp2
  go_ret2
  rw[HK.out.1,HK.out.2.2,HK.out.2.1]
  exact ⟨rfl,Fr.self HI.out HB2.out⟩
end Go.Proofs.YtekeaodpdcnfjaaGreatDoor
