/- Texts of the proof, put together: what it uses. -/
import Derived.Laws.BitsAllLaws
import Derived.Test.YtekeaodpdcnfjaaGreatDoorX01
import Derived.Test.YtekeaodpdcnfjaaGreatDoorX03
import Derived.Test.YtekeaodpdcnfjaaGreatDoorX04
import Derived.Test.YtekeaodpdcnfjaaGreatDoorX06
import Derived.Test.YtekeaodpdcnfjaaGreatDoorX08
import Derived.Test.YtekeaodpdcnfjaaGreatDoorX09
import Derived.Test.YtekeaodpdcnfjaaGreatDoorX14
set_option maxRecDepth 100000
set_option maxHeartbeats 16000000
namespace Go.Proofs.YtekeaodpdcnfjaaGreatDoor
open Go.RowKit Go.Maps
theorem q6A(n:Nat):(Builtin.zeroCells (Value.int .u64 0).cells n).size=n*1:=by
 rw[size_zeroCells];rfl
theorem q7M(l k:List Nat):iU (l++k)=iU l++iU k:=by simp[iU]
theorem q6I{w:World}{ops:Array Oper}{rest:List Oper}{o:Oper}{a:Act}{Q:Exit→Act→World→Prop}(hgd:o.guard=none)(s x:Operand)
  (ho:o.op=.call { callee:=.builtin .append,args:=#[s,x],argTypes:=#[26,26] }) (base:Nat)
  (v:Value) (xs ys:List Nat) (b:Option Addr) (len cap:Nat) (hs:a.eval s=v) (hx:a.eval x=.slice b len cap) (hown:w.ownsRow base 46 1 v xs.length ((iU xs).map (Value.int .u64))) (hT:USl w b len cap ys)
  (hn:xs.length≤10000000) (hm:ys.length≤10000000) (hbase:base≤w.heap.size)
  (h:∀ v' w',w'.ownsRow base 46 1 v' (xs++ys).length ((iU (xs++ys)).map (Value.int .u64))→w.grownBy w' v.ownBlock→wpList Tryz.prog ops Q rest (a.put o.dst v') w'):wpList Tryz.prog ops Q (o::rest) a w:=by
 obtain ⟨i,hi,hz0,hz1,hz2⟩:=info_parts q1U
 have hl:=hT.len
 cases b with
 | none =>
  have hc:=hT.nn rfl
  have hcl:=hT.hcap
  obtain rfl:len=0:=by omega
  subst hc
  have hy:ys=[]:=List.eq_nil_of_length_eq_zero hl.symm
  subst hy
  refine wpList_plain hgd fun _ hK=>?_
  have hrun:=run_append_owned_none (P:=Tryz.prog) w base 26 o.type 46 i 1 Tryz.underlying26 hi v xs.length _ hown
  unfold Oper.wp execOp
  simp only[ho,resolve,invoke,builtin,Sem.run_bind,Sem.run_pure,Result.andThen_ok,List.map_toArray,List.map_cons,List.map_nil,hs,hx,hrun]
  refine hK _ _ ?_
  exact h v w (by rw[List.append_nil];exact hown) (World.grownBy.refl _ _)
 | some y =>
  refine wpList_append_own w hgd s x 26 ho base 46 i _ 1 8 Tryz.underlying26 hi hz0 hz1 hz2 rfl (by decide) v xs.length _ hs hown y len cap ((iU ys).map (Value.int .u64)) hx (by simp[hl]) (q84 hT) (ints_oneCell .u64 (iU ys)) (by unfold maxLen;omega) (by omega) hbase ?_
  intro v' w' h1 h2 _
  exact h v' w' (by rw[q7M,List.map_append,List.length_append,← hl];exact h1) h2
theorem q4A{w:World}{ops:Array Oper}{rest:List Oper}{o:Oper}{a:Act}{Q:Exit→Act→World→Prop}(hgd:o.guard=none)(s x:Operand)
  (ho:o.op=.call { callee:=.builtin .append,args:=#[s,x],argTypes:=#[26,3] }) (n:Nat) (hs:a.eval s=.slice none 0 0) (hx:a.eval x=.int .i64 (n:Int)) (h0:0<n) (hn:n≤1000000)
  (h:∀ G w',n≤G→w'.ownsRow w.heap.size 46 1 (.slice (some ⟨w.heap.size,0,none⟩) 0 G) 0 (([]:List Value))→Below w.heap.size w w'→wpList Tryz.prog ops Q rest (a.put o.dst (.slice (some ⟨w.heap.size,0,none⟩) n G)) w'):wpList Tryz.prog ops Q (o::rest) a w:=by
 refine wpList_plain hgd fun _ hK=>?_
 obtain ⟨i,hi,hz0,hz1,hz2⟩:=info_parts q1U
 have hrz:∀ ty,(Builtin.append_ #[26,3] ty #[.slice none 0 0,.int .i64 (n:Int)]).run Tryz.prog w=.ok (.slice (some ⟨w.heap.size,0,none⟩) n (grownCap w n 0 46)) (w.drew.alloc (.cells (Builtin.zeroCells (Value.int .u64 0).cells n++Builtin.zeroCells (Value.int .u64 0).cells (grownCap w n 0 46 - n)) 46)):=fun ty=>by
  have h:=Lib.run_append_grow_zeros w 26 3 ty 46 i (.int .u64 0) .i64 .i64 Tryz.underlying26 Tryz.underlying3 hi hz0 none 0 0 [] (run_firstCells_none w.drew i.size 0 0 0) n (by omega) (by omega) (by omega) (by omega) (by rw[hz2];omega) (growslice_fits (by omega) (by rw[hz2];omega))
  simpa using h
 have hG:=grownCap_ge w n 0 46
 have hG2:=grownCap_le_maxLen w n 0 46 (by unfold maxLen;omega)
 have hcs:(Builtin.zeroCells (Value.int .u64 0).cells n++Builtin.zeroCells (Value.int .u64 0).cells (grownCap w n 0 46 - n)).size=grownCap w n 0 46*1:=by
  rw[Array.size_append,q6A,q6A];omega
 generalize Builtin.zeroCells (Value.int .u64 0).cells n++Builtin.zeroCells (Value.int .u64 0).cells (grownCap w n 0 46 - n)=cs at *
 generalize grownCap w n 0 46=G at *
 have HW:(w.drew.alloc (.cells cs 46)).ownsRow w.heap.size 46 1 (.slice (some ⟨w.heap.size,0,none⟩) 0 G) 0 (([]:List Value)):=⟨rfl,Or.inr ⟨w.heap.size,G,cs,rfl,Nat.le_refl _,(MapKept.heap_alloc w.drew _).1,Nat.zero_le _,hG2,hcs,rfl⟩⟩
 have HB:Below w.heap.size w (w.drew.alloc (.cells cs 46)):=(Below.refl _ w).drew.alloc (Nat.le_refl _) _
 have hrun:=hrz o.type
 unfold Oper.wp execOp
 simp only[ho,resolve,invoke,builtin,Sem.run_bind,Sem.run_pure,Result.andThen_ok,List.map_toArray,List.map_cons,List.map_nil,hs,hx,hrun]
 exact hK _ _ (h G _ hG HW HB)
theorem q6Q(n:Nat)(w:World)(hn:n≤1000000) :
  Calls Tryz.prog 145 #[.slice none 0 0,.int .i64 (n:Int)] w fun e w'=>∃ v,e=.returned v∧w'.ownsRow w.heap.size 46 1 v 0 (([]:List Value))∧Below w.heap.size w w':=by
 have h1:¬ ((n:Int)<0):=by omega
 by_cases h0:n=0
 ·subst h0
  go_enter Tryz.func145,Tryz.ntmps145
  go_wp2
  go_ret
  exact ⟨_,rfl,⟨rfl,Or.inl ⟨rfl,rfl⟩⟩,Below.refl _ _⟩
 ·have hpos:(0:Int)<(n:Int):=by omega
  have hw2:IntKind.i64.wrap ((n:Int) - 0)=(n:Int):=by rw[IntKind.wrap_i64];omega
  go_enter Tryz.func145,Tryz.ntmps145
  go_wp2_with (at_builtin;refine q4A rfl _ _ rfl n rfl rfl (by omega) hn ?_)
  intro G w' hG HW HB
  have HW1:Hid (World.ownsRow w' w.heap.size 46 1 (.slice (some ⟨w.heap.size,0,none⟩) 0 G) 0 (([]:List Value))):=HW
  clear HW
  have hG0:G≠0:=by omega
  go_wp2
  go_ret
  exact ⟨.slice (some ⟨w.heap.size,0,none⟩) 0 G,rfl,HW1.out,HB⟩
structure PcU where
 a:Option Addr
 len:Nat
 cap:Nat
 ts:List Nat
def joinU (ps:List PcU):List Nat:=ps.flatMap (·.ts)
def lensU (ps:List PcU) (k:Nat):Nat:=(joinU (ps.take k)).length
theorem q6r{ps:List PcU}{k:Nat}(h:k<ps.length):joinU (ps.take (k+1))=joinU (ps.take k)++ps[k].ts:=by
 unfold joinU;rw[List.take_add_one,List.getElem?_eq_getElem h,List.flatMap_append];simp
theorem qcb(ps:List PcU)(k:Nat):(joinU (ps.take k)).length≤(joinU ps).length:=by
 have h:joinU ps=joinU (ps.take k)++joinU (ps.drop k):=by
  unfold joinU;rw[← List.flatMap_append,List.take_append_drop]
 rw[h,List.length_append];omega
theorem q4I:(Tryz.prog.info? 26).map (·.size)=some 1:=by kernel_rfl
theorem q5m(g:Nat)(ps:List PcU)(w:World)(hc:∀ k (h:k<ps.length),w.cell? ⟨g,k,none⟩=some (.slice ps[k].a ps[k].len ps[k].cap))(hg:g<w.heap.size)(hT:∀ p∈ps,USl w p.a p.len p.cap p.ts)(hn:(joinU ps).length≤1000000)(hp:ps.length≤1000) :
  Calls Tryz.prog 134 #[.slice (some ⟨g,0,none⟩) ps.length ps.length] w fun e w'=>∃ v,e=.returned v∧w'.ownsRow w.heap.size 46 1 v (joinU ps).length ((iU (joinU ps)).map (Value.int .u64))∧Below w.heap.size w w':=by
 have hix:∀ k w',k<ps.length→(Instr.indexAt 61 (.slice (some ⟨g,0,none⟩) ps.length ps.length) (.int .i64 (k:Nat))).run Tryz.prog w'=.ok (.pointer (some ⟨g,k,none⟩)) w':=fun k w' h=>by
  have:=q1c (a:=some ⟨g,0,none⟩) (cap:=ps.length) (n:=ps.length) Tryz.underlying61 q4I (by simp) k w' h
  simpa [adOf,qh] using this
 have HC:Hid _:=hc
 have HT:Hid _:=hT
 clear hc hT
 have hgr:=fun (n:Nat) (h:n≤1000000) w'=>q6Q n w' h
 obtain ⟨n,hnn⟩:∃ n,n=ps.length:=⟨_,rfl⟩
 have HN:Hid (n=ps.length):=hnn
 rw[← hnn]at hp hix ⊢
 clear hnn
 have hbk0:∀ k,(joinU (ps.take k)).length≤1000000:=fun k=>Nat.le_trans (qcb ps k) hn
 go_enter Tryz.func134,Tryz.ntmps134
 go_wp2
 go_loopw [3,11] (fun s j wr=>∃ k:Nat,k≤n∧j=.int .i64 k∧s=.int .i64 (lensU ps k:Nat)∧wr=w) (fun _ j _=>n - (intOf j).toNat)
 case atStart=>exact ⟨0,Nat.zero_le _,rfl,by simp[lensU,joinU],rfl⟩
 case round =>
  obtain ⟨k,hk,rfl,rfl,hww⟩:=hrel
  obtain rfl:w=wr:=hww.symm
  by_cases hlt:k<n
  ·have hkl:k<ps.length:=by rw[← HN.out];exact hlt
   have hi:=fun w'=>hix k w' hlt
   have hc1:=HC.out k hkl
   have hl:=(HT.out ps[k] (List.getElem_mem hkl)).len
   have HLL:Hid _:=hl
   have HS:Hid (lensU ps (k+1)=lensU ps k+ps[k].len):=by
    show _=_;unfold lensU;rw[q6r hkl,List.length_append,hl]
   have hb1:lensU ps k+ps[k].len≤1000000:=by rw[← HS.out];exact hbk0 (k+1)
   generalize lensU ps k=S at *
   generalize ps[k]=p at *
   obtain ⟨pa,pl,pc,pt⟩:=p
   dsimp only at *
   have hw:IntKind.i64.wrap ((S:Int)+(pl:Int))=((S+pl:Nat):Int):=by rw[IntKind.wrap_i64];omega
   have hneg:¬ (((S+pl:Nat):Int)<0):=by omega
   clear hix
   go_wp2
   go_roundw
   case rel=>exact ⟨k+1,by omega,by go_num,by rw[HS.out];simp[HLL.out],trivial⟩
   case measure=>simp[intOf];omega
  ·obtain rfl:k=n:=by omega
   have hbn:=hbk0 k
   have HJ:Hid (joinU (ps.take k)=joinU ps):=by show _=_;rw[List.take_of_length_le (by rw[HN.out];exact Nat.le_refl _)]
   have hgn:=hgr (lensU ps k) hbn
   generalize lensU ps k=S at *
   clear hix
   have hix:∀ j w',j<k→(Instr.indexAt 61 (.slice (some ⟨g,0,none⟩) k k) (.int .i64 (j:Nat))).run Tryz.prog w'=.ok (.pointer (some ⟨g,j,none⟩)) w':=fun j w' h=>by
    have:=q1c (a:=some ⟨g,0,none⟩) (cap:=k) (n:=k) Tryz.underlying61 q4I (by simp) j w' h
    simpa [adOf,qh] using this
   go_wp2_with fail
   refine (hgn _).mono ?_
   rintro e w1 ⟨v,rfl,hown,hw1⟩
   have HO:Hid (w1.ownsRow w.heap.size 46 1 v 0 (([]:List Value))):=hown
   clear hown
   go_wp2
   go_loopw [6,27] (fun s j w2=>∃ m:Nat,m≤k∧j=.int .i64 m∧Hid (w2.ownsRow w.heap.size 46 1 s (joinU (ps.take m)).length ((iU (joinU (ps.take m))).map (Value.int .u64)))∧Hid (Below w.heap.size w w2)) (fun _ j _=>k - (intOf j).toNat)
   case atStart=>exact ⟨0,Nat.zero_le _,rfl,HO,hw1⟩
   case round =>
    obtain ⟨m,hm,rfl,HO2,hb2⟩:=hrel
    by_cases hltm:m<k
    ·have hml:m<ps.length:=by rw[← HN.out];exact hltm
     have hi:=fun w'=>hix m w' hltm
     have hc1:=(hb2.out.cell hg).trans (HC.out m hml)
     have hTm:=(HT.out ps[m] (List.getElem_mem hml)).up hb2.out
     have HS:Hid (joinU (ps.take (m+1))=joinU (ps.take m)++ps[m].ts):=q6r hml
     have hbm:=hbk0 m
     have hpm:ps[m].ts.length≤1000000:=by
      have:=hbk0 (m+1);rw[HS.out,List.length_append]at this;omega
     have hlt:=World.ownsRow.lt HO2.out
     have hsz:=hb2.out.size
     generalize joinU (ps.take m)=J at *
     generalize ps[m]=p at *
     obtain ⟨pa,pl,pc,pt⟩:=p
     dsimp only at *
     clear hix
     go_wp2_with (at_builtin;refine q6I rfl _ _ rfl w.heap.size _ J pt pa pl pc rfl rfl HO2.out hTm (by omega) (by omega) (by omega) ?_)
     intro v3 w3 hown3 hgr3
     have HO3:Hid (w3.ownsRow w.heap.size 46 1 v3 (J++pt).length ((iU (J++pt)).map (Value.int .u64))):=by show World.ownsRow _ _ _ _ _ _ _;rw[List.length_append];simpa using hown3
     have hb3:Hid (Below w.heap.size w w3):=hb2.out.grown hgr3 hsz (fun j e=>(hlt j e).1)
     clear hown3 hgr3
     go_wp2
     go_roundw
     case rel=>exact ⟨m+1,by omega,by go_num,by rw[HS.out];exact HO3,hb3⟩
     case measure=>simp[intOf];omega
    ·obtain rfl:m=k:=by omega
     have HF:Hid _:=HO2.out
     rw[HJ.out]at HF
     go_wp2
     go_ret
     exact ⟨_,rfl,HF.out,hb2.out⟩
theorem qac(a:Option Addr)(n c:Nat)(l:List Nat)(b:Option Addr)(m d:Nat)(k:List Nat)(w:World)(hA:USl w a n c l)(hB:USl w b m d k)(sL:Sm l)(sK:Sm k)(hn:n+m≤1024) :
  Calls Tryz.prog 114 #[.slice a n c,.slice b m d] w (LEN 0 (leastL (l++k)) w):=by
 have hl:=hA.len
 have hk:=hB.len
 have hbn:=qc w (.cells #[.slice a n c,.slice b m d] 26)
 have hrow:=(MapKept.heap_alloc w (.cells #[.slice a n c,.slice b m d] 26)).1
 have hj:joinU [⟨a,n,c,l⟩,⟨b,m,d,k⟩]=l++k:=by simp[joinU]
 have hcc:=q5m w.heap.size [⟨a,n,c,l⟩,⟨b,m,d,k⟩] (w.alloc (.cells #[.slice a n c,.slice b m d] 26)) (fun i hi=>by
   rw[qb hrow i]
   match i,hi with
   | 0,_=>rfl
   | 1,_=>rfl) (by simp) (fun p hp=>by
   rcases List.mem_cons.1 hp with rfl | hp
   ·exact hA.up hbn
   ·rcases List.mem_cons.1 hp with rfl | hp
    ·exact hB.up hbn
    ·cases hp) (by rw[hj,List.length_append];omega) (by simp)
 rw[hj]at hcc
 dsimp only[List.length_cons,List.length_nil,Nat.zero_add,Nat.reduceAdd]at hcc
 have HL:Hid (∀ w1 v,w1.ownsRow (w.alloc (.cells #[.slice a n c,.slice b m d] 26)).heap.size 46 1 v (l++k).length ((iU (l++k)).map (Value.int .u64))→∃ q C,v=.slice q (l++k).length C∧Calls Tryz.prog 133 #[.slice q (l++k).length C] w1 (LRN (leastL (l++k)) w1)):=fun w1 v ho=>by
  obtain ⟨q,C,rfl,hU⟩:=q3T ho
  exact ⟨q,C,rfl,q3y q _ C _ w1 hU (qbQ sL sK) (by rw[List.length_append];omega)⟩
 have HBN:Hid _:=hbn
 have hw1:IntKind.i64.wrap ((n:Int)+(m:Int))=((n+m:Nat):Int):=by rw[IntKind.wrap_i64];omega
 have hg1:¬ ((1024:Int)<((n+m:Nat):Int)):=by omega
 have hb1:=hA.bd
 have hb2:=hB.bd
 clear hbn hrow hA hB sL sK hj hl hk
 generalize leastL (l++k)=r at *
 generalize l++k=lk at *
 go_enter Tryz.func114,Tryz.ntmps114
 go_wp2_with fail
 refine hcc.mono ?_
 rintro e w1 ⟨v,rfl,hown,hb⟩
 obtain ⟨q,C,rfl,hle⟩:=HL.out w1 v hown
 have HB1:Hid (Below w.heap.size w w1):=qd HBN.out hb
 clear hown hb hcc HL HBN
 go_wp2_with fail
 refine hle.mono ?_
 rintro e w2 ⟨q2,C2,rfl,hU2,hb2,hf2⟩
 have HU:Hid _:=hU2
 have HB2:Hid (Below w.heap.size w w2):=qd HB1.out hb2
 have HFS:Hid (∀ k,k<r.length→w.heap.size≤(adOf q2 k).block):=fun k hk=>Nat.le_trans HB1.out.size (hf2 k hk)
 clear hU2 hb2 HB1 hle hf2
 go_wp2
 go_ret2
 exact ⟨q2,C2,rfl,HU.out,HB2.out,HFS.out⟩
theorem qaK(a:Option Addr)(n c:Nat)(b:Option Addr)(m d:Nat)(w:World)(hn1:n≤1000000)(hn2:m≤1000000)(hn:1024<n+m) :
  Calls Tryz.prog 114 #[.slice a n c,.slice b m d] w (LE 9 [] w):=by
 have hw1:IntKind.i64.wrap ((n:Int)+(m:Int))=((n+m:Nat):Int):=by rw[IntKind.wrap_i64];omega
 have hg1:(1024:Int)<((n+m:Nat):Int):=by omega
 go_enter Tryz.func114,Tryz.ntmps114
 go_wp2
 go_ret2
 exact ⟨none,0,rfl,q58,Below.refl _ _⟩
theorem q4h(n m:Nat)(w:World)(_hn:n≤1000000)(_hm:m≤1000000) :
  Calls Tryz.prog 132 #[.int .i64 (n:Int),.int .i64 (m:Int)] w fun e w'=>e=.returned (.bool (decide (1024<n*m)))∧w'=w:=by
 by_cases h0:n=0
 ·subst h0
  go_enter Tryz.func132,Tryz.ntmps132
  go_wp2
  go_ret
  exact ⟨by simp,rfl⟩
 ·have hpos:(0:Int)<(n:Int):=by omega
  have hne:¬ ((n:Int)=0):=by omega
  have hq:IntKind.i64.wrap ((1024:Int).tdiv (n:Int))=((1024 / n:Nat):Int):=by
   have:(1024:Int).tdiv (n:Int)=((1024 / n:Nat):Int):=rfl
   rw[this,IntKind.wrap_i64]
   have h2:=Nat.div_le_self 1024 n
   generalize 1024 / n=q at *
   omega
  have HD:Hid (decide (1024 / n<m)=decide (1024<n*m)):=by
   show _=_
   have h1:1024 / n<m↔1024<n*m:=by rw[Nat.div_lt_iff_lt_mul (by omega),Nat.mul_comm]
   by_cases h:1024<n*m
   ·rw[decide_eq_true h,decide_eq_true (h1.2 h)]
   ·rw[decide_eq_false h,decide_eq_false fun k=>h (h1.1 k)]
  generalize 1024 / n=q at *
  go_enter Tryz.func132,Tryz.ntmps132
  go_wp2
  go_ret
  exact ⟨by rw[← HD.out];rfl,rfl⟩
theorem qcJ(l k:List Nat)(i j:Nat)(x:Nat)(hi:i<l.length)(hj:j≤k.length):(uniL (l.take i) k++(k.take j).map fun y=>x ||| y).length≤l.length*k.length:=by
 rw[List.length_append,q3u,List.length_map,List.length_take,List.length_take,Nat.min_eq_left (by omega),Nat.min_eq_left hj]
 have:(i+1)*k.length≤l.length*k.length:=Nat.mul_le_mul_right _ hi
 rw[Nat.succ_mul]at this
 omega
theorem qaI{w:World}{a:Option Addr}{n c:Nat}{l:List Nat}(h:USl w a n c l){k:Nat}(hk:k<n):w.cell? (adOf a k)=some (.int .u64 ((l.getD k 0:Nat):Int)):=by
 rw[h.cell k hk]
 congr 2
 simp only[List.getD_eq_getElem?_getD,iU,List.getElem?_map]
 cases l[k]? <;> rfl
theorem qbR{l:List Nat}(h:Sm l){k:Nat}(hk:k<l.length):l.getD k 0<18446744073709551616:=by
 rw[List.getD_eq_getElem?_getD,List.getElem?_eq_getElem hk]
 exact h _ (List.getElem_mem hk)
theorem q8F(a:Option Addr)(n c:Nat)(l:List Nat)(b:Option Addr)(m d:Nat)(k:List Nat)(w:World)(hA:USl w a n c l)(hB:USl w b m d k)(sL:Sm l)(sK:Sm k)(hn:n*m≤1024)(hn1:n≤2000)(hm1:m≤2000) :
  Calls Tryz.prog 113 #[.slice a n c,.slice b m d] w (LEN 0 (leastL (uniL l k)) w):=by
 have hl:=hA.len
 have hk:=hB.len
 have hmany:=q4h n m w (by omega) (by omega)
 rw[decide_eq_false (by omega:¬ (1024<n*m))]at hmany
 have HL:Hid (∀ w1 v,w1.ownsRow w.heap.size 46 1 v (uniL l k).length ((iU (uniL l k)).map (Value.int .u64))→∃ q C,v=.slice q (uniL l k).length C∧Calls Tryz.prog 133 #[.slice q (uniL l k).length C] w1 (LRN (leastL (uniL l k)) w1)):=fun w1 v ho=>by
  obtain ⟨q,C,rfl,hU⟩:=q3T ho
  exact ⟨q,C,rfl,q3y q _ C _ w1 hU (qe5 sL sK) (by rw[q3u,← hl,← hk];omega)⟩
 have HLT:Hid (uniL (l.take n) k=uniL l k):=by show _=_;rw[List.take_of_length_le (by omega)]
 have HN:Hid (∀ i,i<n→uniL (l.take (i+1)) k=uniL (l.take i) k++(k.take m).map fun y=>l.getD i 0 ||| y):=fun i hi=>by
  rw[qcK (by omega),List.take_of_length_le (l:=k) (by omega)]
 have HM:Hid (∀ x j,j<m→((k.take (j+1)).map fun y=>x ||| y)=((k.take j).map fun y=>x ||| y)++[x ||| k.getD j 0]):=fun x j hj=>qch (by omega)
 have HW:Hid (∀ i j x,i<n→j≤m→(uniL (l.take i) k++(k.take j).map fun y=>x ||| y).length≤1024):=fun i j x hi hj=>by
  have:=qcJ l k i j x (by omega) (by omega)
  rw[← hl,← hk]at this
  omega
 have HCA:Hid (∀ i,i<n→∀ wr,Below w.heap.size w wr→wr.cell? (adOf a i)=some (.int .u64 ((l.getD i 0:Nat):Int))):=fun i hi wr hb=>qaI (hA.up hb) hi
 have HCB:Hid (∀ i,i<m→∀ wr,Below w.heap.size w wr→wr.cell? (adOf b i)=some (.int .u64 ((k.getD i 0:Nat):Int))):=fun i hi wr hb=>qaI (hB.up hb) hi
 have HO:Hid (∀ i j,i<n→j<m→bits .or .u64 ((l.getD i 0:Nat):Int) ((k.getD j 0:Nat):Int)=((l.getD i 0 ||| k.getD j 0:Nat):Int)):=fun i j hi hj=>u64_or_nat _ _ (qbR sL (by omega)) (qbR sK (by omega))
 have hidA:=fun (i:Nat) (w:World) (h:i<n)=>hA.idx n i w h (Nat.le_refl _)
 have hidB:=fun (i:Nat) (w:World) (h:i<m)=>hB.idx m i w h (Nat.le_refl _)
 clear hA hB sL sK hl hk hn
 go_enter Tryz.func113,Tryz.ntmps113
 go_wp2_with fail
 refine hmany.mono ?_
 rintro e w0 ⟨rfl,hw0⟩
 obtain rfl:w=w0:=hw0.symm
 clear hmany
 go_wp2
 go_loopw [6,18] (fun v i wr=>∃ p:Nat,p≤n∧i=.int .i64 (p:Int)∧Hid (wr.ownsRow w.heap.size 46 1 v (uniL (l.take p) k).length ((iU (uniL (l.take p) k)).map (Value.int .u64)))∧Hid (Below w.heap.size w wr)) (fun _ i _=>n - (intOf i).toNat)
 case atStart=>exact ⟨0,Nat.zero_le _,rfl,⟨rfl,Or.inl ⟨rfl,rfl⟩⟩,Below.refl _ _⟩
 case round =>
  obtain ⟨p,hp,rfl,HV,HB⟩:=hrel
  by_cases hlt:p<n
  ·have hc:=HCA.out p hlt wr HB.out
   have hx:=fun w'=>hidA p w' hlt
   have HNp:Hid _:=HN.out p hlt
   have HWp:Hid (∀ j x,j≤m→(uniL (l.take p) k++(k.take j).map fun y=>x ||| y).length≤1024):=fun j x hj=>HW.out p j x hlt hj
   have HOp:Hid (∀ j,j<m→bits .or .u64 ((l.getD p 0:Nat):Int) ((k.getD j 0:Nat):Int)=((l.getD p 0 ||| k.getD j 0:Nat):Int)):=fun j hj=>HO.out p j hlt hj
   have HMp:Hid (∀ j,j<m→((k.take (j+1)).map fun y=>l.getD p 0 ||| y)=((k.take j).map fun y=>l.getD p 0 ||| y)++[l.getD p 0 ||| k.getD j 0]):=fun j hj=>HM.out _ j hj
   clear hidA HCA HN HW HO HM HL HLT
   generalize l.getD p 0=x at *
   generalize hU:uniL (l.take p) k=U at *
   clear hU
   go_wp2
   clear hc hx
   go_loopw [6,24] (fun v i w3=>∃ j:Nat,j≤m∧i=.int .i64 (j:Int)∧Hid (w3.ownsRow w.heap.size 46 1 v (U++(k.take j).map fun y=>x ||| y).length ((iU (U++(k.take j).map fun y=>x ||| y)).map (Value.int .u64)))∧Hid (Below w.heap.size w w3)) (fun _ i _=>m - (intOf i).toNat)
   case atStart=>exact ⟨0,Nat.zero_le _,rfl,by show World.ownsRow _ _ _ _ _ _ _;simpa using HV.out,HB⟩
   case round =>
    clear HV HB
    obtain ⟨j,hj,rfl,HV,HB⟩:=hrel
    by_cases hltj:j<m
    ·have hc:=HCB.out j hltj _ HB.out
     have hx:=fun w'=>hidB j w' hltj
     have hor:=HOp.out j hltj
     have HMj:Hid _:=HMp.out j hltj
     have hbd:=HWp.out j x (by omega)
     obtain ⟨va,vc,rfl⟩:=q2c HV.out
     clear HWp HOp HMp HCB hidB HNp
     generalize k.getD j 0=y at *
     generalize hR:(U++(k.take j).map fun y=>x ||| y)=R at *
     have HRE:Hid (U++(k.take (j+1)).map (fun y=>x ||| y)=R++[x ||| y]):=by show _=_;rw[HMj.out,← List.append_assoc,hR]
     clear HMj hR
     generalize x ||| y=z at *
     have HOA:Hid ((wr.alloc (.cells #[.int .u64 (z:Int)] 46)).ownsRow w.heap.size 46 1 (.slice va R.length vc) R.length ((iU R).map (Value.int .u64))):=World.ownsRow.alloc HV.out _
     have HCA:Hid ((wr.alloc (.cells #[.int .u64 (z:Int)] 46)).cell? ⟨wr.heap.size,0,none⟩=some (.int .u64 (z:Int))):=qb (MapKept.heap_alloc wr _).1 0
     have HWA:Hid (Below w.heap.size w (wr.alloc (.cells #[.int .u64 (z:Int)] 46))):=HB.out.alloc HB.out.size _
     have hszA:w.heap.size≤(wr.alloc (.cells #[.int .u64 (z:Int)] 46)).heap.size:=HWA.out.size
     have HGE:Hid (∀ q,(Value.slice va R.length vc).ownBlock=some q→w.heap.size≤q):=q1E HV.out
     clear HV HB
     go_wp2_with (at_builtin;refine q4d rfl _ _ rfl w.heap.size _ R.length (iU R) rfl HOA.out wr.heap.size (z:Int) rfl HCA.out (by omega) hszA ?_)
     intro v7 w7 hown7 hgr7
     have HO7:Hid (w7.ownsRow w.heap.size 46 1 v7 (R.length+1) ((iU R++[(z:Int)]).map (Value.int .u64))):=by show World.ownsRow _ _ _ _ _ _ _;simpa using hown7
     have HW7:Hid (Below w.heap.size w w7):=HWA.out.grown hgr7 hszA (fun q e=>HGE.out q e)
     clear hown7 hgr7 HOA HCA HWA hszA HGE
     go_wp2
     go_roundw
     case rel =>
      refine ⟨j+1,by omega,by go_num,?_,HW7⟩
      show World.ownsRow _ _ _ _ _ _ _
      rw[HRE.out,List.length_append,q7g]
      exact HO7.out
     case measure=>simp[intOf];omega
    ·obtain rfl:j=m:=by omega
     clear HWp HOp HMp HCB hidB
     go_wp2
     go_roundw
     case rel =>
      refine ⟨p+1,by omega,by go_num,?_,HB⟩
      show World.ownsRow _ _ _ _ _ _ _
      rw[HNp.out]
      exact HV.out
     case measure=>simp[intOf];omega
  ·obtain rfl:p=n:=by omega
   have HV2:Hid _:=HV.out
   rw[HLT.out]at HV2
   obtain ⟨q,C,rfl,hle⟩:=HL.out wr _ HV2.out
   clear HV HV2 HN HM HW HCA HCB HO HL HLT hidA hidB
   generalize leastL (uniL l k)=r at *
   generalize (uniL l k).length=N at *
   go_wp2_with fail
   refine hle.mono ?_
   rintro e w2 ⟨q2,C2,rfl,hU2,hb2,hf2⟩
   have HU:Hid _:=hU2
   have HB2:Hid (Below w.heap.size w w2):=qd HB.out hb2
   have HFS:Hid (∀ k,k<r.length→w.heap.size≤(adOf q2 k).block):=fun k hk=>Nat.le_trans HB.out.size (hf2 k hk)
   clear hU2 hb2 hle hf2
   go_wp2
   go_ret2
   exact ⟨q2,C2,rfl,HU.out,HB2.out,HFS.out⟩
theorem q9Z(a:Option Addr)(n c:Nat)(b:Option Addr)(m d:Nat)(w:World)(hn1:n≤2000)(hm1:m≤2000)(hn:1024<n*m) :
  Calls Tryz.prog 113 #[.slice a n c,.slice b m d] w (LE 9 [] w):=by
 have hmany:=q4h n m w (by omega) (by omega)
 rw[decide_eq_true hn]at hmany
 clear hn
 go_enter Tryz.func113,Tryz.ntmps113
 go_wp2_with fail
 refine hmany.mono ?_
 rintro e w0 ⟨rfl,hw0⟩
 obtain rfl:w=w0:=hw0.symm
 clear hmany
 go_wp2
 go_ret2
 exact ⟨none,0,rfl,q58,Below.refl _ _⟩
def Tab64 (w:World):Prop:=∀ j,j<64→w.cell? ⟨0,j,none⟩=some (.int .u8 ((Lib.deBruijn64tab.getD j 0:Nat):Int))
theorem Tab64.up{w w':World}(h:Tab64 w)(hb:Below w.heap.size w w'):Tab64 w':=fun j hj=>qm (h j hj) hb
theorem q9d(x k idx:Nat)(w:World)(hx0:((x:Int) == 0)=false)
  (key:IntKind.u64.wrap (bits BinOp.and IntKind.u64 (x:Int) (IntKind.u64.wrap (-(x:Int)))*285870213051353865) / 288230376151711744=(idx:Int))
  (hi:idx<64) (hk:k<64) (hcell:w.cell? ⟨0,idx,none⟩=some (.int .u8 (k:Int))) :
  Calls Tryz.prog 137 #[.int .u64 (x:Int)] w fun e w'=>e=.returned (.int .i64 (k:Int))∧w'=w:=by
 go_enter Tryz.func137,Tryz.ntmps137
 go_wp2_with (simp only[key])
 go_ret
 exact ⟨rfl,rfl⟩
theorem qe7(x a:Nat)(hx:x<18446744073709551616)(hx0:x≠0)(hlow:x &&& (18446744073709551616 - x)=a) :
  IntKind.u64.wrap (bits BinOp.and IntKind.u64 (x:Int) (IntKind.u64.wrap (-(x:Int)))*285870213051353865) / 288230376151711744=((a*285870213051353865 % 18446744073709551616 / 288230376151711744:Nat):Int):=by
 have e1:IntKind.u64.wrap (-(x:Int))=((18446744073709551616 - x:Nat):Int):=by rw[IntKind.wrap_u64];omega
 rw[e1,u64_and_nat x _ hx (by omega),hlow,IntKind.wrap_u64]
 omega
theorem qah(x:Nat)(hx:x<2 ^ 64)(hx0:x≠0)(w:World)(hT:Tab64 w) :
  Calls Tryz.prog 137 #[.int .u64 (x:Int)] w fun e w'=>e=.returned (.int .i64 ((Lib.ctz 64 x:Nat):Int))∧w'=w:=by
 obtain ⟨hlow,hk⟩:=Lib.lowest_bit 64 x hx0 hx
 obtain ⟨hi,htab⟩:=Lib.deBruijn64_at _ hk
 have hcell:=hT _ hi
 rw[htab]at hcell
 exact q9d x _ _ w (by simp;omega) (qe7 x _ hx hx0 hlow) hi hk hcell
theorem q33:(Tryz.prog.info? 3).map (fun i=>(i.zero,i.size,i.bytes))=some (some (.int .i64 0),1,8):=by kernel_rfl
theorem q1L:(Tryz.prog.info? 3).map (·.size)=some 1:=by kernel_rfl
theorem q87{w:World}{ops:Array Oper}{rest:List Oper}{o:Oper}{a:Act}{Q:Exit→Act→World→Prop}(hgd:o.guard=none)(s x:Operand)
  (ho:o.op=.call { callee:=.builtin .append,args:=#[s,x],argTypes:=#[27,27] }) (base:Nat)
  (v:Value) (n:Nat) (zs:List Int) (hs:a.eval s=v) (hown:w.ownsRow base 3 1 v n (zs.map (Value.int .i64))) (g':Nat) (z:Int) (hx:a.eval x=.slice (some ⟨g',0,none⟩) 1 1) (hc:w.cell? ⟨g',0,none⟩=some (.int .i64 z))
  (hn:n+1≤2000000) (hbase:base≤w.heap.size)
  (h:∀ v' w',w'.ownsRow base 3 1 v' (n+1) ((zs++[z]).map (Value.int .i64))→w.grownBy w' v.ownBlock→wpList Tryz.prog ops Q rest (a.put o.dst v') w'):wpList Tryz.prog ops Q (o::rest) a w:=by
 obtain ⟨i,hi,hz0,hz1,hz2⟩:=info_parts q33
 refine wpList_append_own w hgd s x 27 ho base 3 i _ 1 8 Tryz.underlying27 hi hz0 hz1 hz2 rfl (by decide) v n _ hs hown ⟨g',0,none⟩ 1 1 [.int .i64 z] hx rfl ?_ (fun u hu=>by simp at hu;subst hu;rfl) (by unfold maxLen;omega) (by omega) hbase ?_
 ·intro j u hj
  match j with
  | 0=>simp at hj;rw[← hj,qh];exact hc
  | j+1=>simp at hj
 ·intro v' w' h1 h2 _
  exact h v' w' (by rw[List.map_append];exact h1) h2
abbrev ISl (w:World) (a:Option Addr) (len cap:Nat) (l:List Nat):Prop:=IntSl Tryz.prog 27 .i64 w a len cap (iU l)
theorem qaw{w:World}{base n:Nat}{v:Value}{l:List Nat}(h:w.ownsRow base 3 1 v n ((iU l).map (Value.int .i64))):∃ a cap,v=.slice a n cap∧ISl w a n cap l:=by
 obtain ⟨hl,h⟩:=h
 simp at hl
 rcases h with ⟨rfl,rfl⟩ | ⟨g,cap,cur,rfl,hg,hcell,hnc,hcm,hsz,htk⟩
 ·have:l=[]:=List.eq_nil_of_length_eq_zero hl
  subst this
  exact ⟨none,0,rfl,⟨rfl,Nat.le_refl _,Nat.zero_le _,fun m k w hk hm=>absurd hk (by omega),fun k hk=>absurd hk (by omega),fun k hk=>absurd hk (by omega),fun _=>rfl⟩⟩
 ·have had:∀ k,adOf (some ⟨g,0,none⟩) k=⟨g,k,none⟩:=fun k=>by simp[adOf,qh]
  have hlt:g<w.heap.size:=(Array.getElem?_eq_some_iff.1 hcell).1
  refine ⟨some ⟨g,0,none⟩,cap,rfl,⟨by simpa using hl,hnc,hcm,fun m k w hk hm=>q1c Tryz.underlying27 q1L (by simp) k w hk,fun k hk=>?_,fun k hk=>by rw[had];exact hlt,by simp⟩⟩
  rw[had]
  have hk2:(cur.toList.take (n*1))[k]? = some (.int .i64 ((iU l).getD k 0)):=by
   rw[htk];simp[List.getD_eq_getElem?_getD,List.getElem?_eq_getElem (show k<l.length by omega)]
  rw[List.getElem?_take,if_pos (by omega)]at hk2
  simp[World.cell?,hcell]
  simpa using hk2
theorem q1D(w:World):Calls Tryz.prog 78 #[] w (LRN [0] w):=by
 have HU:Hid _:=q1K [0] w (by decide)
 have HB:Hid _:=qc w (.cells ((iU [0]).map (Value.int .u64)).toArray 46)
 go_enter Tryz.func78,Tryz.ntmps78
 go_wp2
 go_ret
 exact ⟨_,_,rfl,HU.out,HB.out,fun k _=>by simp[adOf,qh]⟩
def pgV (p:Nat):Value:=.pointer (some ⟨p,0,none⟩)
structure US (w:World) (F:Nat→Prop) (a:Option Addr) (n c:Nat) (l:List Nat):Prop where
 sl:USl w a n c l
 nf:∀ k,k<n→¬ F (adOf a k).block
theorem US.fr{w w':World}{F F':Nat→Prop}{a:Option Addr}{n c:Nat}{l:List Nat}(h:US w F a n c l)(fr:Fr w w' F F'):US w' F' a n c l:=⟨fr.intSl h.sl h.nf,fun k hk=>fr.out (h.nf k hk) (h.sl.blk k hk)⟩
theorem US.up{w w':World}{F:Nat→Prop}{a:Option Addr}{n c:Nat}{l:List Nat}(h:US w F a n c l)(hb:Below w.heap.size w w'):US w' F a n c l:=⟨h.sl.up hb,h.nf⟩
theorem qbw(w:World)(F:Nat→Prop):US w F none 0 0 []:=⟨q58,fun k hk=>absurd hk (by omega)⟩
def thrownP:List PanicEntry:=[{ v:=.iface 146 (.int .i64 9),recovered:=false }]
def TwoR (r:Option (List Nat)) (w:World) (e:Ending) (w':World):Prop:=Below w.heap.size w w'∧((∃ L q d,r=some L∧e=.returned (.slice q L.length d)∧USl w' q L.length d L∧∀ k,k<L.length→w.heap.size≤(adOf q k).block)∨(r=none∧e=.panicked thrownP))
theorem q4l(a:Option Addr)(n c:Nat)(w:World):Calls Tryz.prog 112 #[.slice a n c,.int .i64 0] w fun e w'=>e=.returned (.slice a n c)∧w'=w:=by
 go_enter Tryz.func112,Tryz.ntmps112
 go_wp2
 go_ret
 exact ⟨rfl,rfl⟩
theorem q4k(a:Option Addr)(n c:Nat)(w:World):Calls Tryz.prog 112 #[.slice a n c,.int .i64 9] w fun e w'=>e=.panicked thrownP∧w'=w:=by
 go_enter Tryz.func112,Tryz.ntmps112
 go_wp2
 exact ⟨rfl,rfl,rfl⟩
theorem q3z(a:Option Addr)(n c:Nat)(l:List Nat)(b:Option Addr)(m d:Nat)(k:List Nat)(w:World)(hA:USl w a n c l)(hB:USl w b m d k)(sL:Sm l)(sK:Sm k)(hn:n≤2000)(hm:m≤2000) :
  Calls Tryz.prog 79 #[.slice a n c,.slice b m d] w (TwoR (andM l k) w):=by
 have hl:=hA.len
 have hk:=hB.len
 by_cases h:n*m≤1024
 ·have hs:andM l k=some (leastL (uniL l k)):=by unfold andM;rw[if_pos (by rw[← hl,← hk];exact h)]
  have jj:=q8F a n c l b m d k w hA hB sL sK h hn hm
  rw[hs]
  clear hs hA hB hl hk h
  generalize leastL (uniL l k)=r at *
  go_enter Tryz.func79,Tryz.ntmps79
  go_wp2_with fail
  refine jj.mono ?_
  rintro e w1 ⟨q,C,rfl,hU,hb,hf⟩
  have HU:Hid _:=hU
  have HB:Hid _:=hb
  have HFS:Hid _:=hf
  clear jj hU hb hf
  go_wp2_with fail
  refine (q4l _ _ _ _).mono ?_
  rintro e w2 ⟨rfl,rfl⟩
  go_wp2
  go_ret
  exact ⟨HB.out,Or.inl ⟨r,q,C,rfl,rfl,HU.out,HFS.out⟩⟩
 ·have hs:andM l k=none:=by unfold andM;rw[if_neg (by rw[← hl,← hk];exact h)]
  have jj:=q9Z a n c b m d w hn hm (by omega)
  rw[hs]
  clear hs hA hB hl hk h
  go_enter Tryz.func79,Tryz.ntmps79
  go_wp2_with fail
  refine jj.mono ?_
  rintro e w1 ⟨q,C,rfl,hU,hb⟩
  have HB:Hid _:=hb
  clear jj hU hb
  go_wp2_with fail
  refine (q4k _ _ _ _).mono ?_
  rintro e w2 ⟨rfl,rfl⟩
  exact ⟨rfl,HB.out,Or.inr ⟨rfl,rfl⟩⟩
theorem q36(a:Option Addr)(n c:Nat)(l:List Nat)(b:Option Addr)(m d:Nat)(k:List Nat)(w:World)(hA:USl w a n c l)(hB:USl w b m d k)(sL:Sm l)(sK:Sm k)(hn:n≤2000)(hm:m≤2000) :
  Calls Tryz.prog 80 #[.slice a n c,.slice b m d] w (TwoR (orM l k) w):=by
 have hl:=hA.len
 have hk:=hB.len
 by_cases h:n+m≤1024
 ·have hs:orM l k=some (leastL (l++k)):=by unfold orM;rw[if_pos (by rw[← hl,← hk];exact h)]
  have jj:=qac a n c l b m d k w hA hB sL sK h
  rw[hs]
  clear hs hA hB hl hk h
  generalize leastL (l++k)=r at *
  go_enter Tryz.func80,Tryz.ntmps80
  go_wp2_with fail
  refine jj.mono ?_
  rintro e w1 ⟨q,C,rfl,hU,hb,hf⟩
  have HU:Hid _:=hU
  have HB:Hid _:=hb
  have HFS:Hid _:=hf
  clear jj hU hb hf
  go_wp2_with fail
  refine (q4l _ _ _ _).mono ?_
  rintro e w2 ⟨rfl,rfl⟩
  go_wp2
  go_ret
  exact ⟨HB.out,Or.inl ⟨r,q,C,rfl,rfl,HU.out,HFS.out⟩⟩
 ·have hs:orM l k=none:=by unfold orM;rw[if_neg (by rw[← hl,← hk];exact h)]
  have jj:=qaK a n c b m d w (by omega) (by omega) (by omega)
  rw[hs]
  clear hs hA hB hl hk h
  go_enter Tryz.func80,Tryz.ntmps80
  go_wp2_with fail
  refine jj.mono ?_
  rintro e w1 ⟨q,C,rfl,hU,hb⟩
  have HB:Hid _:=hb
  clear jj hU hb
  go_wp2_with fail
  refine (q4k _ _ _ _).mono ?_
  rintro e w2 ⟨rfl,rfl⟩
  exact ⟨rfl,HB.out,Or.inr ⟨rfl,rfl⟩⟩
def NewL (l:List Nat) (w:World) (e:Ending) (w':World):Prop:=∃ q C,e=.returned (.slice q l.length C)∧USl w' q l.length C l∧Below w.heap.size w w'∧∀ k,k<l.length→w.heap.size≤(adOf q k).block
theorem q3d(w w':World)(h:Below w.heap.size w w'):NewL [] w (.returned (.slice none 0 0)) w':=⟨none,0,rfl,q58,h,fun k hk=>absurd hk (by simp)⟩
theorem q3H(b:Bool)(w:World):Calls Tryz.prog 146 #[.bool b] w (NewL (yesM b) w):=by
 cases b with
 | true =>
  have jj:=q1D w
  go_enter Tryz.func146,Tryz.ntmps146
  go_wp2_with fail
  refine jj.mono ?_
  rintro e w1 ⟨q,C,rfl,hU,hb,hf⟩
  have HU:Hid (NewL (yesM true) w (.returned (.slice q [0].length C)) w1):=⟨q,C,rfl,hU,hb,hf⟩
  clear jj hU hb hf
  go_wp2
  go_ret
  exact HU.out
 | false =>
  go_enter Tryz.func146,Tryz.ntmps146
  go_wp2
  go_ret
  exact q3d w w (Below.refl _ _)
theorem qc4:∀ x:Fin 256,∀ q:Fin 8,(bits BinOp.and IntKind.u8 ((x.val:Nat):Int) ((2 ^ q.val:Nat):Int) != 0)=x.val.testBit q.val:=by decide +kernel
def rdV (p x bn bl:Nat):Value:=.agg #[.pointer (some ⟨p,0,none⟩),.int .u8 (x:Int),.map (some bn),.map (some bl)]
def rdO (p x bn bl:Nat):Obj:=.cells #[.pointer (some ⟨p,0,none⟩),.int .u8 (x:Int),.map (some bn),.map (some bl)] 153 (0,0)
theorem q4j(p x bn bl q:Nat)(hx:x<256)(hq:q≤7)(w:World):Calls Tryz.prog 147 #[rdV p x bn bl,.int .u8 (q:Int)] w fun e w'=>e=.returned (.bool (x.testBit q))∧Below w.heap.size w w':=by
 have HB:=qc w (rdO p x bn bl)
 unfold rdV
 unfold rdO at HB
 have:q=0∨q=1∨q=2∨q=3∨q=4∨q=5∨q=6∨q=7:=by omega
 have hh:=qc4 ⟨x,hx⟩ ⟨q,by omega⟩
 dsimp only at hh
 rcases this with rfl | rfl | rfl | rfl | rfl | rfl | rfl | rfl <;>
 ·have HH:Hid _:=hh
  clear hh
  go_enter Tryz.func147,Tryz.ntmps147
  go_wp2
  go_ret
  exact ⟨congrArg Ending.returned (congrArg Value.bool HH.out),HB⟩
def txOf (f:List Tk):ByteArray:=⟨(f.map fun k=>UInt8.ofNat (k.1*8+k.2)).toArray⟩
def SmT (f:List Tk):Prop:=∀ k∈f,k.1≤23∧k.2≤7
theorem qbY{a b:Tk}(ha:a.1≤23∧a.2≤7)(hb:b.1≤23∧b.2≤7)(h:UInt8.ofNat (a.1*8+a.2)=UInt8.ofNat (b.1*8+b.2)):a=b:=by
 have:=congrArg UInt8.toNat h
 simp at this
 obtain ⟨a1,a2⟩:=a
 obtain ⟨b1,b2⟩:=b
 simp only[Prod.mk.injEq]
 dsimp only at *
 omega
theorem qcI:∀ {f g:List Tk},SmT f→SmT g→txOf f=txOf g→f=g:=by
 intro f g hf hg h
 have h1:(f.map fun k=>UInt8.ofNat (k.1*8+k.2))=g.map fun k=>UInt8.ofNat (k.1*8+k.2):=by
  have:=congrArg (fun x:ByteArray=>x.data.toList) h
  simpa [txOf] using this
 clear h
 induction f generalizing g with
 | nil=>cases g with
  | nil=>rfl
  | cons y g=>simp at h1
 | cons x f ih=>cases g with
  | nil=>simp at h1
  | cons y g =>
   rw[List.map_cons,List.map_cons]at h1
   injection h1 with e1 e2
   rw[qbY (hf x (by simp)) (hg y (by simp)) e1,ih (fun k hk=>hf k (by simp[hk])) (fun k hk=>hg k (by simp[hk])) e2]
def nmF (M:Mt) (s:ByteArray):Option Nat:=M.findIdx? fun f=>decide (txOf f=s)
theorem q4N{p q:List Tk→Bool}:∀ {M:Mt},(∀ f∈M,p f=q f)→M.findIdx? p=M.findIdx? q
 | [],_=>rfl
 | f::M,h=>by
  rw[List.findIdx?_cons,List.findIdx?_cons,h f (by simp),q4N fun g hg=>h g (by simp[hg])]
theorem q9E{M:Mt}(hM:∀ f∈M,SmT f){g:List Tk}(hg:SmT g):nmF M (txOf g)=M.findIdx? (· == g):=by
 refine q4N fun f hf=>?_
 by_cases e:f=g
 ·subst e;simp
 ·have:¬ txOf f=txOf g:=fun h=>e (qcI (hM f hf) hg h)
  simp[e,this]
theorem qcm{M:Mt}(hM:∀ f∈M,SmT f){g:List Tk}(hg:SmT g)(hn:M.findIdx? (· == g)=none)(y:ByteArray):(if y=txOf g then some M.length else nmF M y)=nmF (M++[g]) y:=by
 by_cases e:y=txOf g
 ·subst e
  rw[if_pos rfl]
  unfold nmF
  rw[List.findIdx?_append,show M.findIdx? (fun f=>decide (txOf f=txOf g))=none from (q9E hM hg).trans hn]
  simp
 ·rw[if_neg e]
  unfold nmF
  rw[List.findIdx?_append]
  have:¬ txOf g=y:=fun h=>e h.symm
  simp[this]
theorem PtR.setRest{w:World}{b mp n j:Nat}{T:TypeId}{rest:List Value}{vi vt:Value}{items:List It}{texts:List ByteArray}{f:It→Option Nat}(h:PtR w b T rest vi mp vt items texts n f)(v:Value) :
  PtR (w.setCell ⟨b,3+j,none⟩ v) b T (rest.set j v) vi mp vt items texts n f:=by
 have st:∀ k,k≠b→(w.setCell ⟨b,3+j,none⟩ v).heap[k]? = w.heap[k]? := fun k hk=>Below.heap_setCell _ _ _ _ hk
 refine ⟨h.ty,?_,qj h.ri fun k hk=>st k (fun e=>h.ib (e ▸ hk)),qj h.rt fun k hk=>st k (fun e=>h.tb (e ▸ hk)),h.num.far (st mp h.mb)⟩
 rw[heap_setCell_same w b (3+j) _ _ v h.blk]
 unfold ptA
 congr 2
 rw[show 3+j=j+1+1+1 by omega]
 simp
theorem PtO.setRest{T0:Tr}{w:World}{G:Nat→Prop}{b j:Nat}{T:TypeId}{rest:List Value}{items:List It}(h:PtO T0 w G b T rest items)(v:Value) :
  PtO T0 (w.setCell ⟨b,3+j,none⟩ v) G b T (rest.set j v) items:=by
 obtain ⟨texts,hp,ht⟩:=h.ex
 obtain ⟨vi,mp,vt,hr,hG⟩:=hp.ex
 exact ⟨h.t0,h.low,h.cov,texts,⟨hp.nd,hp.tl,hp.few,hp.ok,hp.tok,vi,mp,vt,hr.setRest v,hG⟩,ht⟩
theorem PtO.blk{T0:Tr}{w:World}{G:Nat→Prop}{b:Nat}{T:TypeId}{rest:List Value}{items:List It}(h:PtO T0 w G b T rest items):∃ vi mp vt,w.heap[b]? = some (.cells (ptA vi mp vt rest) T (0,0))∧G b:=by
 obtain ⟨texts,hp,ht⟩:=h.ex
 obtain ⟨vi,mp,vt,hr,hG⟩:=hp.ex
 exact ⟨vi,mp,vt,hr.blk,(hG b).2 (Or.inl rfl)⟩
def pgRest (p mn:Nat) (vm vs:Value):List Value:=[pgV p,.map (some mn),vm,vs]
def MetOk (items:List It) (met:List Nat) (M:Mt):Prop:=met.length=M.length∧∀ (n i:Nat),met[n]? = some i→∃ S:Tr,Rep items i S∧M[n]? = some S.flat
theorem MetOk.pre{items items':List It}{met:List Nat}{M:Mt}(h:MetOk items met M)(hp:items <+: items'):MetOk items' met M:=⟨h.1,fun n i hi=>by
 obtain ⟨S,h1,h2⟩:=h.2 n i hi
 exact ⟨S,h1.pre hp,h2⟩⟩
structure PgR (T0:Tr) (w:World) (G:Nat→Prop) (p mn:Nat) (vm vs:Value) (items:List It) (met:List Nat) (M:Mt):Prop where
 po:PtO T0 w G p 109 (pgRest p mn vm vs) items
 row:w.ownsRow 0 3 1 vm met.length (encM met)
 num:NumS w mn met.length (nmF M)
 met:MetOk items met M
 ng:¬ G mn
 nv:∀ k,vm.ownBlock=some k→¬ G k
def FQ (G:Nat→Prop) (mn:Nat) (vm:Value) (k:Nat):Prop:=G k∨k=mn∨vm.ownBlock=some k
structure PgO (T0:Tr) (w:World) (F:Nat→Prop) (p:Nat) (vs:Value) (items:List It) (M:Mt):Prop where
 few:M.length≤64
 nd:M.Nodup
 of:∀ f∈M,∃ S,KT S∧InC T0 S∧f=S.flat
 ex:∃ G mn vm met,PgR T0 w G p mn vm vs items met M∧∀ k,F k↔FQ G mn vm k
section
variable {T0:Tr} {w:World} {G:Nat→Prop} {p mn:Nat} {vm vs:Value} {items:List It} {met:List Nat} {M:Mt}
theorem PgR.vn(h:PgR T0 w G p mn vm vs items met M):vm.ownBlock≠some mn:=by
 obtain ⟨es,c,hm⟩:=h.num.isMap
 exact q12 h.row hm fun cs e=>by cases e
theorem PgR.lt(h:PgR T0 w G p mn vm vs items met M):∀ k,FQ G mn vm k→k<w.heap.size:=fun k hk=>by
 rcases hk with hk | rfl | hk
 ·exact h.po.lt k hk
 ·exact h.num.lt
 ·exact qu h.row k hk
theorem PgR.far{w':World}(h:PgR T0 w G p mn vm vs items met M)(hb:∀ k,FQ G mn vm k→w'.heap[k]? = w.heap[k]?):PgR T0 w' G p mn vm vs items met M :=
 ⟨h.po.far fun k hk=>hb k (Or.inl hk),qj h.row fun k hk=>hb k (Or.inr (Or.inr hk)),h.num.far (hb mn (Or.inr (Or.inl rfl))),h.met,h.ng,h.nv⟩
theorem PgR.c4(h:PgR T0 w G p mn vm vs items met M):w.cell? ⟨p,4,none⟩=some (.map (some mn)):=by
 obtain ⟨vi,mp,vt,hb,_⟩:=h.po.blk
 exact qb hb 4
theorem PgR.c3(h:PgR T0 w G p mn vm vs items met M):w.cell? ⟨p,3,none⟩=some (.pointer (some ⟨p,0,none⟩)):=by
 obtain ⟨vi,mp,vt,hb,_⟩:=h.po.blk
 exact qb hb 3
theorem PgR.c5(h:PgR T0 w G p mn vm vs items met M):w.cell? ⟨p,5,none⟩=some vm:=by
 obtain ⟨vi,mp,vt,hb,_⟩:=h.po.blk
 exact qb hb 5
theorem PgR.c6(h:PgR T0 w G p mn vm vs items met M):w.cell? ⟨p,6,none⟩=some vs:=by
 obtain ⟨vi,mp,vt,hb,_⟩:=h.po.blk
 exact qb hb 6
theorem PgR.gp(h:PgR T0 w G p mn vm vs items met M):G p:=by
 obtain ⟨vi,mp,vt,hb,hg⟩:=h.po.blk
 exact hg
theorem PgR.fz(h:PgR T0 w G p mn vm vs items met M)(j:Nat):w.frozen? ⟨p,j,none⟩=false:=by
 obtain ⟨vi,mp,vt,hb,_⟩:=h.po.blk
 exact frozen_of_row w p j _ _ hb
theorem PgR.part{w':World}{G':Nat→Prop}{items':List It}(h:PgR T0 w G p mn vm vs items met M)(hp:PtO T0 w' G' p 109 (pgRest p mn vm vs) items')(hi:items <+: items')(fr:Fr w w' G G'):PgR T0 w' G' p mn vm vs items' met M∧Fr w w' (FQ G mn vm) (FQ G' mn vm):=by
 refine ⟨⟨hp,qj h.row fun k hk=>fr.keep k (qu h.row k hk) (h.nv k hk),h.num.far (fr.keep mn h.num.lt h.ng),h.met.pre hi,fr.out h.ng h.num.lt,fun k hk=>fr.out (h.nv k hk) (qu h.row k hk)⟩,fr.os,fr.tape,fr.output,fr.size,fun k hk hF=>fr.keep k hk fun e=>hF (Or.inl e),fun k hk=>?_⟩
 rcases hk with hk | hk | hk
 ·exact (fr.foot k hk).imp Or.inl id
 ·exact Or.inl (Or.inr (Or.inl hk))
 ·exact Or.inl (Or.inr (Or.inr hk))
theorem PgR.put{w':World}(h:PgR T0 w G p mn vm vs items met M)(hg:w.grownBy w' (some mn)):PtO T0 w' G p 109 (pgRest p mn vm vs) items∧w'.ownsRow 0 3 1 vm met.length (encM met)∧Fr w w' (FQ G mn vm) (FQ G mn vm):=by
 have st:∀ k,k<w.heap.size→k≠mn→w'.heap[k]? = w.heap[k]? := fun k hk hne=>hg.block k hk (fun e=>hne (by injection e))
 exact ⟨h.po.far fun k hk=>st k (h.po.lt k hk) (fun e=>h.ng (e ▸ hk)),qj h.row fun k hk=>st k (qu h.row k hk) (fun e=>h.vn (e ▸ hk)),hg.os,hg.tape,hg.output,hg.size,fun k hk hF=>st k hk fun e=>hF (Or.inr (Or.inl e)),fun _ hk=>Or.inl hk⟩
end
section
variable {T0:Tr} {w:World} {F:Nat→Prop} {p:Nat} {vs:Value} {items:List It} {M:Mt}
theorem PgO.lt(h:PgO T0 w F p vs items M):∀ k,F k→k<w.heap.size:=fun k hk=>by
 obtain ⟨G,mn,vm,met,hr,hF⟩:=h.ex
 exact hr.lt k ((hF k).1 hk)
theorem PgO.far{w':World}(h:PgO T0 w F p vs items M)(hb:∀ k,F k→w'.heap[k]? = w.heap[k]?):PgO T0 w' F p vs items M:=by
 obtain ⟨G,mn,vm,met,hr,hF⟩:=h.ex
 exact ⟨h.few,h.nd,h.of,G,mn,vm,met,hr.far fun k hk=>hb k ((hF k).2 hk),hF⟩
theorem PgO.up{w':World}(h:PgO T0 w F p vs items M)(hb:Below w.heap.size w w'):PgO T0 w' F p vs items M:=h.far fun k hk=>hb.block k (h.lt k hk)
theorem PgO.small(h:PgO T0 w F p vs items M)(t0:KT T0):∀ f∈M,SmT f:=fun f hf=>by
 obtain ⟨S,_,h2,rfl⟩:=h.of f hf
 exact q9s t0 h2
theorem PgO.t0(h:PgO T0 w F p vs items M):T0k T0:=by
 obtain ⟨G,mn,vm,met,hr,hF⟩:=h.ex
 exact hr.po.t0
theorem PgO.good(h:PgO T0 w F p vs items M):GoodM M:=⟨fun f hf=>by
 obtain ⟨S,h1,_,rfl⟩:=h.of f hf
 exact ⟨S,h1,rfl⟩,h.few⟩
end
def MetR (T0:Tr) (w:World) (F:Nat→Prop) (p:Nat) (vs:Value) (items:List It) (M:Mt) (S:Tr) (e:Ending) (w':World):Prop :=
 ∃ F',Fr w w' F F'∧((∃ (n:Nat) (M':Mt),meetM S.flat M=some ([2 ^ n],M')∧n<64∧e=.returned (.int .i64 (n:Int))∧PgO T0 w' F' p vs items M')∨(meetM S.flat M=none∧e=.panicked thrownP∧PgO T0 w' F' p vs items M))
theorem qdT{items:List It}{M:Mt}{met:List Nat}(h:MetOk items met M){n:Nat}{g:List Tk}(hn:M.findIdx? (· == g)=some n):n<met.length:=by
 have:=(List.findIdx?_eq_some_iff_getElem.1 hn).1
 rw[h.1];exact this
theorem PgR.met1{T0:Tr}{w w5:World}{G:Nat→Prop}{p mn:Nat}{vm vs v5:Value}{items:List It}{met:List Nat}{M:Mt}{S:Tr}{i:Nat}(t0:KT T0)(hM:∀ f∈M,SmT f)(hS:InC T0 S)(hi:Rep items i S)(hno:M.findIdx? (· == S.flat)=none)
  (hpo:PtO T0 w G p 109 (pgRest p mn vm vs) items) (hrow:w.ownsRow 0 3 1 vm met.length (encM met)) (hnum:NumS w mn (met.length+1) (fun y=>if y=txB S then some met.length else nmF M y)) (hmet:MetOk items met M) (hng:¬ G mn) (hnv:∀ k,vm.ownBlock=some k→¬ G k)
  (hg:(w.alloc (.cells #[.int .i64 (i:Int)] 3)).grownBy w5 vm.ownBlock) (ho:w5.ownsRow 0 3 1 v5 (met.length+1) (encM met++[.int .i64 (i:Int)])) (hl:v5.ownBlock=vm.ownBlock∨v5.ownBlock=some (w.heap.size+1)) :
  w5.cell? ⟨p,5,none⟩=some vm∧w5.frozen? ⟨p,5,none⟩=false∧PgR T0 (w5.setCell ⟨p,5,none⟩ v5) G p mn v5 vs items (met++[i]) (M++[S.flat])∧Fr w (w5.setCell ⟨p,5,none⟩ v5) (FQ G mn vm) (FQ G mn v5):=by
 have hb1:=qc w (.cells #[.int .i64 (i:Int)] 3)
 have hz:(w.alloc (.cells #[.int .i64 (i:Int)] 3)).heap.size=w.heap.size+1:=by simp
 have hs:=hg.size
 have st:∀ k,k<w.heap.size→vm.ownBlock≠some k→w5.heap[k]? = w.heap[k]? := fun k hk hne=>(hg.block k (by omega) (fun e=>hne e.symm)).trans (hb1.block k hk)
 have hGv:∀ k,G k→vm.ownBlock≠some k:=fun k hk e=>hnv k e hk
 have hpo5:=hpo.far (w':=w5) fun k hk=>st k (hpo.lt k hk) (hGv k hk)
 obtain ⟨es,cl,hmap⟩:=hnum.isMap
 have hvn:vm.ownBlock≠some mn:=q12 hrow hmap fun cs e=>by cases e
 obtain ⟨vi,mp,vt,hb5,hgp⟩:=hpo5.blk
 have hv5:∀ k,v5.ownBlock=some k→¬ G k:=fun k hk hG=>by
  rcases hl with e | e
  ·rw[e]at hk;exact hnv k hk hG
  ·rw[e]at hk;injection hk with hk;have:=hpo.lt k hG;omega
 have s6:∀ k,k≠p→(w5.setCell ⟨p,5,none⟩ v5).heap[k]? = w5.heap[k]? := fun k hk=>Below.heap_setCell _ _ _ _ hk
 refine ⟨qb hb5 5,frozen_of_row w5 p 5 _ _ hb5,⟨hpo5.setRest (j:=2) v5,?_,?_,⟨by simp[hmet.1],fun n j hj=>?_⟩,hng,hv5⟩,hg.os,hg.tape,hg.output,by simp;omega,fun k hk hF=>?_,fun k hk=>?_⟩
 ·rw[List.length_append]
  have:encM (met++[i])=encM met++[.int .i64 (i:Int)]:=by simp[encM]
  rw[this]
  exact qj ho fun k hk=>s6 k (fun e=>hv5 k hk (e ▸ hgp))
 ·rw[List.length_append]
  refine ((hnum.far (w':=w5.setCell ⟨p,5,none⟩ v5) ((s6 mn (fun e=>hng (e ▸ hgp))).trans (st mn hnum.lt hvn))).alike fun y _=>?_)
  rw[hmet.1]
  exact qcm hM (q9s t0 hS) hno y
 ·by_cases hlt:n<met.length
  ·rw[List.getElem?_append_left hlt]at hj
   obtain ⟨S',h1,h2⟩:=hmet.2 n j hj
   exact ⟨S',h1,by rw[List.getElem?_append_left (by rw[← hmet.1];exact hlt)];exact h2⟩
  ·have hn:n=met.length:=by
    have:=(List.getElem?_eq_some_iff.1 hj).1
    simp at this
    omega
   subst hn
   simp at hj
   subst hj
   exact ⟨S,hi,by rw[hmet.1];simp⟩
 ·exact (s6 k fun e=>hF (Or.inl (e ▸ hgp))).trans (st k hk fun e=>hF (Or.inr (Or.inr e)))
 ·rcases hk with hk | hk | hk
  ·exact Or.inl (Or.inl hk)
  ·exact Or.inl (Or.inr (Or.inl hk))
  ·rcases hl with e | e
   ·rw[e]at hk;exact Or.inl (Or.inr (Or.inr hk))
   ·rw[e]at hk;injection hk with hk;right;omega
theorem q6Y{T0:Tr}{w:World}{F:Nat→Prop}{p:Nat}{vs:Value}{items:List It}{M:Mt}(h:PgO T0 w F p vs items M)(i:Nat)(S:Tr)(hi:Rep items i S)(hS:InC T0 S)(kS:KT S) :
  Calls Tryz.prog 81 #[.pointer (some ⟨p,0,none⟩),.int .i64 (i:Int)] w (MetR T0 w F p vs items M S):=by
 obtain ⟨G,mn,vm,met,hr,hF⟩:=h.ex
 have t0:=h.t0
 have hsm:=h.small t0.kt
 have jt:=q3G hr.po i S hi hS
 have HT:Hid (∀ w1,TextP T0 w G p 109 (pgRest p mn vm vs) items w1→PgR T0 w1 G p mn vm vs items met M∧Fr w w1 (FQ G mn vm) (FQ G mn vm)):=fun w1 hq=>hr.part hq.1 (List.prefix_refl _) hq.2
 have hso:SOk (txB S):=by unfold SOk;rw[q5S];have:=(q45 t0.sz hS).1;omega
 have hlk:nmF M (txB S)=M.findIdx? (· == S.flat):=q9E hsm (q9s t0.kt hS)
 have hfr:∀ {w':World} {G':Nat→Prop} {mn':Nat} {vm':Value},Fr w w' (FQ G mn vm) (FQ G' mn' vm')→Fr w w' F (FQ G' mn' vm'):=fun fr=>fr.alike (fun k hk=>(hF k).2 hk) (fun k hk=>hk)
 have hml:=hr.met.1
 have hfew:=h.few
 cases hf:M.findIdx? (· == S.flat) with
 | some n =>
  have hn:=qdT hr.met hf
  have hm:meetM S.flat M=some ([2 ^ n],M):=by unfold meetM;rw[hf]
  have HFIN:Hid (∀ w1,TextP T0 w G p 109 (pgRest p mn vm vs) items w1→MetR T0 w F p vs items M S (.returned (.int .i64 (n:Int))) w1):=fun w1 hq=>by
   obtain ⟨h1,h2⟩:=HT.out w1 hq
   exact ⟨_,hfr h2,Or.inl ⟨n,M,hm,by omega,rfl,h.few,h.nd,h.of,G,mn,vm,met,h1,fun k=>Iff.rfl⟩⟩
  have HLK:Hid (∀ w1,PgR T0 w1 G p mn vm vs items met M→(Instr.lookup 107 (.map (some mn)) (.string (txB S)) true).run Tryz.prog w1=.ok (.tuple #[.int .i64 (n:Int),.bool true]) w1):=fun w1 h1=>by
   have:=h1.num.look hso
   rw[hlk,hf]at this
   exact this
  clear h hr hF t0 hsm hi hS kS hso hlk hfr hml hfew hf hn hm
  generalize txB S=s at *
  go_enter Tryz.func81,Tryz.ntmps81
  go_wp2_with fail
  refine jt.mono ?_
  rintro e w1 ⟨rfl,hq⟩
  have hR:=(HT.out w1 hq).1
  have c4:=hR.c4
  have hlook:=HLK.out w1 hR
  have HQ:Hid _:=HFIN.out w1 hq
  clear jt hq hR HT HFIN HLK
  go_wp2
  go_ret
  exact HQ.out
 | none =>
  by_cases hl:M.length<64
  ·have hm:meetM S.flat M=some ([2 ^ met.length],M++[S.flat]):=by unfold meetM;rw[hf,hml];dsimp only;rw[if_pos hl]
   have HLK:Hid (∀ w1,PgR T0 w1 G p mn vm vs items met M→(Instr.lookup 107 (.map (some mn)) (.string (txB S)) true).run Tryz.prog w1=.ok (.tuple #[.int .i64 0,.bool false]) w1∧∃ w',(Instr.mapUpdate 107 (.map (some mn)) (.string (txB S)) (.int .i64 (met.length:Int))).run Tryz.prog w1=.ok () w'∧NumS w' mn (met.length+1) (fun y=>if y=txB S then some met.length else nmF M y)∧w1.grownBy w' (some mn)):=fun w1 h1=>by
    have:=h1.num.look hso
    rw[hlk,hf]at this
    exact ⟨this,h1.num.put (by omega) hso (hlk.trans hf) met.length (by omega)⟩
   have HM1:Hid _:=fun (w:World) (w5:World) (v5:Value) a b c d e f=>PgR.met1 (w:=w) (w5:=w5) (v5:=v5) (p:=p) (mn:=mn) (vm:=vm) (vs:=vs) (G:=G) (met:=met) t0.kt hsm hS hi hf a b c hr.met hr.ng hr.nv d e f
   have HFIN:Hid (∀ w6 v5,PgR T0 w6 G p mn v5 vs items (met++[i]) (M++[S.flat])→Fr w w6 (FQ G mn vm) (FQ G mn v5)→MetR T0 w F p vs items M S (.returned (.int .i64 (met.length:Int))) w6):=fun w6 v5 h1 h2=>by
    refine ⟨_,hfr h2,Or.inl ⟨met.length,_,hm,by omega,rfl,by simp;omega,List.nodup_append.2 ⟨h.nd,by simp,fun a ha b hb=>by simp at hb;subst hb;exact fun e=>(by have:=List.findIdx?_eq_none_iff.1 hf a ha;simp[e]at this)⟩,fun f hf2=>?_,G,mn,v5,_,h1,fun k=>Iff.rfl⟩⟩
    rcases List.mem_append.1 hf2 with h3 | h3
    ·exact h.of f h3
    ·exact ⟨S,kS,hS,by simpa using h3⟩
   obtain ⟨av,cv,rfl⟩:=qx hr.row
   have hl64:((met.length:Int) == 64)=false:=by rw[beq_eq_false_iff_ne];omega
   have hl65:met.length≤64:=by omega
   clear h hr hF t0 hsm hi hS kS hso hlk hfr hml hfew hf hm hl
   generalize hs:txB S=s at *
   clear hs
   generalize hML:met.length=L at *
   go_enter Tryz.func81,Tryz.ntmps81
   go_wp2_with fail
   refine jt.mono ?_
   rintro e w1 ⟨rfl,hq⟩
   have hR:=HT.out w1 hq
   have c4:=hR.1.c4
   have c5:=hR.1.c5
   obtain ⟨hlook,w2,hrun,hn2,hg2⟩:=HLK.out w1 hR.1
   obtain ⟨hpo2,hrow2,fr2⟩:=hR.1.put hg2
   obtain ⟨vi,mp,vt,hb2,hgp⟩:=hpo2.blk
   have d5:w2.cell? ⟨p,5,none⟩=some (.slice av L cv):=qb hb2 5
   have hc3:(w2.alloc (.cells #[.int .i64 (i:Int)] 3)).cell? ⟨w2.heap.size,0,none⟩=some (.int .i64 (i:Int)):=qb (MapKept.heap_alloc w2 _).1 0
   rw[hML]at hrow2
   have hO3:(w2.alloc (.cells #[.int .i64 (i:Int)] 3)).ownsRow 0 3 1 (.slice av L cv) L (encM met):=World.ownsRow.alloc hrow2 _
   have HPO:Hid _:=hpo2
   have HROW:Hid _:=hrow2
   have HN2:Hid _:=hn2
   have HFR2:Hid (Fr w w2 _ _):=hR.2.trans fr2
   clear jt hq hR HT HLK hpo2 hrow2 fr2 hb2 hgp hn2 hg2
   go_wp2_with (at_builtin;refine q2G Tryz.underlying27 q4g rfl (by decide) rfl _ _ rfl 0 _ L (encM met) (.int .i64 (i:Int)) w2.heap.size rfl rfl hO3 hc3 rfl (by omega) (Nat.zero_le _) ?_)
   intro v5 w5 hown5 hgr5 hloc5
   obtain ⟨a5,k5,rfl⟩:=qx hown5
   obtain ⟨e5,z5,hR5,fr5⟩:=HM1.out w2 w5 _ HPO.out HROW.out HN2.out hgr5 hown5 hloc5
   have HQ:Hid _:=HFIN.out _ _ hR5 (HFR2.out.trans fr5)
   clear hO3 hc3 hown5 hgr5 hloc5 hR5 fr5 d5 HPO HROW HN2 HFR2 HFIN HM1
   go_wp2
   go_ret
   exact HQ.out
  ·have hm:meetM S.flat M=none:=by unfold meetM;rw[hf];dsimp only;rw[if_neg hl]
   have HLK:Hid (∀ w1,PgR T0 w1 G p mn vm vs items met M→(Instr.lookup 107 (.map (some mn)) (.string (txB S)) true).run Tryz.prog w1=.ok (.tuple #[.int .i64 0,.bool false]) w1):=fun w1 h1=>by
    have:=h1.num.look hso
    rw[hlk,hf]at this
    exact this
   have HFIN:Hid (∀ w1,TextP T0 w G p 109 (pgRest p mn vm vs) items w1→MetR T0 w F p vs items M S (.panicked thrownP) w1):=fun w1 hq=>by
    obtain ⟨h1,h2⟩:=HT.out w1 hq
    exact ⟨_,hfr h2,Or.inr ⟨hm,rfl,h.few,h.nd,h.of,G,mn,vm,met,h1,fun k=>Iff.rfl⟩⟩
   obtain ⟨av,cv,rfl⟩:=qx hr.row
   have hl64:((met.length:Int) == 64)=true:=by rw[beq_iff_eq];omega
   clear h hr hF t0 hsm hi hS kS hso hlk hfr hml hfew hf hm hl
   generalize txB S=s at *
   go_enter Tryz.func81,Tryz.ntmps81
   go_wp2_with fail
   refine jt.mono ?_
   rintro e w1 ⟨rfl,hq⟩
   have hR:=(HT.out w1 hq).1
   have c4:=hR.c4
   have c5:=hR.c5
   have hlook:=HLK.out w1 hR
   have HQ:Hid _:=HFIN.out w1 hq
   clear jt hq hR HT HFIN HLK
   go_wp2
   obtain ⟨F',fr,⟨_,_,_,_,h,_⟩ | ⟨h1,_,h3⟩⟩:=HQ.out
   ·cases h
   ·exact ⟨rfl,F',fr,Or.inr ⟨h1,rfl,h3⟩⟩
end Go.Proofs.YtekeaodpdcnfjaaGreatDoor
