/- Texts of the proof, put together: what it uses. -/
import Derived.OwnWalk
import Derived.Deep.QuietTactic
import Derived.BigQuiet
import Derived.Lib.AppendZerosOnto
import Derived.Deep.DeepCutAuto
import Derived.Test.YtekeaodpdcnfjaaGreatDoorX00
import Derived.Test.YtekeaodpdcnfjaaGreatDoorX03
import Derived.Test.YtekeaodpdcnfjaaGreatDoorX06
import Derived.Test.YtekeaodpdcnfjaaGreatDoorX11
set_option maxRecDepth 100000
set_option maxHeartbeats 16000000
namespace Go.Proofs.YtekeaodpdcnfjaaGreatDoor
open Go.RowKit Go.Maps
theorem q1X{P:Program}{e:TypeId}{s:Nat}(h:(P.info? e).map (·.size)=some s)(w:World):(sizeOf e).run P w=.ok s w:=by
 cases hq:P.info? e with
 | none=>simp[hq]at h
 | some i=>simp[hq]at h;simp[sizeOf,typeInfo,hq,h]
theorem cut_n{P:Program}{T e:TypeId}{s:Nat}(hu:P.underlying T=some (.slice e))(hs:(P.info? e).map (·.size)=some s)(a:Option Addr)(n cap lo:Nat)(hl:lo≤n)(hc:n≤cap)(hn:a=none→cap=0) :
  ∃ a',(∀ w,(Instr.sliceAt T (.slice a n cap) (some (.int .i64 (lo:Int))) none none).run P w=.ok (.slice a' (n - lo) (cap - lo)) w)∧(a'=none→cap - lo=0)∧(lo<n→∀ x,a=some x→a'=some (x.add (lo*s))):=by
 cases a with
 | none =>
  have:=hn rfl
  subst this
  obtain rfl:n=0:=by omega
  obtain rfl:lo=0:=by omega
  exact ⟨none,fun w=>by simp[Instr.sliceAt,Instr.slice,run_underlying hu,q1X hs,go_sem],fun _=>rfl,fun hk=>absurd hk (by omega)⟩
 | some x =>
  by_cases hz:cap=lo
  ·refine ⟨some x,fun w=>?_,(fun h=>by cases h),fun hk=>absurd hk (by omega)⟩
   have hz2:cap - lo=0:=by omega
   simp[Instr.sliceAt,Instr.slice,run_underlying hu,q1X hs,go_sem,hl,hz2]
   exact fun h=>absurd hz h
  ·refine ⟨some (x.add (lo*s)),fun w=>?_,(fun h=>by cases h),fun _ y hy=>by injection hy with hy;rw[hy]⟩
   simp[Instr.sliceAt,Instr.slice,run_underlying hu,q1X hs,go_sem,hl]
   exact fun h=>absurd h hz
theorem pre_n{P:Program}{T e:TypeId}{s:Nat}(hu:P.underlying T=some (.slice e))(hs:(P.info? e).map (·.size)=some s)(a:Option Addr)(n cap m:Nat)(hl:m≤n)(hc:n≤cap)(hn:a=none→cap=0)(w:World) :
  (Instr.sliceAt T (.slice a n cap) none (some (.int .i64 (m:Int))) none).run P w=.ok (.slice a m cap) w:=by
 cases a with
 | none =>
  have:=hn rfl
  subst this
  obtain rfl:n=0:=by omega
  obtain rfl:m=0:=by omega
  simp[Instr.sliceAt,Instr.slice,run_underlying hu,q1X hs,go_sem]
 | some x =>
  have hmc:m≤cap:=by omega
  simp[Instr.sliceAt,Instr.slice,run_underlying hu,q1X hs,go_sem,hmc]
theorem q3P{w:World}{base e size n m:Nat}{v:Value}{xs:List Value}(h:w.ownsRow base e size v n xs)(hm:m≤n) :
  ∃ a cap,v=.slice a n cap∧n≤cap∧cap≤maxLen∧(a=none→cap=0)∧w.ownsRow base e size (.slice a m cap) m (xs.take (m*size))∧(Value.slice a m cap).ownBlock=v.ownBlock:=by
 obtain ⟨hl,h⟩:=h
 have hms:m*size≤n*size:=Nat.mul_le_mul_right _ hm
 rcases h with ⟨rfl,rfl⟩ | ⟨g,cap,cur,rfl,hg,hcell,hnc,hcm,hsz,htk⟩
 ·obtain rfl:m=0:=by omega
  exact ⟨none,0,rfl,Nat.le_refl _,Nat.zero_le _,fun _=>rfl,⟨by simp,Or.inl ⟨rfl,rfl⟩⟩,rfl⟩
 ·refine ⟨some ⟨g,0,none⟩,cap,rfl,hnc,hcm,fun h=>(by cases h),⟨by simp;omega,Or.inr ⟨g,cap,cur,rfl,hg,hcell,by omega,hcm,hsz,?_⟩⟩,rfl⟩
  rw[← htk,List.take_take,Nat.min_eq_left hms]
def encN (ks:List Nat):List Value:=(ks.map fun o:Nat=>(o:Int)).map (Value.int .u8)
theorem qbg(ks:List Nat)(m:Nat):(encN ks).take (m*1)=encN (ks.take m):=by simp[encN,List.map_take]
theorem q1V:(Tryz.prog.info? 207).map (·.size)=some 1:=by kernel_rfl
theorem qa1:(Tryz.prog.info? 207).map (fun i=>(i.zero,i.size,i.bytes))=some (some (.int .u8 0),1,1):=by kernel_rfl
theorem qbn{w:World}{base L m:Nat}{v:Value}{ks:List Nat}(h:w.ownsRow base 207 1 v L (encN ks))(hm:m≤L) :
  ∃ a cap b,v=.slice a L cap∧(∀ w',(Instr.sliceAt 206 (.slice a L cap) none (some (.int .i64 (m:Int))) none).run Tryz.prog w'=.ok (.slice a m cap) w')∧w.ownsRow base 207 1 (.slice a m cap) m (encN (ks.take m))∧(∀ w',(Instr.sliceAt 206 (.slice a L cap) (some (.int .i64 (m:Int))) none none).run Tryz.prog w'=.ok (.slice b (L - m) (cap - m)) w')∧KdSl w b (L - m) (cap - m) (ks.drop m):=by
 obtain ⟨a,cap,rfl,h1,h2,h3,h4,_⟩:=q3P h hm
 rw[qbg]at h4
 obtain ⟨b,h5,h6,h7⟩:=cut_n (P:=Tryz.prog) (T:=206) Tryz.underlying206 q1V a L cap m hm h1 h3
 refine ⟨a,cap,b,rfl,pre_n Tryz.underlying206 q1V a L cap m hm h1 h3,h4,h5,?_⟩
 obtain ⟨a',cap',e,hI,_⟩:=q4q (P:=Tryz.prog) (T:=206) h Tryz.underlying206 q1V
 injection e with e1 _ e3
 subst e1 e3
 have hlen:ks.length=L:=by have:=hI.hlen;simpa using this
 have had:∀ k,k<L - m→adOf b k=adOf a (m+k):=fun k hk=>by
  cases a with
  | none=>have:=h3 rfl;omega
  | some x =>
   rw[h7 (by omega) x rfl]
   show (x.add (m*1)).add k=x.add (m+k)
   rw[qao,Nat.mul_one]
 refine ⟨by simp[hlen],by omega,by omega,fun n k w' hk hn=>?_,fun k hk=>?_,fun k hk=>?_,h6⟩
 ·exact q1c Tryz.underlying206 q1V (fun e=>by have:=h6 e;omega) k w' hk
 ·rw[had k hk,hI.cell (m+k) (by omega)]
  simp[List.getD_eq_getElem?_getD]
 ·rw[had k hk];exact hI.blk (m+k) (by omega)
theorem q6H{w:World}{ops:Array Oper}{rest:List Oper}{o:Oper}{a:Act}{Q:Exit→Act→World→Prop}(hgd:o.guard=none)(s x:Operand)
  (ho:o.op=.call { callee:=.builtin .append,args:=#[s,x],argTypes:=#[206,206] }) (base:Nat)
  (v:Value) (n:Nat) (ks:List Nat) (hs:a.eval s=v) (hown:w.ownsRow base 207 1 v n (encN ks)) (g':Nat) (z:Nat) (hx:a.eval x=.slice (some ⟨g',0,none⟩) 1 1) (hc:w.cell? ⟨g',0,none⟩=some (.int .u8 (z:Int)))
  (hn:n+1≤140737488355328) (hbase:base≤w.heap.size)
  (h:∀ v' w',w'.ownsRow base 207 1 v' (n+1) (encN (ks++[z]))→w.grownBy w' v.ownBlock→wpList Tryz.prog ops Q rest (a.put o.dst v') w'):wpList Tryz.prog ops Q (o::rest) a w:=by
 obtain ⟨i,hi,hz0,hz1,hz2⟩:=info_parts qa1
 refine wpList_append_own w hgd s x 206 ho base 207 i _ 1 1 Tryz.underlying206 hi hz0 hz1 hz2 rfl (by decide) v n _ hs hown ⟨g',0,none⟩ 1 1 [.int .u8 (z:Int)] hx rfl ?_ (ints_oneCell .u8 [(z:Int)]) (by unfold maxLen;omega) (by omega) hbase ?_
 ·intro j u hj
  match j with
  | 0=>simp at hj;rw[← hj,qh];exact hc
  | j+1=>simp at hj
 ·intro v' w' h1 h2 _
  exact h v' w' (by unfold encN;rw[List.map_append,List.map_append];exact h1) h2
theorem q8j(op:Nat)(a:Option Addr)(c n:Nat)(ks:List Nat)(w:World)(h23:op≤23)(n3:op≠3)(n9:op≠9)(n10:op≠10)(n13:op≠13)(n14:op≠14)(hn:n=takO op)(hl:ks.length=n)(hk:∀ x∈ks,x≤2)(h:KdSl w a n c ks) :
  Calls Tryz.prog 142 #[.int .u8 (op:Int),.slice a n c] w (PutR op ks w):=by
 subst hl
 match ks,hn,hk,h with
 | [],hn,_,_ =>
  rcases arm0 hn n3 with rfl | rfl | rfl | rfl | rfl
  ·exact qa2 a _ c w
  ·exact qa3 a _ c w
  ·exact qa4 a _ c w
  ·exact qa5 a _ c w
  ·exact qa6 a _ c w
 | [x],hn,hk,h =>
  have hx:=hk x (by simp)
  by_cases e6:op=6
  ·subst e6;exact qa7 a c x w hx h
  ·rcases arm1 hn e6 n9 n10 with rfl | rfl | rfl | rfl | rfl
   ·exact qa8 a c x w hx h
   ·exact qa9 a c x w hx h
   ·exact q8S a c x w hx h
   ·exact q8T a c x w hx h
   ·exact q8W a c x w hx h
 | [x,y],hn,hk,h =>
  have hx:=hk x (by simp)
  have hy:=hk y (by simp)
  rcases arm2 hn h23 n13 n14 with rfl | rfl | rfl | rfl | rfl | rfl | rfl | rfl
  ·exact q8M a c x y w hx hy h
  ·exact q8N a c x y w hx hy h
  ·exact q8O a c x y w hx hy h
  ·exact q8P a c x y w hx hy h
  ·exact q8Q a c x y w hx hy h
  ·exact q8R a c x y w hx hy h
  ·exact q8U a c x y w hx hy h
  ·exact q8V a c x y w hx hy h
 | _::_::_::_,hn,_,_=>have:=q57 op;simp at hn;omega
def kiStep (st:List Nat) (k:Tk):Option (List Nat):=if st.length<takO k.1 then none else if kiFit k.1 (st.drop (st.length - takO k.1))=true then some (st.take (st.length - takO k.1)++[kiMade k.1 (st.drop (st.length - takO k.1))]) else none
theorem q5H(k:Tk)(r:List Tk)(st:List Nat):kiS (k::r) st=(kiStep st k).bind (kiS r):=by
 rw[kiS]
 unfold kiStep
 split
 ·rfl
 ·split <;> rfl
theorem q7j:∀ (l r:List Tk) (st:List Nat),kiS (l++r) st=(kiS l st).bind (kiS r)
 | [],r,st=>rfl
 | k::l,r,st=>by
  show kiS (k::(l++r)) st=_
  rw[q5H,q5H]
  cases kiStep st k with
  | none=>rfl
  | some s=>exact q7j l r s
theorem qce{ts:List Tk}{k:Nat}{ks:List Nat}(h:k<ts.length)(hs:kiS (ts.take k) []=some ks):kiS (ts.take (k+1)) []=kiStep ks ts[k]:=by
 rw[List.take_add_one,List.getElem?_eq_getElem h]
 show kiS (ts.take k++[ts[k]]) []=_
 rw[q7j,hs]
 show kiS [ts[k]] ks=_
 rw[q5H]
 cases kiStep ks ts[k] <;> rfl
theorem qd7{ts:List Tk}{k:Nat}(h:kiS (ts.take k) []=none):kiOk ts=false:=by
 have:kiS (ts.take k++ts.drop k) []=none:=by rw[q7j,h];rfl
 rw[List.take_append_drop]at this
 unfold kiOk;rw[this]
def oneN (ks:List Nat):Bool:=match ks with | [x]=>isN x 0 | _=>false
theorem qd6{ts:List Tk}{ks:List Nat}(h:kiS ts []=some ks):kiOk ts=oneN ks:=by
 unfold kiOk
 rw[h]
 match ks with
 | []=>rfl
 | [x]=>rfl
 | _::_::_=>rfl
theorem qbo(op:Nat)(a:List Nat):kiMade op a≤2:=by
 unfold kiMade
 repeat' split
 all_goals omega
theorem qbh{ts:List Tk}{k:Nat}(h:k<ts.length)(hf:fewL false ts=true):∃ b,fewAt b ts[k].1 ts[k].2=true:=by
 have h1:fewL false (ts.take k)=true:=by
  cases hc:fewL false (ts.take k) with
  | true=>rfl
  | false=>rw[q7f hc]at hf;cases hf
 refine ⟨lastP false (ts.take k),?_⟩
 rw[← q9k h h1]
 cases hc:fewL false (ts.take (k+1)) with
 | true=>rfl
 | false=>rw[q7f hc]at hf;cases hf
theorem q3x(a:Option Addr)(len cap:Nat)(ts:List Tk)(w:World)(hT:TkSl w a len cap ts)(hln:len≤1000000)(hF:fewL false ts=true) :
  Calls Tryz.prog 129 #[.slice a len cap] w fun e w'=>e=.returned (.bool (kiOk ts))∧Below w.heap.size w w':=by
 have HT:Hid (TkSl w a len cap ts):=hT
 have HLEN:Hid (ts.length=len):=hT.hlen
 have HF:Hid (fewL false ts=true):=hF
 clear hT hF
 go_enter Tryz.func129,Tryz.ntmps129
 go_wp2
 go_loopw [3,12] (fun v i wr=>∃ k:Nat,k≤len∧i=.int .i64 k∧(∃ ks:List Nat,Hid (wr.ownsRow w.heap.size 207 1 v ks.length (encN ks))∧Hid (kiS (ts.take k) []=some ks)∧Hid (ks.length≤k)∧Hid (∀ x∈ks,x≤2))∧Hid (Below w.heap.size w wr)) (fun _ i _=>len - (intOf i).toNat)
 case atStart=>exact ⟨0,Nat.zero_le _,rfl,⟨[],⟨rfl,Or.inl ⟨rfl,rfl⟩⟩,rfl,Nat.le_refl _,fun x hx=>(by simp at hx)⟩,Below.refl _ _⟩
 case round =>
  obtain ⟨k,hk,rfl,⟨ks,HO,HE,HLL,HK2⟩,HW⟩:=hrel
  have hll:=HLL.out
  have hszr:=HW.out.size
  by_cases hlt:k<len
  ·have hxl:k<ts.length:=by have:=HLEN.out;omega
   obtain ⟨g1,o1,s1,hi1,hx0,hx1,hg1,_⟩:=(HT.out.up HW.out).at Tryz.underlying22 q1M k hlt
   have hidx:=fun w'=>hi1 len w' hlt
   clear hi1
   have HNX:Hid (kiS (ts.take (k+1)) []=kiStep ks ts[k]):=qce hxl HE.out
   obtain ⟨b,hfa⟩:=qbh hxl HF.out
   have HOFF:Hid (kiS (ts.take (k+1)) []=none→kiOk ts=false):=fun h=>qd7 h
   generalize ts[k]=q at *
   obtain ⟨op,p⟩:=q
   dsimp only at hx0 hx1 HNX hfa
   obtain ⟨_,h23,n3,n9,n10,n13,n14,_⟩:=q4M hfa
   clear hfa
   have hTk:=fun w'=>q5Z op w' h23
   have hb1:=qc wr (.cells #[.int .u8 (op:Int),.int .u8 (p:Int)] 43)
   have HB1:Hid (Below w.heap.size w (wr.alloc (.cells #[.int .u8 (op:Int),.int .u8 (p:Int)] 43))):=qd HW.out hb1
   have hz1:(wr.alloc (.cells #[.int .u8 (op:Int),.int .u8 (p:Int)] 43)).heap.size=wr.heap.size+1:=by simp
   have hTn:takO op=takO op:=rfl
   obtain ⟨n,hn⟩:∃ n,n=takO op:=⟨_,rfl⟩
   have hn2:n≤2:=by rw[hn];exact q57 op
   have HS:Hid (kiStep ks (op,p)=if ks.length<n then none else if kiFit op (ks.drop (ks.length - n))=true then some (ks.take (ks.length - n)++[kiMade op (ks.drop (ks.length - n))]) else none):=by show _=_;rw[hn];rfl
   rw[← hn]at hTk
   have HN:Hid (n=takO op):=hn
   clear hn hTn
   by_cases hs:ks.length<n
   ·have HZ:Hid (kiOk ts=false):=HOFF.out (by rw[HNX.out,HS.out,if_pos hs])
    have hs':(ks.length:Int)<(n:Int):=by omega
    obtain ⟨av,cv,rfl,_⟩:=q3P HO.out (Nat.le_refl _)
    clear HS HNX hb1 HOFF
    go_wp2_with (go_at_call 141;refine (hTk _).mono ?_;rintro e w' ⟨rfl,rfl⟩)
    go_ret
    exact ⟨by rw[HZ.out];rfl,HB1.out⟩
   ·have hs':¬ (ks.length:Int)<(n:Int):=by omega
    obtain ⟨M,hM⟩:∃ M,M=ks.length - n:=⟨_,rfl⟩
    rw[if_neg hs,← hM]at HS
    obtain ⟨av,cv,bv,rfl,hpre,hown,hcut,hkd⟩:=qbn HO.out (m:=M) (by omega)
    rw[show ks.length - M=n by omega]at hcut hkd
    have hdl:(ks.drop M).length=n:=by simp;omega
    have hdk:∀ x∈ks.drop M,x≤2:=fun x hx=>HK2.out x (List.mem_of_mem_drop hx)
    have htk:∀ x∈ks.take M,x≤2:=fun x hx=>HK2.out x (List.mem_of_mem_take hx)
    have htl:(ks.take M).length=M:=by simp;omega
    have hkd1:KdSl (wr.alloc (.cells #[.int .u8 (op:Int),.int .u8 (p:Int)] 43)) bv n (cv - M) (ks.drop M):=IntSl.up hkd hb1
    have hput:∀ m,Calls Tryz.prog 142 #[.int .u8 (op:Int),.slice bv n (cv - M)] ((wr.alloc (.cells #[.int .u8 (op:Int),.int .u8 (p:Int)] 43)).drewN m) (fun e w'=>e=.returned (.tuple #[.int .u8 (kiMade op (ks.drop M):Int),.bool (kiFit op (ks.drop M))])∧∃ m',w'=((wr.alloc (.cells #[.int .u8 (op:Int),.int .u8 (p:Int)] 43)).drewN m).drewN m'):=fun m=>q8j op bv (cv - M) n (ks.drop M) _ h23 n3 n9 n10 n13 n14 HN.out hdl hdk (IntSl.drewN hkd1 m)
    have hml:=qbo op (ks.drop M)
    have HNXT:Hid _:=HNX.out.trans HS.out
    have HTK:Hid _:=htk
    have HTL:Hid _:=htl
    have hwr:IntKind.i64.wrap ((ks.length:Int) - (n:Int))=(M:Int):=by rw[IntKind.wrap_i64];omega
    have hown1:=q1z hown hb1
    have HO1:Hid _:=hown1
    have hML:M≤ks.length:=by omega
    have HGE:Hid (∀ j,(Value.slice av M cv).ownBlock=some j→w.heap.size≤j):=q1E hown1
    have hcw0:(wr.alloc (.cells #[.int .u8 (op:Int),.int .u8 (p:Int)] 43)).cell? ⟨wr.heap.size,0,none⟩=some (.int .u8 (op:Int)):=qb (MapKept.heap_alloc wr _).1 0
    clear HNX HS hown hown1 hkd hkd1 hdk htk htl hdl hb1 HO HE HK2 hM
    generalize ks.drop M=dk at *
    generalize ks.take M=tk at *
    generalize kiMade op dk=md at *
    generalize kiFit op dk=ft at *
    generalize ks.length=L at *
    go_wp2_with (go_at_call 141;refine (hTk _).mono ?_;rintro e w' ⟨rfl,rfl⟩)
    generalize hW1:wr.alloc (.cells #[.int .u8 (op:Int),.int .u8 (p:Int)] 43)=w1 at *
    go_quiet ((go_at_call 142;exact Calls.quiet_of (hput _)))
    cases ft with
    | false =>
     have HZ:Hid (kiOk ts=false):=HOFF.out (by rw[HNXT.out];rfl)
     go_wp2
     go_ret
     exact ⟨by rw[HZ.out];rfl,qd HB1.out (below_drewN (Below.refl _ _) _)⟩
    | true =>
     have HB2:Hid (Below w.heap.size w (w1.drewN nq)):=qd HB1.out (below_drewN (Below.refl _ _) _)
     have HO2:Hid ((w1.drewN nq).ownsRow w.heap.size 207 1 (.slice av M cv) M (encN tk)):=qbI HO1.out nq
     have hz2:(w1.drewN nq).heap.size=wr.heap.size+1:=hz1
     clear hput hcw0 HO1 HB1
     generalize w1.drewN nq=w2 at *
     have HO3:Hid ((w2.alloc (.cells #[.int .u8 (md:Int)] 207)).ownsRow w.heap.size 207 1 (.slice av M cv) M (encN tk)):=World.ownsRow.alloc HO2.out _
     have hc3:(w2.alloc (.cells #[.int .u8 (md:Int)] 207)).cell? ⟨wr.heap.size+1,0,none⟩=some (.int .u8 (md:Int)):=by rw[← hz2];exact qb (MapKept.heap_alloc w2 _).1 0
     have hz3:(w2.alloc (.cells #[.int .u8 (md:Int)] 207)).heap.size=w2.heap.size+1:=by simp
     have HB3:Hid (Below w.heap.size w (w2.alloc (.cells #[.int .u8 (md:Int)] 207))):=qd HB2.out (qc _ _)
     go_wp2_with (at_builtin;refine q6H rfl _ _ rfl w.heap.size _ M tk rfl HO3.out (wr.heap.size+1) md rfl hc3 (by omega) (by rw[hz3];omega) ?_)
     intro v4 w4 hown4 hgr4
     have HB4:Hid (Below w.heap.size w w4):=HB3.out.grown hgr4 (by rw[hz3];omega) HGE.out
     have HO4:Hid (w4.ownsRow w.heap.size 207 1 v4 (tk++[md]).length (encN (tk++[md]))):=by
      show World.ownsRow _ _ _ _ _ _ _
      rw[List.length_append,HTL.out];exact hown4
     clear hown4 hgr4 hc3 HO3
     go_wp2
     go_roundw
     case rel =>
      refine ⟨k+1,by omega,by go_num,⟨tk++[md],HO4,?_,?_,?_⟩,HB4⟩
      ·show _=_
       rw[HNXT.out];rfl
      ·show _≤_
       rw[List.length_append,HTL.out];simp;omega
      ·intro x hx
       rcases List.mem_append.1 hx with hx | hx
       ·exact HTK.out x hx
       ·simp at hx;omega
     case measure=>simp[intOf] <;> omega
  ·obtain rfl:k=len:=by omega
   have HKO:Hid (kiOk ts=oneN ks):=by
    show _=_
    have:=HE.out
    rw[List.take_of_length_le (by have:=HLEN.out;omega)]at this
    exact qd6 this
   obtain ⟨av,cv,rfl,_⟩:=q3P HO.out (Nat.le_refl _)
   by_cases h1:ks.length=1
   ·obtain ⟨x,rfl⟩:∃ x,ks=[x]:=by
     match ks,h1 with
     | [x],_=>exact ⟨x,rfl⟩
    obtain ⟨a',c',b',e',_,_,_,_⟩:=qbn HO.out (m:=0) (Nat.zero_le _)
    obtain ⟨a2,c2,e2,hI,_⟩:=q4q (P:=Tryz.prog) (T:=206) HO.out Tryz.underlying206 q1V
    injection e2 with e2 _ e3
    subst e2 e3
    obtain ⟨⟨g0,o0,s0⟩,i0,c0⟩:=q1m (n:=0) hI
    have hx2:x≤2:=HK2.out x (by simp)
    have his:=fun w'=>qQ x w' hx2
    have HKO2:Hid (kiOk ts=isN x 0):=HKO.out
    clear HKO hI e' HK2 HE HO HLL hll h1 hx2
    go_wp2_with (go_at_call 143;refine (his _).mono ?_;rintro e w' ⟨rfl,rfl⟩)
    go_ret
    exact ⟨by rw[HKO2.out];rfl,HW.out⟩
   ·have h1':((ks.length:Int) == 1)=false:=by rw[beq_eq_false_iff_ne];omega
    have HZ:Hid (kiOk ts=false):=by
     show _=_
     rw[HKO.out]
     match ks,h1 with
     | [],_=>rfl
     | [_],h=>exact absurd rfl h
     | _::_::_,_=>rfl
    clear HKO
    go_wp2
    go_ret
    exact ⟨by rw[HZ.out];rfl,HW.out⟩
theorem q5X(a:Option Addr)(len cap:Nat)(ts:List Tk)(w:World)(hT:TkSl w a len cap ts):Calls Tryz.prog 106 #[.slice a len cap] w fun e w'=>e=.returned (.int .i64 (chkE ts:Int))∧Below w.heap.size w w':=by
 have hlen:=hT.hlen
 by_cases hl:2048<len
 ·have HC:Hid (chkE ts=3):=by show _=_;unfold chkE;rw[if_pos (by omega)]
  have hl':(2048:Int)<(len:Int):=by omega
  clear hT hlen
  go_enter Tryz.func106,Tryz.ntmps106
  go_wp2
  go_ret
  exact ⟨by rw[HC.out];rfl,Below.refl _ _⟩
 ·have hl':¬ (2048:Int)<(len:Int):=by omega
  have h1:=q8i a len cap ts w hT (by omega)
  cases hf:fewL false ts with
  | false =>
   have HC:Hid (chkE ts=7):=by
    refine q9h (by omega) (fun h=>?_)
    rw[((q3n ts).1 h).1]at hf;cases hf
   rw[hf]at h1
   clear hT hlen hf
   go_enter Tryz.func106,Tryz.ntmps106
   go_wp2_with (go_at_call 128;refine h1.mono ?_;rintro e w1 ⟨rfl,hb1⟩)
   go_ret
   exact ⟨by rw[HC.out];rfl,hb1⟩
  | true =>
   have HT:Hid _:=hT
   have HF:Hid _:=hf
   rw[hf]at h1
   cases hk:kiOk ts with
   | false =>
    have HC:Hid (chkE ts=7):=by
     refine q9h (by omega) (fun h=>?_)
     rw[((q3n ts).1 h).2]at hk;cases hk
    have HK:Hid _:=hk
    clear hT hlen hf hk
    go_enter Tryz.func106,Tryz.ntmps106
    go_wp2_with (go_at_call 128;refine h1.mono ?_;rintro e w1 ⟨rfl,hb1⟩;have h2:=q3x a len cap ts w1 (HT.out.up hb1) (by omega) HF.out;rw[HK.out]at h2)
    go_wp2_with (go_at_call 129;refine h2.mono ?_;rintro e w2 ⟨rfl,hb2⟩)
    go_ret
    exact ⟨by rw[HC.out];rfl,qd hb1 hb2⟩
   | true =>
    have HC:Hid (chkE ts=0):=q25.2 ⟨by omega,(q3n ts).2 ⟨hf,hk⟩⟩
    have HK:Hid _:=hk
    clear hT hlen hf hk
    go_enter Tryz.func106,Tryz.ntmps106
    go_wp2_with (go_at_call 128;refine h1.mono ?_;rintro e w1 ⟨rfl,hb1⟩;have h2:=q3x a len cap ts w1 (HT.out.up hb1) (by omega) HF.out;rw[HK.out]at h2)
    go_wp2_with (go_at_call 129;refine h2.mono ?_;rintro e w2 ⟨rfl,hb2⟩)
    go_ret
    exact ⟨by rw[HC.out];rfl,qd hb1 hb2⟩
theorem q3t(zs:List Int)(w:World)(hz:∀ z∈zs,0≤z∧z<256)(hl:zs.length≤100):LtSl (w.alloc (.cells (zs.map (Value.int .u8)).toArray 25)) (some ⟨w.heap.size,0,none⟩) zs.length zs.length zs:=by
 have hr:=(MapKept.heap_alloc w (.cells (zs.map (Value.int .u8)).toArray 25)).1
 have had:∀ k,adOf (some ⟨w.heap.size,0,none⟩) k=⟨w.heap.size,k,none⟩:=fun k=>by simp[adOf,qh]
 have hsz:w.heap.size<(w.alloc (.cells (zs.map (Value.int .u8)).toArray 25)).heap.size:=by simp
 refine ⟨⟨rfl,Nat.le_refl _,by unfold maxLen;omega,fun n k w' hk hn=>q1c Tryz.underlying23 (by kernel_rfl) (by simp) k w' hk,fun k hk=>?_,fun k hk=>by rw[had];exact hsz,fun h=>by cases h⟩,hz⟩
 rw[had,qb hr k]
 simp[List.getD_eq_getElem?_getD,hk]
end Go.Proofs.YtekeaodpdcnfjaaGreatDoor
