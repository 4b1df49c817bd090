import Derived.Laws.OwnMore
import Derived.Laws.BitsAllLaws
import Derived.Deep.RegionHeld3
import Derived.Deep.RegionWith
import Derived.Deep.AppendLies
import Derived.Deep.QuietTactic
import Derived.OwnWalk
import Derived.KernelRfl
import Derived.BigQuiet
import Derived.Lib.AppendZerosOnto
import Derived.Maps.OwnSet
import Derived.DeepKeys4
import Derived.LaidEqlPtr
import Derived.StringKeys
import Derived.Test.YtoioiellaomonaaGreatDoorZ00
import Derived.Test.YtoioiellaomonaaGreatDoorZ01
import Derived.Test.YtoioiellaomonaaGreatDoorZ02
set_option maxRecDepth 100000
set_option maxHeartbeats 16000000
namespace Go.Proofs.YtoioiellaomonaaGreatDoor
open Go.RowKit Go.Maps Tryz
variable {P:Program}{e T:TypeId}{a:Option Addr}{cap n B k g i base size t b y j mb:Nat}{q:IntKind}{w w' w1 w2 w0:World}{zs cur:List Int}{xs:List Value}{v:Value}{p:Addr}{x:It}{ts:List Tk}{o:Oper}{Q:Exit->Act->World->Prop}{ops:Array Oper}{rest:List Oper}{F F':Nat->Prop}{f:It->Option Nat}{aj:List It}{r:List Nat}
def aG(a:Option Addr)(i:Nat):Addr:=match a with
 |some x=>x.add i
 |none=>⟨0,0,none⟩
theorem qi(g o i:Nat):(⟨g,o,none⟩:Addr).add i=⟨g,o+i,none⟩:=by unfold Addr.add;split<;>simp_all
theorem q2z(h:(P.info? e).map (·.size)=some 1)(w:World):(sizeOf e).run P w=.ok 1 w:=by
 cases hq:P.info? e with
 |none=>simp[hq]at h
 |some i=>simp[hq]at h;simp[sizeOf,typeInfo,hq,h]
theorem yK(hu:P.underlying T=some (.slice e))(hs:(P.info? e).map (·.size)=some 1){cap:Nat}(hn:a=none->n=0)(k:Nat)(w:World)(hk:k<n):
  (Instr.indexAt T (.slice a n cap) (.int .i64 k)).run P w=.ok (.pointer (some (aG a k))) w:=by
 cases a with
 |none=>have:=hn rfl;omega
 |some x=>simp[Instr.indexAt,run_underlying hu,asIntOf,q2z hs,hk,aG,Result.andThen,go_sem]
structure dh(P:Program)(T:TypeId)(q:IntKind)(w:World)(a:Option Addr)(len cap:Nat)(zs:List Int):Prop where
 hlen:zs.length=len
 hcap:len<=cap
 bd:cap<=maxLen
 idx:∀(n k:Nat)(w:World),k<n->n<=len->(Instr.indexAt T (.slice a n cap) (.int .i64 k)).run P w=.ok (.pointer (some (aG a k))) w
 cell:∀k,k<len->w.cell? (aG a k)=some (.int q (zs.getD k 0))
 blk:∀k,k<len->(aG a k).block<w.heap.size
 nn:a=none->cap=0
theorem dh.later{len:Nat}(h:dh P T q w a len cap zs)(hb:Below B w w')(hB:∀k,k<len->(aG a k).block<B):dh P T q w' a len cap zs :=
 ⟨h.hlen,h.hcap,h.bd,h.idx,fun k hk=>(hb.cell (hB k hk)).trans (h.cell k hk),fun k hk=>Nat.lt_of_lt_of_le (h.blk k hk) hb.size,h.nn⟩
theorem dh.up{len:Nat}(h:dh P T q w a len cap zs)(hb:Below w.heap.size w w'):dh P T q w' a len cap zs:=h.later hb h.blk
theorem dh.drewN{P:Program}{T:TypeId}{q:IntKind}{w:World}{a:Option Addr}{len cap:Nat}{zs:List Int}(h:dh P T q w a len cap zs)(n:Nat):dh P T q (w.drewN n) a len cap zs:=h.up (below_drewN (Below.refl _ _) n)
theorem fy(h:k<zs.length):zs.take (k+1)=zs.take k++[zs.getD k 0]:=by
 rw[List.take_add_one,List.getElem?_eq_getElem h];simp[List.getD_eq_getElem?_getD,List.getElem?_eq_getElem h]
theorem fL{xs ys:List Int}(hx:k<xs.length)(hy:k<ys.length)(h:xs.take k=ys.take k)(he:xs.getD k 0=ys.getD k 0):xs.take (k+1)=ys.take (k+1):=by
 rw[fy hx,fy hy,h,he]
def pG(cur:List Int):Array Value:=(cur.map (Value.int .u8)).toArray
def fV(w:World)(e:TypeId)(g:Nat)(cur:List Int):Prop:=w.heap[g]? =some (.cells (pG cur) e (0,0))
theorem fN(cur:List Int)(i:Nat)(h:i<cur.length):(pG cur)[i]? =some (.int .u8 (cur.getD i 0)):=by
 simp[pG,List.getD_eq_getElem?_getD,List.getElem?_eq_getElem h]
theorem fV.cell(h:fV w e g cur)(hi:i<cur.length):w.cell? ⟨g,i,none⟩=some (.int .u8 (cur.getD i 0)):=by
 unfold fV at h;simp[World.cell?,h];exact fN cur i hi
theorem fV.frozen{w:World}{e:TypeId}{g:Nat}{cur:List Int}(h:fV w e g cur)(i:Nat):w.frozen? ⟨g,i,none⟩=false:=frozen_of_row w g i _ e h
theorem fV.lt(h:fV w e g cur):g<w.heap.size:=(Array.getElem?_eq_some_iff.1 h).1
theorem CL(cur:List Int)(i:Nat)(x:Int):(pG cur).setIfInBounds i (.int .u8 x)=pG (cur.set i x):=by
 simp[pG,List.map_set]
theorem fV.set(h:fV w e g cur)(i:Nat)(x:Int):fV (w.setCell ⟨g,i,none⟩ (.int .u8 x)) e g (cur.set i x):=by
 have:=heap_setCell_same w g i _ e (.int .u8 x) h
 rw[CL]at this;exact this
theorem fV.up(h:fV w e g cur)(hb:Below w.heap.size w w'):fV w' e g cur:=(hb.block g h.lt).trans h
theorem OA(n:Nat):madeCells #[.int .u8 0] n=pG (List.replicate n 0):=by
 apply Array.ext_getElem?
 intro i;by_cases h:i<n
 ·rw[fN _ _ (by simpa using h)];simp[madeCells,h,Nat.mod_one]
 ·simp[madeCells,pG,h]
theorem fV.lq(h:fV w e g cur)(hu:P.underlying T=some (.slice e))(hs:(P.info? e).map (·.size)=some 1)(hn:n<=cur.length)(hm:cur.length<=maxLen):
  dh P T .u8 w (some ⟨g,0,none⟩) n cur.length (cur.take n):=by
 have had:∀k,aG (some ⟨g,0,none⟩) k=⟨g,k,none⟩:=fun k=>by simp[aG,qi]
 refine⟨by simp;omega,hn,hm,fun m k w hk hm=>yK hu hs (by simp) k w hk,fun k hk=>?_,fun k hk=>?_,by simp⟩
 ·rw[had,h.cell (by omega)];simp[List.getD_eq_getElem?_getD,hk]
 ·rw[had];exact h.lt
theorem fR:dh P T .u8 w none 0 0 [] :=
 ⟨rfl,Nat.le_refl _,Nat.zero_le _,fun m k w hk hm=>absurd hk (by omega),fun k hk=>absurd hk (by omega),fun k hk=>absurd hk (by omega),fun _=>rfl⟩
theorem fS(h:w.ownsRow base e 1 v n (zs.map (Value.int .u8)))(hu:P.underlying T=some (.slice e))(hs:(P.info? e).map (·.size)=some 1):
  ∃a cap,v=.slice a n cap/\dh P T .u8 w a n cap zs/\∀k,k<n->base<=(aG a k).block:=by
 obtain⟨hl,h⟩:=h;simp at hl
 rcases h with⟨rfl,rfl⟩|⟨g,cap,cur,rfl,hg,hcell,hnc,hcm,hsz,htk⟩
 ·have:zs=[]:=List.eq_nil_of_length_eq_zero hl
  subst this;exact⟨none,0,rfl,fR,fun k hk=>absurd hk (by omega)⟩
 ·have had:∀k,aG (some ⟨g,0,none⟩) k=⟨g,k,none⟩:=fun k=>by simp[aG,qi]
  have hlt:g<w.heap.size:=(Array.getElem?_eq_some_iff.1 hcell).1
  refine⟨some ⟨g,0,none⟩,cap,rfl,⟨hl,hnc,hcm,fun m k w hk hm=>yK hu hs (by simp) k w hk,fun k hk=>?_,fun k hk=>by rw[had];exact hlt,by simp⟩,fun k hk=>by rw[had];exact hg⟩
  rw[had]
  have hk2:(cur.toList.take (n*1))[k]? =some (.int .u8 (zs.getD k 0)):=by
   rw[htk];simp[List.getD_eq_getElem?_getD,List.getElem?_eq_getElem (show k<zs.length by omega)]
  rw[List.getElem?_take,if_pos (by omega)]at hk2
  simp[World.cell?,hcell]
  simpa using hk2
theorem vO{e:Nat}(h:w.ownsRow base e size v n xs):∀k,v.ownBlock=some k->base<=k:=by
 obtain⟨_,h⟩:=h;rcases h with⟨rfl,_⟩|⟨g,cap,cur,rfl,hg,_⟩
 ·intro k hk;simp[Value.ownBlock]at hk
 ·intro k hk;simp[Value.ownBlock]at hk;omega
theorem qd(w:World)(o:Obj):Below w.heap.size w (w.alloc o):=(Below.refl _ _).alloc (Nat.le_refl _) _
theorem qe(h:Below w.heap.size w w1)(k:Below w1.heap.size w1 w2):Below w.heap.size w w2:=h.trans (k.mono h.size)
theorem CM(x y:Nat):((x:Int)==(y:Int))=decide (x=y):=by
 by_cases h:x=y
 ·simp[h]
 ·rw[decide_eq_false h,beq_eq_false_iff_ne];omega
def Az(w:World)(g:Nat)(t:TypeId)(a b:Nat):Prop:=w.heap[g]? =some (.cells #[.int .u8 a,.int .u8 b] t (0,0))
theorem Az.new(w:World)(t:TypeId)(a b:Nat):Az (w.alloc (.cells #[.int .u8 a,.int .u8 b] t)) w.heap.size t a b:=(MapKept.heap_alloc w _).1
theorem Az.c0{t:TypeId}{a:Nat}(h:Az w g t a b):w.cell? ⟨g,0,none⟩=some (.int .u8 a):=by unfold Az at h;simp[World.cell?,h]
theorem Az.c1{t:TypeId}{a:Nat}(h:Az w g t a b):w.cell? ⟨g,1,none⟩=some (.int .u8 b):=by unfold Az at h;simp[World.cell?,h]
theorem fW(h:(P.info? e).map (·.size)=some 2)(w:World):(sizeOf e).run P w=.ok 2 w:=by
 cases hq:P.info? e with
 |none=>simp[hq]at h
 |some i=>simp[hq]at h;simp[sizeOf,typeInfo,hq,h]
theorem CN(hu:P.underlying T=some (.slice e))(hs:(P.info? e).map (·.size)=some 2){g cap:Nat}(k:Nat)(w:World)(hk:k<n):
  (Instr.indexAt T (.slice (some ⟨g,0,none⟩) n cap) (.int .i64 k)).run P w=.ok (.pointer (some ⟨g,2*k,none⟩)) w:=by
 simp[Instr.indexAt,run_underlying hu,asIntOf,fW hs,hk,Result.andThen,go_sem,qi,Nat.mul_comm]
theorem C0(a b:Int):∀u∈[Value.int .u8 a,Value.int .u8 b],u.oneCell'=true:=by
 intro u hu;simp at hu;rcases hu with rfl|rfl<;>rfl
theorem WI{e:Nat}(h:w.ownsRow base e size v n xs)(hp:p.block<base)(u:Value):(w.setCell p u).ownsRow base e size v n xs:=by
 refine⟨h.1,?_⟩
 rcases h.2 with hn|⟨g,cap,cur,h1,h2,h3,h4⟩
 ·exact Or.inl hn
 ·exact Or.inr ⟨g,cap,cur,h1,h2,(Below.heap_setCell w p u g (by omega)).trans h3,h4⟩
theorem C3{e:Nat}(h:w.ownsRow base e size v n xs)(m:Nat):(w.drewN m).ownsRow base e size v n xs:=by
 refine⟨h.1,?_⟩
 rcases h.2 with hn|⟨g,cap,cur,h1,h2,h3,h4⟩
 ·exact Or.inl hn
 ·have hb:=below_drewN (Below.refl (g+1) w) m
  exact Or.inr ⟨g,cap,cur,h1,h2,(hb.block g (by omega)).trans h3,h4⟩
theorem qC{e:Nat}(h:w.ownsRow base e size v n xs)(hb:Below w.heap.size w w'):w'.ownsRow base e size v n xs:=by
 refine⟨h.1,?_⟩
 rcases h.2 with hn|⟨g,cap,cur,h1,h2,h3,h4⟩
 ·exact Or.inl hn
 ·exact Or.inr ⟨g,cap,cur,h1,h2,(hb.block g (Array.getElem?_eq_some_iff.1 h3).1).trans h3,h4⟩
theorem q6z{base' e:Nat}(h:w.ownsRow base e size v n xs)(hb:base'<=base):w.ownsRow base' e size v n xs:=by
 refine⟨h.1,?_⟩
 rcases h.2 with hn|⟨g,cap,cur,h1,h2,h3,h4⟩
 ·exact Or.inl hn
 ·exact Or.inr ⟨g,cap,cur,h1,Nat.le_trans hb h2,h3,h4⟩
theorem qf(h:w0.cell? p=some v)(hb:Below w0.heap.size w0 w1):w1.cell? p=some v:=(hb.cell (World.block_lt_of_cell? _ _ h)).trans h
theorem WJ{row:Option Nat}(h:w0.cell? p=some v)(hb:w0.grownBy w1 row)(hne:some p.block≠row):w1.cell? p=some v:=(hb.cell_far p (World.block_lt_of_cell? _ _ h) hne).trans h
theorem qc{W:World}{arr:Array Value}(h:W.heap[g]? =some (.cells arr e (0,0)))(j:Nat):W.cell? ⟨g,j,none⟩=arr[j]? := by simp[World.cell?,h]
theorem WL(h:∃n,w'=w.drewN n):Below w.heap.size w w':=by obtain⟨n,rfl⟩:=h;exact below_drewN (Below.refl _ _) n
theorem G6(x:Addr)(n:Nat):(x.add n).block=x.block:=by unfold Addr.add;split<;>rfl
theorem Ue(x:Addr)(m n:Nat):(x.add m).add n=x.add (m+n):=by
 unfold Addr.add;by_cases h:n=0
 ·subst h;simp
 ·have h2:¬(m+n=0):=fun e=>h (by omega)
  rw[if_neg h,if_neg h2];split<;>simp_all [Nat.add_assoc]
theorem lu{α:Type}[BEq α][LawfulBEq α]{a b:α}:(a==b)=false↔a≠b:=beq_eq_false_iff_ne
theorem lC{α:Type}{xs:Array α}{b:α}(h:xs[i]? =some b):∃h:i<xs.size,xs[i]=b:=Array.getElem?_eq_some_iff.1 h
theorem dO(w:World)(o:Obj):(w.alloc o).heap[w.heap.size]? =some o/\∀r':Nat,r'<w.heap.size->(w.alloc o).heap[r']? =w.heap[r']?:=MapKept.heap_alloc w o
theorem kU{α:Type}{l:List α}(h:i<l.length):l[i]? =some l[i]:=List.getElem?_eq_getElem h
abbrev tO(a b:Int)(g n c:Nat):Obj:=.cells #[.int .u8 a,.int .u8 b,.slice (some ⟨g,0,none⟩) n c] 77
abbrev tQ(a b:Int)(u:Option Addr)(n c:Nat):Obj:=.cells #[.int .u8 a,.int .u8 b,.slice u n c] 77
theorem aX{P:Prop}(h:P):Hid P:=h
theorem aP(a:Nat)(k:Int)(h:¬(a:Int)=k):((a:Int)==k)=false:=by rw[lu];exact h
theorem bZ:n<=n:=Nat.le_refl n
abbrev iU(l:List Nat):List Int:=l.map fun (x:Nat)=>(x:Int)
abbrev fH(w:World)(a:Option Addr)(len cap:Nat)(l:List Nat):Prop:=dh prog 36 .u64 w a len cap (iU l)
theorem fH.len{len:Nat}{l:List Nat}(h:fH w a len cap l):len=l.length:=by
 have:=h.hlen
 simp[iU]at this
 omega
def Sm(l:List Nat):Prop:=∀x∈l,x<2 ^ 64
theorem Uf:(prog.info? 37).map (·.size)=some 1:=by kernel_rfl
theorem Et:fH w none 0 0 [] :=
 ⟨rfl,bZ,Nat.zero_le _,fun m k w hk hm=>absurd hk (by omega),fun k hk=>absurd hk (by omega),fun k hk=>absurd hk (by omega),fun _=>rfl⟩
theorem OB(l:List Nat)(w:World)(hl:l.length<=2000):fH (w.alloc (.cells ((iU l).map (Value.int .u64)).toArray 37)) (some ⟨w.heap.size,0,none⟩) l.length l.length l:=by
 have had:∀k,aG (some ⟨w.heap.size,0,none⟩) k=⟨w.heap.size,k,none⟩:=fun k=>by simp[aG,qi]
 have hr:=(MapKept.heap_alloc w (.cells ((iU l).map (Value.int .u64)).toArray 37)).1;refine⟨by simp,Nat.le_refl _,by unfold maxLen;omega,fun m k w hk hm=>yK underlying36 Uf (by simp) k w hk,fun k hk=>?_,fun k hk=>?_,by simp⟩
 ·rw[had,qc hr k]
  simp[List.getD_eq_getElem?_getD,hk]
 ·rw[had]
  exact(lC hr).1
def LE(E:Nat)(r:List Nat)(w:World)(e:Ending)(w':World):Prop:=∃(a:Option Addr) (c:Nat),e=.returned (.tuple #[.slice a r.length c,.int .i64 E])/\fH w' a r.length c r/\Below w.heap.size w w'
def BR(b:Bool)(w:World)(e:Ending)(w':World):Prop:=e=.returned (.bool b)/\Below w.heap.size w w'
theorem C4(x y:Nat)(hx:x<18446744073709551616)(hy:y<18446744073709551616):(x &&& (18446744073709551615-y)=0)↔y ||| x=y:=by
 have hb:∀i,(18446744073709551615-y).testBit i=(decide (i<64) && !y.testBit i):=fun i=>by
  have:=Nat.testBit_two_pow_sub_succ (n:=64) (x:=y) (by exact hy) i
  rw[show 2 ^ 64-(y+1)=18446744073709551615-y by omega]at this
  exact this
 constructor
 ·intro h
  refine Nat.eq_of_testBit_eq fun i=>?_
  have:=congrArg (fun z=>z.testBit i) h
  simp only[Nat.testBit_and,hb,Nat.zero_testBit]at this
  rw[Nat.testBit_or];by_cases hi:i<64
  ·simp[hi]at this
   cases h1:y.testBit i<;>cases h2:x.testBit i<;>simp_all
  ·have:x.testBit i=false:=Nat.testBit_lt_two_pow (Nat.lt_of_lt_of_le hx (by rw[show (18446744073709551616:Nat)=2 ^ 64 from rfl];exact Nat.pow_le_pow_right (by decide) (by omega)))
   rw[this];simp
 ·intro h
  refine Nat.eq_of_testBit_eq fun i=>?_
  have:=congrArg (fun z=>z.testBit i) h
  simp only[Nat.testBit_or]at this
  rw[Nat.testBit_and,hb,Nat.zero_testBit]
  cases h1:y.testBit i<;>cases h2:x.testBit i<;>simp_all
theorem OC{x:Nat}:y ||| x=y↔Wi x y:=by
 rw[Eo]
 constructor
 ·intro h i hi
  rw[<-h,Nat.testBit_or,hi,Bool.or_true]
 ·intro h
  apply Nat.eq_of_testBit_eq
  intro i;rw[Nat.testBit_or]
  cases hx:x.testBit i with
  |false=>rw[Bool.or_false]
  |true=>rw[h i hx];rfl
theorem C5(x y:Nat)(hx:x<2 ^ 64)(hy:y<2 ^ 64):bits .andNot .u64 (x:Int) (y:Int)=0↔Wi x y:=by
 rw[u64_andNot_nat x y hx hy,<-OC,<-C4 x y hx hy]
 omega
theorem C6(x y:Nat)(hx:x<2 ^ 64)(hy:y<2 ^ 64)(w:World):Calls prog 66 #[.int .u64 x,.int .u64 y] w fun e w'=>e=.returned (.bool (decide (Wi x y)))/\w'=w:=by
 have h:=C5 x y hx hy;generalize hz:bits .andNot .u64 (x:Int) (y:Int)=z at *
 have HD:Hid ((z==0)=decide (Wi x y)):=by
  show _=_
  rw[Bool.eq_iff_iff,beq_iff_eq,decide_eq_true_iff];exact h
 clear h;go_enter func66,ntmps66
 go_wp2;go_ret
 exact⟨by rw[<-HD.out];rfl,rfl⟩
theorem q35(a:Option Addr)(n c:Nat)(l:List Nat)(h:Nat)(w:World)(hS:fH w a n c l)(sL:Sm l)(hh:h<2 ^ 64):
  Calls prog 41 #[.slice a n c,.int .u64 h] w (BR (yI l h) w):=by
 have hb0:=hS.bd;have hb1:=hS.hcap;unfold maxLen at hb0;have hln:=hS.len;have HL:=aX hln;have hidx:=fun (k:Nat) (w:World) (h:k<n)=>hS.idx n k w h bZ
 have hcell:∀k,k<n->w.cell? (aG a k)=some (.int .u64 (l.getD k 0:Nat)):=fun k hk=>by
  rw[hS.cell k hk]
  congr 2
  simp only[List.getD_eq_getElem?_getD,iU,List.getElem?_map]
  cases l[k]?<;>rfl
 have HW:Hid (∀k,k<n->∀w',Calls prog 66 #[.int .u64 (l.getD k 0:Nat),.int .u64 h] w' fun e w''=>e=.returned (.bool (decide (Wi (l.getD k 0) h)))/\w''=w'):=fun k hk w'=>C6 _ h (by
  have hk':k<l.length:=by omega
  rw[List.getD_eq_getElem?_getD,kU hk'];exact sL _ (List.getElem_mem hk')) hh w'
 clear hS sL hln;go_enter func41,ntmps41
 go_wp2
 go_loopw [9] (fun i wr=>∃k:Nat,k<=n/\i=.int .i64 k/\Hid (∀j,j<k->¬Wi (l.getD j 0) h)/\wr=w) (fun i _=>n-(intOf i).toNat)
 case atStart=>exact⟨0,Nat.zero_le _,rfl,fun j hj=>absurd hj (by omega),rfl⟩
 case round=>
  obtain⟨k,hk,rfl,HU,rfl⟩:=hrel;by_cases hlt:k<n
  ·have hc:=hcell k hlt
   have hx:=fun w'=>hidx k w' hlt
   have hw:=HW.out k hlt
   have HY:Hid (¬Wi (l.getD k 0) h->∀j,j<k+1->¬Wi (l.getD j 0) h):=fun hn j hj=>by
    by_cases e:j=k
    ·subst e;exact hn
    ·exact HU.out j (by omega)
   have HN:Hid (Wi (l.getD k 0) h->yI l h=true):=fun hn=>by
    have hk':k<l.length:=by rw[<-HL.out];exact hlt
    refine decide_eq_true ⟨l.getD k 0,?_,hn⟩
    rw[List.getD_eq_getElem?_getD,kU hk'];exact List.getElem_mem hk'
   generalize l.getD k 0=x at *;clear hcell hidx;by_cases hwi:Wi x h
   ·rw[decide_eq_true hwi]at hw
    have HZ:Hid (yI l h=true):=HN.out hwi;clear hwi HN HY
    go_wp2_with fail
    refine (hw _).mono ?_
    rintro e w1 ⟨rfl,rfl⟩
    go_wp2_with fail
    go_ret
    exact⟨by rw[HZ.out];rfl,Below.refl _ _⟩
   ·rw[decide_eq_false hwi]at hw
    have HZ:Hid (∀j,j<k+1->¬Wi (l.getD j 0) h):=HY.out hwi;clear hwi HN HY
    go_wp2_with fail
    refine (hw _).mono ?_
    rintro e w1 ⟨rfl,rfl⟩
    go_wp2_with fail
    go_roundw
    case rel=>exact⟨k+1,by omega,by go_num,HZ,by first|trivial|rfl⟩
    case measure=>simp[intOf];omega
  ·have HZ:Hid (yI l h=false):=by
    refine decide_eq_false ?_
    rintro⟨s,hs,hw⟩
    obtain⟨j,hj,rfl⟩:=List.getElem_of_mem hs;have:=HU.out j (by have:=HL.out;omega)
    rw[List.getD_eq_getElem?_getD,kU hj]at this;exact this hw
   go_wp2;go_ret
   exact⟨by rw[HZ.out];rfl,Below.refl _ _⟩
def dJ(ts:List Tk):List Value:=ts.flatMap fun t=>[.int .u8 t.1,.int .u8 t.2]
theorem OD(t:Tk)(ts:List Tk):dJ (t::ts)=.int .u8 t.1 :: .int .u8 t.2::dJ ts:=rfl
theorem WM(xs ys:List Tk):dJ (xs++ys)=dJ xs++dJ ys:=by simp[dJ]
theorem CP:∀ts:List Tk,(dJ ts).length=ts.length*2
 | []=>rfl
 |t::ts=>by rw[OD];simp[CP ts];omega
theorem E5:∀(ts:List Tk)(k:Nat)(h:k<ts.length),(dJ ts)[2*k]? =some (.int .u8 (ts[k].1:Int))/\(dJ ts)[2*k+1]? =some (.int .u8 (ts[k].2:Int))
 | [],k,h=>absurd h (by simp)
 |t::ts,0,_=>⟨rfl,rfl⟩
 |t::ts,k+1,h=>by
  have:=E5 ts k (by simpa using h)
  rw[OD,show 2*(k+1)=2*k+1+1 by omega,show 2*k+1+1+1=(2*k+1)+1+1 by omega]
  simpa using this
theorem fX(ts:List Tk):∀u∈dJ ts,u.oneCell'=true:=by
 intro u hu;unfold dJ at hu;obtain⟨c,_,hc⟩:=List.mem_flatMap.1 hu;exact C0 _ _ u hc
structure bG(w:World)(a:Option Addr)(len cap:Nat)(ts:List Tk):Prop where
 hlen:ts.length=len
 hcap:len<=cap
 bd:cap<=maxLen
 nn:a=none->cap=0
 c0:∀x,a=some x->∀k (h:k<ts.length),w.cell? (x.add (2*k))=some (.int .u8 (ts[k].1:Int))
 c1:∀x,a=some x->∀k (h:k<ts.length),w.cell? (x.add (2*k+1))=some (.int .u8 (ts[k].2:Int))
 ok:∀t∈ts,t.1<256/\t.2<256
theorem bG.E8{len:Nat}(h:bG w a len cap ts)(hl:0<len):∃x,a=some x:=by
 cases a with
 |none=>have:=h.nn rfl;have:=h.hcap;omega
 |some x=>exact⟨x,rfl⟩
theorem bG.lt{x:Addr}{len:Nat}(h:bG w (some x) len cap ts)(hl:0<len):x.block<w.heap.size:=by
 have h0:=h.c0 x rfl 0 (by have:=h.hlen;omega)
 have:=World.block_lt_of_cell? _ _ h0
 rwa [G6]at this
theorem bG.keep{len:Nat}(h:bG w a len cap ts)(hk:∀p v,w.cell? p=some v->(∀x,a=some x->p.block=x.block)->w'.cell? p=some v):bG w' a len cap ts :=
 ⟨h.hlen,h.hcap,h.bd,h.nn,fun x hx k hk'=>hk _ _ (h.c0 x hx k hk') (fun y hy=>by rw[G6];rw[hx]at hy;injection hy with hy;rw[hy]),fun x hx k hk'=>hk _ _ (h.c1 x hx k hk') (fun y hy=>by rw[G6];rw[hx]at hy;injection hy with hy;rw[hy]),h.ok⟩
theorem bG.up{len:Nat}(h:bG w a len cap ts)(hb:Below w.heap.size w w'):bG w' a len cap ts :=
 h.keep fun _ _ hp _=>qf hp hb
theorem bG.nil:bG w none 0 0 [] :=
 ⟨rfl,Nat.le_refl _,Nat.zero_le _,fun _=>rfl,fun x hx=>(by cases hx),fun x hx=>(by cases hx),fun t ht=>(by simp at ht)⟩
theorem bG.at{len:Nat}(h:bG w a len cap ts)(hu:P.underlying T=some (.slice e))(hs:(P.info? e).map (·.size)=some 2)(k:Nat)(hk:k<len):
  ∃g o s,(∀(n:Nat)(w':World),k<n->(Instr.indexAt T (.slice a n cap) (.int .i64 k)).run P w'=.ok (.pointer (some ⟨g,o,s⟩)) w')/\w.cell? ⟨g,o,s⟩=some (.int .u8 ((ts[k]'(by rw[h.hlen];exact hk)).1:Int))/\w.cell? ⟨g,o+1,none⟩=some (.int .u8 ((ts[k]'(by rw[h.hlen];exact hk)).2:Int))/\g<w.heap.size/\∀x,a=some x->x.block=g:=by
 obtain⟨x,rfl⟩:=h.E8 (by omega)
 have hkl:k<ts.length:=by rw[h.hlen];exact hk
 have e0:=h.c0 x rfl k hkl;have e1:=h.c1 x rfl k hkl;have hlt:=h.lt (by omega)
 rw[<-Ue]at e1;have hb:=G6 x (2*k)
 have hrun:∀(n:Nat)(w':World),k<n->(Instr.indexAt T (.slice (some x) n cap) (.int .i64 k)).run P w'=.ok (.pointer (some (x.add (2*k)))) w':=fun n w' hn=>by
  simp[Instr.indexAt,run_underlying hu,asIntOf,fW hs,hn,Result.andThen,go_sem,Nat.mul_comm]
 generalize x.add (2*k)=y at *;obtain⟨g,o,s⟩:=y;refine⟨g,o,s,hrun,e0,?_,?_,?_⟩
 ·simpa [Addr.add] using e1
 ·dsimp only at hb;omega
 ·intro z hz;injection hz with hz;rw[<-hz];exact hb.symm
theorem WO{e:Nat}(h:w.ownsRow base e 2 v n (dJ ts))(hok:∀t∈ts,t.1<256/\t.2<256):
  ∃a cap,v=.slice a n cap/\bG w a n cap ts/\∀x,a=some x->base<=x.block/\v.ownBlock=some x.block:=by
 obtain⟨hl,h⟩:=h;rw[CP]at hl;have hl':ts.length=n:=by omega
 rcases h with⟨rfl,rfl⟩|⟨g,cap,cur,rfl,hg,hcell,hnc,hcm,hsz,htk⟩
 ·obtain rfl:=List.eq_nil_of_length_eq_zero hl'
  exact⟨none,0,rfl,bG.nil,fun x hx=>by cases hx⟩
 ·have key:∀j,j<n*2->w.cell? ⟨g,j,none⟩=(dJ ts)[j]? := fun j hj=>by
   rw[<-htk,List.getElem?_take,if_pos hj];simp[World.cell?,hcell]
  refine⟨some ⟨g,0,none⟩,cap,rfl,⟨hl',hnc,hcm,fun hn=>(nomatch hn),fun x hx k hk=>?_,fun x hx k hk=>?_,hok⟩,fun x hx=>by injection hx with hx;subst hx;exact⟨hg,rfl⟩⟩
  ·injection hx with hx;subst hx
   rw[qi,Nat.zero_add,key _ (by omega)];exact(E5 ts k hk).1
  ·injection hx with hx;subst hx
   rw[qi,Nat.zero_add,key _ (by omega)];exact(E5 ts k hk).2
theorem qD:(prog.info? 42).map (·.size)=some 2:=by kernel_rfl
theorem fY:(prog.info? 42).map (fun i=>(i.zero,i.size,i.bytes))=some (some (.agg #[.int .u8 0,.int .u8 0]),2,2):=by kernel_rfl
theorem bG.cells{x:Addr}{len:Nat}(h:bG w (some x) len cap ts):∀j u,(dJ ts)[j]? =some u->w.cell? (x.add j)=some u:=by
 intro j u hj;have hjl:=(List.getElem?_eq_some_iff.1 hj).1
 rw[CP]at hjl;rcases Nat.mod_two_eq_zero_or_one j with h0|h0
 ·obtain⟨k,rfl⟩:∃k,j=2*k:=⟨j / 2,by omega⟩
  rw[(E5 ts k (by omega)).1]at hj
  rw[<-hj];exact h.c0 x rfl k (by omega)
 ·obtain⟨k,rfl⟩:∃k,j=2*k+1:=⟨j / 2,by omega⟩
  rw[(E5 ts k (by omega)).2]at hj
  rw[<-hj];exact h.c1 x rfl k (by omega)
theorem C7{w:World}{o:Oper}{a:Act}{K:Act->World->Prop}{Q:Exit->Act->World->Prop}(s x:Operand)
  (ho:o.op=.call { callee:=.builtin .append,args:=#[s,x],argTypes:=#[22,22] }) (base:Nat)
  (v:Value) (xs ys:List Tk) (b:Option Addr) (len cap:Nat) (hs:a.eval s=v) (hx:a.eval x=.slice b len cap) (hown:w.ownsRow base 42 2 v xs.length (dJ xs)) (hT:bG w b len cap ys)
  (hn:xs.length<=10000000) (hm:ys.length<=10000000) (hbase:base<=w.heap.size)
  (h:∀v' w',w'.ownsRow base 42 2 v' (xs++ys).length (dJ (xs++ys))->w.grownBy w' v.ownBlock->K (a.put o.dst v') w'):o.wp prog a w K Q:=by
 obtain⟨i,hi,hz0,hz1,hz2⟩:=info_parts fY;have hl:=hT.hlen
 cases b with
 |none=>
  have hc:=hT.nn rfl;have hcl:=hT.hcap;obtain rfl:len=0:=by omega
  subst hc;have hy:ys=[]:=List.eq_nil_of_length_eq_zero hl;subst hy;have hrun:=run_append_owned_none (P:=prog) w base 22 o.type 42 i 2 underlying22 hi v xs.length (dJ xs) hown;unfold Oper.wp execOp;simp only[ho,resolve,invoke,builtin,Sem.run_bind,Sem.run_pure,Result.andThen_ok,List.map_toArray,List.map_cons,List.map_nil,hs,hx,hrun]
  exact h v w (by rw[List.append_nil];exact hown) (World.grownBy.refl _ _)
 |some y=>
  refine wp_append_own w s x 22 ho base 42 i _ 2 2 underlying22 hi hz0 hz1 hz2 rfl (by decide) v xs.length _ hs hown y len cap (dJ ys) hx (by rw[CP,hl]) hT.cells (fX ys) (by unfold maxLen;omega) (by omega) hbase ?_
  intro v' w' h1 h2 _;exact h v' w' (by rw[WM,List.length_append,hl];exact h1) h2
theorem OE{w:World}{ops:Array Oper}{rest:List Oper}{a:Act}{Q:Exit->Act->World->Prop}(hgd:o.guard=none)(s x:Operand)
  (ho:o.op=.call { callee:=.builtin .append,args:=#[s,x],argTypes:=#[22,22] }) (base:Nat)
  (v:Value) (xs ys:List Tk) (b:Option Addr) (len cap:Nat) (hs:a.eval s=v) (hx:a.eval x=.slice b len cap) (hown:w.ownsRow base 42 2 v xs.length (dJ xs)) (hT:bG w b len cap ys)
  (hn:xs.length<=10000000) (hm:ys.length<=10000000) (hbase:base<=w.heap.size)
  (h:∀v' w',w'.ownsRow base 42 2 v' (xs++ys).length (dJ (xs++ys))->w.grownBy w' v.ownBlock->wpList prog ops Q rest (a.put o.dst v') w'):wpList prog ops Q (o::rest) a w :=
 wpList_plain hgd fun _ hK=>C7 s x ho base v xs ys b len cap hs hx hown hT hn hm hbase fun v' w' h1 h2=>hK _ _ (h v' w' h1 h2)
structure Fr(w w':World)(F F':Nat->Prop):Prop where
 os:w'.os=w.os
 tape:w'.tape=w.tape
 output:w'.output=w.output
 size:w.heap.size<=w'.heap.size
 keep:∀k,k<w.heap.size->¬F k->w'.heap[k]? =w.heap[k]?
 foot:∀k,F' k->F k\/w.heap.size<=k
theorem Fr.below(h:Fr w w' F F')(hF:∀k,F k->B<=k)(hB:B<=w.heap.size):Below B w w' :=
 ⟨h.os,h.tape,h.output,h.size,fun k hk=>h.keep k (by omega) (fun hf=>by have:=hF k hf;omega)⟩
theorem Fr.ge(h:Fr w w' F F')(hF:∀k,F k->B<=k)(hB:B<=w.heap.size):∀k,F' k->B<=k:=fun k hk=>by
 rcases h.foot k hk with h1|h1
 ·exact hF k h1
 ·omega
theorem Fr.out(h:Fr w w' F F')(hk:¬F k)(hl:k<w.heap.size):¬F' k:=fun hf=>by
 rcases h.foot k hf with h1|h1
 ·exact hk h1
 ·omega
theorem Fr.tks(h:Fr w w' F F'){len:Nat}(hT:bG w a len cap ts)(hf:0<len->∀x,a=some x->¬F x.block):bG w' a len cap ts:=by
 by_cases hl0:len=0
 ·have hnil:ts=[]:=List.eq_nil_of_length_eq_zero (by rw[hT.hlen];exact hl0)
  subst hnil;exact⟨hT.hlen,hT.hcap,hT.bd,hT.nn,fun x hx k hk=>absurd hk (by simp),fun x hx k hk=>absurd hk (by simp),hT.ok⟩
 have hl:0<len:=by omega
 cases a with
 |none=>exact⟨hT.hlen,hT.hcap,hT.bd,hT.nn,fun x hx=>(by cases hx),fun x hx=>(by cases hx),hT.ok⟩
 |some y=>
  refine hT.keep fun p v hp hx=>?_
  have e:=hx y rfl;have hl2:=World.block_lt_of_cell? _ _ hp;have:=h.keep p.block hl2 (by rw[e];exact hf hl y rfl)
  unfold World.cell? at hp ⊢;rw[this];exact hp
theorem Fr.own(h:Fr w w' F F'){e:Nat}(ho:w.ownsRow base e size v n xs)(hf:∀k,v.ownBlock=some k->¬F k):w'.ownsRow base e size v n xs:=by
 obtain⟨hl,ho⟩:=ho;refine⟨hl,ho.imp id ?_⟩
 rintro⟨g,cap,cur,rfl,hg,hcell,r⟩
 exact⟨g,cap,cur,rfl,hg,(h.keep g (lC hcell).1 (hf g rfl)).trans hcell,r⟩
theorem Fr.trans{F1 F2:Nat->Prop}(h:Fr w w1 F F1)(k:Fr w1 w2 F1 F2):Fr w w2 F F2:=by
 refine⟨k.os.trans h.os,k.tape.trans h.tape,k.output.trans h.output,Nat.le_trans h.size k.size,fun j hj hF=>?_,fun j hj=>?_⟩
 ·exact(k.keep j (Nat.lt_of_lt_of_le hj h.size) (h.out hF hj)).trans (h.keep j hj hF)
 ·rcases k.foot j hj with h1|h1
  ·exact h.foot j h1
  ·exact Or.inr (Nat.le_trans h.size h1)
theorem Fr.au(h:Below w.heap.size w w'):Fr w w' F F:=⟨h.os,h.tape,h.output,h.size,fun k hk _=>h.block k hk,fun _ hk=>Or.inl hk⟩
theorem Fr.cell(h:Fr w w' F F')(hc:w.cell? p=some v)(hf:¬F p.block):w'.cell? p=some v:=by
 have:=h.keep p.block (World.block_lt_of_cell? _ _ hc) hf
 unfold World.cell? at hc ⊢;rw[this];exact hc
theorem Fr.lq(h:Fr w w' F F'){len:Nat}(hS:dh P T q w a len cap zs)(hf:∀k,k<len->¬F (aG a k).block):dh P T q w' a len cap zs :=
 ⟨hS.hlen,hS.hcap,hS.bd,hS.idx,fun k hk=>h.cell (hS.cell k hk) (hf k hk),fun k hk=>Nat.lt_of_lt_of_le (hS.blk k hk) h.size,hS.nn⟩
theorem gd:(prog.info? 4).map (·.size)=some 1:=by kernel_rfl
def uQ(t:Nat):Value:=.pointer (some ⟨t,0,none⟩)
def iV(x:It):Value:=.agg #[.int .u8 x.op,.int .u8 x.p,.int .i64 x.a,.int .i64 x.b]
theorem vP{e:Nat}(h:w.ownsRow base e size v n xs):∀k,v.ownBlock=some k->k<w.heap.size:=by
 intro k hk;rcases h.2 with⟨rfl,_⟩|⟨g,cap,cur,rfl,_,hcell,_⟩
 ·cases hk
 ·injection hk with hk
  dsimp only at hk
  subst hk;exact(lC hcell).1
theorem Da{w:World}{ops:Array Oper}{rest:List Oper}{a:Act}{Q:Exit->Act->World->Prop}{E:TypeId}{z:Value}{bt:Nat}(hu:prog.underlying T=some (.slice E))(hin:(prog.info? E).map (fun i=>(i.zero,i.size,i.bytes))=some (some z,1,bt))(hzs:z.cells.size=1)(hbt:bt<=1000)(hgd:o.guard=none)(s x:Operand)
  (ho:o.op=.call { callee:=.builtin .append,args:=#[s,x],argTypes:=#[T,T] }) (base:Nat)
  (v:Value) (n:Nat) (xs:List Value) (y:Value) (g:Nat) (hs:a.eval s=v) (hx:a.eval x=.slice (some ⟨g,0,none⟩) 1 1) (hown:w.ownsRow base E 1 v n xs)
  (hB:w.cell? ⟨g,0,none⟩=some y) (h1:y.oneCell'=true) (hn:n<=1000000) (hbase:base<=w.heap.size)
  (h:∀v' w',w'.ownsRow base E 1 v' (n+1) (xs++[y])->w.grownBy w' v.ownBlock->(v'.ownBlock=v.ownBlock\/v'.ownBlock=some w.heap.size)->wpList prog ops Q rest (a.put o.dst v') w'):wpList prog ops Q (o::rest) a w:=by
 obtain⟨i,hi,hz0,hz1,hz2⟩:=info_parts hin;have hb:(n+1)*bt<=(1000000+1)*1000:=Nat.mul_le_mul (by omega) hbt
 refine wpList_append_own_at w hgd s x T ho base E i _ 1 bt hu hi hz0 hz1 hz2 hzs (by decide) v n _ hs hown ⟨g,0,none⟩ 1 1 [y] hx rfl ?_ ?_ (by unfold maxLen;omega) (by omega) hbase ?_
 ·intro j u hj
  match j with
  | 0=>simp at hj;rw[<-hj,qi];exact hB
  |j+1=>simp at hj
 ·intro u hu'
  simp at hu'
  subst hu';exact h1
 ·intro v' w' e1 e2 _ e3
  exact h v' w' e1 e2 e3
def kF(x:It):Prop:=x.op<256/\x.p<256/\-1<=x.a/\x.a<100000000/\-1<=x.b/\x.b<100000000
def yV(x:It):Lit:=.string (keyBytes [.int .u8 x.op,.int .u8 x.p,.int .i64 x.a,.int .i64 x.b])
theorem Db:laidOutB prog=true:=by kernel_rfl
theorem Dm:prog.keyType 113=true:=by kernel_rfl
theorem Ug:Keyed prog 113:=Keyed.of_law (deep_law_laid Db (m:=3) (by omega) (of_decide_eq_true (by kernel_rfl)) (by kernel_rfl) (by kernel_rfl))
theorem Ds:∃n,prog.types.size+1=n+2:=⟨prog.types.size-1,by have:0<prog.types.size:=of_decide_eq_true (by kernel_rfl);omega⟩
theorem DG:prog.cellsOf 113=4:=by kernel_rfl
theorem DO:prog.cellsOf 40=1:=by kernel_rfl
theorem D3:prog.cellsOf 5=1:=by kernel_rfl
theorem D4:prog.cellsOf 3=1:=by kernel_rfl
theorem OG(x:It)(h:kF x):keyOf prog 113 (iV x)=some (yV x):=by
 obtain⟨h1,h2,h3,h4,h5,h6⟩:=h;obtain⟨n,hn⟩:=Ds;have w1:(Lit.int .u8 x.op).wf=true:=WalkArith.wf_u8 (by omega)
 have w2:(Lit.int .u8 x.p).wf=true:=WalkArith.wf_u8 (by omega)
 have w3:(Lit.int .i64 x.a).wf=true:=WalkArith.wf_i64 (by omega)
 have w4:(Lit.int .i64 x.b).wf=true:=WalkArith.wf_i64 (by omega)
 unfold keyOf iV yV;rw[underlying113,hn];simp[Dm,Value.formed,underlying113,DG,Value.cells,Program.keyLits,DO,D3,D4,underlying40,underlying5,underlying3,w1,w2,w3,w4]
theorem Eg{y:It}(h:iV x=iV y):x=y:=by
 unfold iV at h;obtain⟨a,b,c,d⟩:=x;obtain⟨a',b',c',d'⟩:=y;simp at h
 obtain⟨h1,h2,h3,h4⟩:=h;simp only[It.mk.injEq]
 omega
theorem gg{y:It}(hx:kF x)(hy:kF y)(h:yV x=yV y):x=y :=
 Eg (Ug.inj (OG x hx) (by rw[h];exact OG y hy))
theorem WQ(x:It):WideAt.IsKeyLit (yV x):=trivial
def dR(w:World)(b n:Nat)(f:It->Option Nat):Prop :=
 ∃D:DataW Unit,w.ownsMap prog 113 (plainElem prog 3) b n D/\Tidy D/\Maps.size D=n/\∀x,kF x->has D (yV x)=(f x).isSome/\∀j,f x=some j->D.atKey (yV x) (.lit (.int .i64 0))=.lit (.int .i64 j)
theorem dR.lt(h:dR w b n f):b<w.heap.size:=by
 obtain⟨D,h,_⟩:=h;exact h.lt
theorem dR.far(h:dR w b n f)(hb:w'.heap[b]? =w.heap[b]?):dR w' b n f:=by
 obtain⟨D,⟨es,clock,h1,h2⟩,r⟩:=h;exact⟨D,⟨es,clock,hb.trans h1,h2⟩,r⟩
theorem dR.isMap(h:dR w b n f):∃es c,w.heap[b]? =some (.map es c):=by
 obtain⟨D,⟨es,clock,h1,h2⟩,r⟩:=h;exact⟨es,clock,h1⟩
theorem dR.alike{g:It->Option Nat}(h:dR w b n f)(hg:∀x,kF x->f x=g x):dR w b n g:=by
 obtain⟨D,h1,h2,h3,h4⟩:=h;exact⟨D,h1,h2,h3,fun x hx=>by rw[<-hg x hx];exact h4 x hx⟩
theorem gl(w:World):dR (w.alloc (.map #[] 0)) w.heap.size 0 (fun _=>none) :=
 ⟨.map [],World.ownsMap_made _ _ _ _,tidy_empty,rfl,fun x _=>⟨rfl,fun j hj=>by cases hj⟩⟩
theorem Ek(w:World):(zeroValue 3).run prog w=.ok (.int .i64 0) w:=by kernel_rfl
theorem dR.look(h:dR w b n f)(hx:kF x):
  (Instr.lookup 83 (.map (some b)) (iV x) true).run prog w=.ok (.tuple #[.int .i64 (((f x).getD 0:Nat):Int),.bool (f x).isSome]) w:=by
 obtain⟨D,h1,h2,h3,h4⟩:=h;obtain⟨hh,ha⟩:=h4 x hx;obtain⟨v,ps,hrun,hv⟩:=h1.look_ok Ug underlying83 (Ek w) (plainElem_int underlying3 (by decide)) (OG x hx)
 obtain⟨c,rfl,hc,hwc⟩:=plainElem_int_inv underlying3 hv;have hc':D.atKey (yV x) (.lit (.int .i64 0))=.lit (.int .i64 c):=congrArg Prod.fst hc;rw[hrun,hh]
 cases hf:f x with
 |none=>
  rw[hf]at hh;rw[atKey_of_not_has hh]at hc';injection hc' with hc';injection hc' with _ hc';subst hc'
  rfl
 |some j=>
  rw[ha j hf]at hc';injection hc' with hc';injection hc' with _ hc';subst hc'
  rfl
theorem dR.put{w:World}{b n:Nat}{f:It->Option Nat}(h:dR w b n f)(hn:n<=100000000){x:It}(hx:kF x)(hf:f x=none)(j:Nat)(hj:j<=100000000):
  ∃w',(Instr.mapUpdate 83 (.map (some b)) (iV x) (.int .i64 j)).run prog w=.ok () w'/\dR w' b (n+1) (fun y=>if y=x then some j else f y)/\w.grownBy w' (some b):=by
 obtain⟨D,h1,h2,h3,h4⟩:=h;obtain⟨hh,_⟩:=h4 x hx;rw[hf]at hh;obtain⟨w',hrun,hown,hg⟩:=h1.update Ug underlying83 (by unfold maxLen;omega) (OG x hx) (plainElem_int (a:=(j:Int)) underlying3 (WalkArith.wf_i64 (by omega)))
 refine⟨w',hrun,⟨_,hown,h2.put (WQ x) _,?_,fun y hy=>?_⟩,hg⟩
 ·rw[size_put h2,hh,h3];rfl
 ·dsimp only
  by_cases e:y=x
  ·subst e
   rw[if_pos rfl];refine⟨has_put_same h2.isMap (WQ y) _,fun i hi=>?_⟩
   injection hi with hi;subst hi;exact atKey_put_same h2.isMap (WQ y) _ _
  ·have ne:yV y≠yV x:=fun he=>e (gg hy hx he)
   rw[if_neg e,has_put_other ne];refine⟨(h4 y hy).1,fun i hi=>?_⟩
   rw[atKey_put_other ne];exact(h4 y hy).2 i hi
theorem dR.drop{w:World}{b n:Nat}{f:It->Option Nat}(h:dR w b n f){x:It}(hx:kF x)(hf:(f x).isSome=true)(ty:TypeId):
  ∃w',(Builtin.delete_ #[83,113] ty #[.map (some b),iV x]).run prog w=.ok (.tuple #[]) w'/\dR w' b (n-1) (fun y=>if y=x then none else f y)/\w.grownBy w' (some b):=by
 obtain⟨D,h1,h2,h3,h4⟩:=h;obtain⟨hh,_⟩:=h4 x hx;rw[hf]at hh;obtain⟨w',hrun,hown,ht⟩:=h1.drop Ug underlying83 (OG x hx) ty
 have hsz:Maps.size (D.del (yV x))=n-1:=by
  have:=size_del (k:=yV x) h2
  rw[hh]at this;simp at this
  omega
 have hown':w'.ownsMap prog 113 (plainElem prog 3) b (n-1) (D.del (yV x)):=by
  obtain⟨es,clock,g1,g2,g3,g4⟩:=hown;refine⟨es,clock,g1,g2,?_,g4⟩
  rw[<-hsz,g4];simp[Maps.size,length_sorted]
 refine⟨w',hrun,⟨_,hown',h2.del _,hsz,fun y hy=>?_⟩,ht.grown⟩
 dsimp only
 by_cases e:y=x
 ·subst e
  rw[if_pos rfl];exact⟨has_del_same,fun i hi=>by cases hi⟩
 ·have ne:yV y≠yV x:=fun he=>e (gg hy hx he)
  rw[if_neg e,has_del_other ne];refine⟨(h4 y hy).1,fun i hi=>?_⟩
  rw[atKey_del_other ne];exact(h4 y hy).2 i hi
def encI(l:List It):List Value:=l.flatMap fun x=>[.int .u8 x.op,.int .u8 x.p,.int .i64 x.a,.int .i64 x.b]
theorem gm(x:It)(l:List It):encI (x::l)=.int .u8 x.op :: .int .u8 x.p :: .int .i64 x.a :: .int .i64 x.b::encI l:=rfl
theorem gn(xs ys:List It):encI (xs++ys)=encI xs++encI ys:=by simp[encI]
theorem WR:∀l:List It,(encI l).length=l.length*4
 | []=>rfl
 |t::ts=>by rw[gm];simp[WR ts];omega
theorem Uh:∀(l:List It)(k:Nat)(h:k<l.length),(encI l)[4*k]? =some (.int .u8 (l[k].op:Int))/\(encI l)[4*k+1]? =some (.int .u8 (l[k].p:Int))/\(encI l)[4*k+2]? =some (.int .i64 l[k].a)/\(encI l)[4*k+3]? =some (.int .i64 l[k].b)
 | [],k,h=>absurd h (by simp)
 |t::ts,0,_=>⟨rfl,rfl,rfl,rfl⟩
 |t::ts,k+1,h=>by
  have:=Uh ts k (by simpa using h)
  rw[gm,show 4*(k+1)=4*k+1+1+1+1 by omega,show 4*k+1+1+1+1+1=(4*k+1)+1+1+1+1 by omega,show 4*k+1+1+1+1+2=(4*k+2)+1+1+1+1 by omega,show 4*k+1+1+1+1+3=(4*k+3)+1+1+1+1 by omega]
  simpa using this
theorem EA(l:List It)(n:Nat):(encI l).take (n*4)=encI (l.take n):=by
 by_cases h:n<=l.length
 ·have e:encI l=encI (l.take n)++encI (l.drop n):=by rw[<-gn,List.take_append_drop]
  have hl:(encI (l.take n)).length=n*4:=by rw[WR,List.length_take,Nat.min_eq_left h]
  rw[e,<-hl,List.take_left]
 ·rw[List.take_of_length_le (by rw[WR];omega),List.take_of_length_le (by omega)]
theorem EB(x:It):∀u∈encI [x],u.oneCell'=true:=by
 intro u hu;simp[encI]at hu
 rcases hu with rfl|rfl|rfl|rfl<;>rfl
theorem LZ:(prog.info? 113).map (·.size)=some 4:=by kernel_rfl
theorem EV:(prog.info? 113).map (fun i=>(i.zero,i.size,i.bytes))=some (some (.agg #[.int .u8 0,.int .u8 0,.int .i64 0,.int .i64 0]),4,24):=by kernel_rfl
def gI(aj:List It)(x:It):Option Nat:=aj.findIdx? (· = x)
theorem L8(hn:aj.Nodup):gI aj x=some j↔aj[j]? =some x:=by
 unfold gI;rw[List.findIdx?_eq_some_iff_getElem,List.getElem?_eq_some_iff]
 constructor
 ·rintro⟨hj,h,_⟩
  exact⟨hj,by simpa using h⟩
 ·rintro⟨hj,h⟩
  refine⟨hj,by simpa using h,fun i hi=>?_⟩
  intro he;have he':aj[i]=x:=by simpa using he
  have:=(List.getElem_inj hn).1 (he'.trans h.symm)
  omega
theorem Fa:gI aj x=none↔x ∉ aj:=by
 unfold gI;rw[List.findIdx?_eq_none_iff]
 constructor
 ·intro h hx
  simpa using h x hx
 ·intro h y hy
  simp
  rintro rfl
  exact h hy
theorem E0(h:gI aj x=some j):j<aj.length:=by
 unfold gI at h;exact(List.findIdx?_eq_some_iff_getElem.1 h).1
structure iR(w:World)(F:Nat->Prop)(t:Nat)(aj:List It):Prop where
 nd:aj.Nodup
 few:aj.length<=4096
 ok:∀x∈aj,kF x
 ex:∃v mb,w.heap[t]? =some (.cells #[uQ t,v,.map (some mb)] 141 (0,0))/\w.ownsRow 0 113 4 v aj.length (encI aj)/\dR w mb aj.length (gI aj)/\∀k,F k↔(k=t\/k=mb\/v.ownBlock=some k)
theorem iR.lt(h:iR w F t aj):∀k,F k->k<w.heap.size:=by
 obtain⟨v,mb,h1,h2,h3,h4⟩:=h.ex;intro k hk;rcases (h4 k).1 hk with rfl|rfl|hk
 ·exact(lC h1).1
 ·exact h3.lt
 ·exact vP h2 k hk
theorem qz{e:Nat}(h:w.ownsRow base e size v n xs)(hb:∀k,v.ownBlock=some k->w'.heap[k]? =w.heap[k]?):w'.ownsRow base e size v n xs:=by
 obtain⟨hl,h⟩:=h;refine⟨hl,h.imp id ?_⟩
 rintro⟨g,cap,cur,rfl,hg,hcell,r⟩
 exact⟨g,cap,cur,rfl,hg,(hb g rfl).trans hcell,r⟩
theorem iR.far(h:iR w F t aj)(hb:∀k,F k->w'.heap[k]? =w.heap[k]?):iR w' F t aj:=by
 obtain⟨v,mb,h1,h2,h3,h4⟩:=h.ex;exact⟨h.nd,h.few,h.ok,v,mb,(hb t ((h4 t).2 (Or.inl rfl))).trans h1,qz h2 (fun k hk=>hb k ((h4 k).2 (Or.inr (Or.inr hk)))),h3.far (hb mb ((h4 mb).2 (Or.inr (Or.inl rfl)))),h4⟩
theorem iR.up(h:iR w F t aj)(hb:Below w.heap.size w w'):iR w' F t aj:=h.far fun k hk=>hb.block k (h.lt k hk)
theorem Fr.same(hb:Below w.heap.size w w'):Fr w w' F F:=⟨hb.os,hb.tape,hb.output,hb.size,fun k hk _=>hb.block k hk,fun _ hk=>Or.inl hk⟩
structure lT(w:World)(t:Nat)(a:Option Addr)(n cap mb:Nat)(aj:List It):Prop where
 hn:aj.length=n
 hc:n<=cap
 bd:cap<=maxLen
 nn:a=none->cap=0
 blk:w.heap[t]? =some (.cells #[uQ t,.slice a n cap,.map (some mb)] 141 (0,0))
 row:w.ownsRow 0 113 4 (.slice a n cap) n (encI aj)
 num:dR w mb n (gI aj)
theorem iR.read(h:iR w F t aj):∃a cap mb,lT w t a aj.length cap mb aj/\∀k,F k↔(k=t\/k=mb\/(Value.slice a aj.length cap).ownBlock=some k):=by
 obtain⟨v,mb,h1,h2,h3,h4⟩:=h.ex;rcases h2.2 with⟨rfl,e0⟩|⟨g,cap,cur,rfl,_,_,hnc,hcm,_⟩
 ·obtain rfl:aj=[]:=List.eq_nil_of_length_eq_zero e0
  exact⟨none,0,mb,⟨rfl,bZ,Nat.zero_le _,fun _=>rfl,h1,h2,h3⟩,h4⟩
 ·exact⟨some ⟨g,0,none⟩,cap,mb,⟨rfl,hnc,hcm,fun e=>(by cases e),h1,h2,h3⟩,h4⟩
theorem lT.c0(h:lT w t a n cap mb aj):w.cell? ⟨t,0,none⟩=some (.pointer (some ⟨t,0,none⟩)):=qc h.blk 0
theorem lT.c1(h:lT w t a n cap mb aj):w.cell? ⟨t,1,none⟩=some (.slice a n cap):=qc h.blk 1
theorem lT.c2(h:lT w t a n cap mb aj):w.cell? ⟨t,2,none⟩=some (.map (some mb)):=qc h.blk 2
theorem qU{s:Nat}(h:(P.info? e).map (·.size)=some s)(w:World):(sizeOf e).run P w=.ok s w:=by
 cases hq:P.info? e with
 |none=>simp[hq]at h
 |some i=>simp[hq]at h;simp[sizeOf,typeInfo,hq,h]
theorem lT.at(h:lT w t a n cap mb aj)(k:Nat)(hk:k<aj.length):
  ∃g o,(∀w',(Instr.indexAt 82 (.slice a n cap) (.int .i64 k)).run prog w'=.ok (.pointer (some ⟨g,o,none⟩)) w')/\w.cell? ⟨g,o,none⟩=some (.int .u8 (aj[k].op:Int))/\w.cell? ⟨g,o+1,none⟩=some (.int .u8 (aj[k].p:Int))/\w.cell? ⟨g,o+2,none⟩=some (.int .i64 aj[k].a)/\w.cell? ⟨g,o+3,none⟩=some (.int .i64 aj[k].b):=by
 have hn:=h.hn;rcases h.row.2 with⟨e,e0⟩|⟨g,cap',cur,e,_,hcell,hnc,_,hsz,htk⟩
 ·omega
 ·injection e with e1 _ e3
  subst e1 e3
  have key:∀j,j<n*4->w.cell? ⟨g,j,none⟩=(encI aj)[j]? := fun j hj=>by
   rw[<-htk,List.getElem?_take,if_pos hj];simp[World.cell?,hcell]
  have hkn:k<n:=by omega
  obtain⟨q0,q1,q2,q3⟩:=Uh aj k hk;refine⟨g,4*k,fun w'=>?_,?_,?_,?_,?_⟩
  ·simp[Instr.indexAt,run_underlying underlying82,asIntOf,qU LZ,hkn,Result.andThen,go_sem,qi,Nat.mul_comm]
  ·rw[key _ (by omega)];exact q0
  ·rw[key _ (by omega)];exact q1
  ·rw[key _ (by omega)];exact q2
  ·rw[key _ (by omega)];exact q3
theorem E6(op:Nat)(w:World)(hop:op<=23)(h3:op≠3)(h9:op≠9)(h10:op≠10):Calls prog 120 #[.int .u8 op] w fun e w'=>e=.returned (.int .i64 (iH op:Int))/\w'=w:=by
 rcases ND hop with rfl|rfl|rfl|rfl|rfl|rfl|rfl|rfl|rfl|rfl|rfl|rfl|rfl|rfl|rfl|rfl|rfl|rfl|rfl|rfl|rfl|rfl|rfl|rfl<;>first|exact absurd rfl h3|exact absurd rfl h9|exact absurd rfl h10 |
 ·go_enter func120,ntmps120
  go_wp2;go_ret
  exact⟨rfl,rfl⟩
theorem E7 : ∃ j, prog.info? 141 = some j := by
  cases h : prog.info? 141 with
  |some j=> exact ⟨j, rfl⟩
  | none => exact absurd h (by have : (prog.info? 141).isSome = true := by kernel_rfl
                               intro e; rw [e] at this; cases this)
theorem E9(a:Addr)(w:World):(binOp .eql 118 (.pointer (some a)) (.pointer (some a))).run prog w=.ok (.bool true) w:=by
 obtain⟨j,hj⟩:=E7;exact run_eql_ptr_same w a underlying118 hj
theorem WS(h:lT w t a n cap mb aj):Calls prog 92 #[.pointer (some ⟨t,0,none⟩)] w fun e w'=>e=.returned (.bool true)/\w'=w:=by
 have c0:=h.c0;have hp:=fun w=>E9 ⟨t,0,none⟩ w
 clear h;go_enter func92,ntmps92
 go_wp2;go_ret
 exact⟨rfl,rfl⟩
theorem Ff(w:World)(t:Nat)(ht:t=w.heap.size+1):iR ((w.alloc (.map #[] 0)).alloc (.cells #[.pointer (some ⟨t,0,none⟩),.slice none 0 0,.map (some w.heap.size)] 141)) (fun k=>k=t\/k=w.heap.size) t []:=by
 have h1:((w.alloc (.map #[] 0)).alloc (.cells #[.pointer (some ⟨t,0,none⟩),.slice none 0 0,.map (some w.heap.size)] 141)).heap[t]? =some (.cells #[.pointer (some ⟨t,0,none⟩),.slice none 0 0,.map (some w.heap.size)] 141 (0,0)):=by
  have:=(dO (w.alloc (.map #[] 0)) (.cells #[.pointer (some ⟨t,0,none⟩),.slice none 0 0,.map (some w.heap.size)] 141)).1
  rw[show (w.alloc (.map #[] 0)).heap.size=t by simp;omega]at this
  exact this
 have h2:dR ((w.alloc (.map #[] 0)).alloc (.cells #[.pointer (some ⟨t,0,none⟩),.slice none 0 0,.map (some w.heap.size)] 141)) w.heap.size 0 (gI []):=((gl w).far ((qd (w.alloc (.map #[] 0)) _).block w.heap.size (by simp))).alike fun x _=>rfl
 refine⟨by simp,by simp,fun x hx=>(by simp at hx),.slice none 0 0,w.heap.size,h1,⟨rfl,Or.inl ⟨rfl,rfl⟩⟩,h2,fun k=>?_⟩
 constructor
 ·rintro (h|h)
  ·exact Or.inl h
  ·exact Or.inr (Or.inl h)
 ·rintro (h|h|h)
  ·exact Or.inl h
  ·exact Or.inr h
  ·cases h
theorem qbd(w:World):Calls prog 69 #[] w fun e w'=>∃t F,e=.returned (uQ t)/\iR w' F t []/\(∀k,F k->w.heap.size<=k)/\Below w.heap.size w w':=by
 have hmm:=@run_makeMap prog;go_enter func69,ntmps69
 go_wp2;go_ret
 refine⟨w.heap.size+1,_,rfl,Ff w _ rfl,fun k hk=>?_,?_⟩
 ·rcases hk with rfl|rfl
  ·omega
  ·exact Nat.le_refl _
 ·exact qe (qd w _) (qd _ _)
theorem Fo(h:iR w F t aj):Calls prog 71 #[.pointer (some ⟨t,0,none⟩)] w fun e w'=>e=.returned (.int .i64 aj.length)/\w'=w:=by
 obtain⟨a,cap,mb,hr,_⟩:=h.read;have c1:=hr.c1;have hm:=WS hr;clear h hr;go_enter func71,ntmps71
 go_wp2_with (go_at_call 92;refine hm.mono ?_;rintro e w' ⟨rfl,rfl⟩)
 go_ret
 exact⟨rfl,rfl⟩
theorem Ft(h:lT w t a n cap mb aj)(i:Nat)(hi:i<n):Calls prog 98 #[.pointer (some ⟨t,0,none⟩),.int .i64 i] w fun e w'=>e=.returned (.int .i64 0)/\w'=w:=by
 have c1:=h.c1;have hm:=WS h;have h1:¬(n:Int)<=(i:Int):=by omega
 have h2:¬(i:Int)<0:=by omega
 clear h;go_enter func98,ntmps98
 go_wp2_with (go_at_call 92;refine hm.mono ?_;rintro e w' ⟨rfl,rfl⟩)
 go_ret
 exact⟨rfl,rfl⟩
theorem lT.up(h:lT w t a n cap mb aj)(hb:Below w.heap.size w w'):lT w' t a n cap mb aj :=
 ⟨h.hn,h.hc,h.bd,h.nn,(hb.block t (lC h.blk).1).trans h.blk,qC h.row hb,h.num.far (hb.block mb h.num.lt)⟩
theorem FA(h:iR w F t aj)(i:Nat)(x:It)(hx:aj[i]? =some x):Calls prog 72 #[.pointer (some ⟨t,0,none⟩),.int .i64 i] w fun e w'=>e=.returned (.tuple #[iV x,.int .i64 0])/\Below w.heap.size w w':=by
 obtain⟨a,cap,mb,hr,_⟩:=h.read;obtain⟨hi,rfl⟩:=List.getElem?_eq_some_iff.1 hx;have hb:=qd w (.cells #[.int .u8 0,.int .u8 0,.int .i64 0,.int .i64 0] 113);have hr1:=hr.up hb;have c1:=hr1.c1;have hf:=Ft hr1 i hi;obtain⟨g,o,FG,q0,q1,q2,q3⟩:=hr1.at i hi;generalize aj[i]=x at *;obtain⟨op,p,xa,xb⟩:=x;dsimp only at q0 q1 q2 q3
 clear h hr hr1;go_enter func72,ntmps72
 go_wp2_with (go_at_call 98;refine hf.mono ?_;rintro e w' ⟨rfl,rfl⟩)
 refine bodyPost_ret (v:=.tuple #[.agg #[.int .u8 op,.int .u8 p,.int .i64 xa,.int .i64 xb],.int .i64 0]) (by simp[results,results72,go_sem]) rfl ⟨rfl,qd _ _⟩
def yX(w:World)(a:Option Addr)(len cap:Nat)(ns:List Nat):Prop:=dh prog 71 .i64 w a len cap (ns.map fun n:Nat=>(n:Int))
theorem yX.at{len:Nat}{ns:List Nat}(h:yX w a len cap ns)(k:Nat)(hk:k<ns.length):∃g o s,(∀w',(Instr.indexAt 71 (.slice a len cap) (.int .i64 k)).run prog w'=.ok (.pointer (some ⟨g,o,s⟩)) w')/\w.cell? ⟨g,o,s⟩=some (.int .i64 (ns[k]:Int)):=by
 have hl:=h.hlen;rw[List.length_map]at hl;have h1:=fun w'=>h.idx len k w' (by omega) bZ
 have h2:=h.cell k (by omega)
 rw[show (ns.map fun n:Nat=>(n:Int)).getD k 0=(ns[k]:Int) by simp[List.getD,hk]]at h2
 generalize aG a k=y at *;obtain⟨g,o,s⟩:=y;exact⟨g,o,s,h1,h2⟩
theorem yX.up{w w':World}{a:Option Addr}{len cap:Nat}{ns:List Nat}(h:yX w a len cap ns)(hb:Below w.heap.size w w'):yX w' a len cap ns:=dh.up h hb
theorem FO(op p:Nat)(a:Option Addr)(len cap:Nat)(ns:List Nat)(w:World)(hN:yX w a len cap ns)(hl:len<=2):Calls prog 121 #[.agg #[.int .u8 op,.int .u8 p],.slice a len cap] w fun e w'=>e=.returned (iV (bg (op,p) ns))/\Below w.heap.size w w':=by
 have hlen:ns.length=len:=by have:=hN.hlen;rwa [List.length_map]at this
 subst hlen;have hb:∀u v:Int,Below w.heap.size w (((w.alloc (.cells #[.int .u8 op,.int .u8 p] 42)).alloc (.cells #[.int .u8 0,.int .u8 0,.int .i64 0,.int .i64 0] 113)).alloc (.cells #[.int .u8 op,.int .u8 p,.int .i64 u,.int .i64 v] 113)):=fun u v=>qe (qe (qd w _) (qd _ _)) (qd _ _)
 have fin:∀u v:Int,Below w.heap.size w (((w.alloc (.cells #[.int .u8 op,.int .u8 p] 42)).alloc (.cells #[.int .u8 op,.int .u8 p,.int .i64 u,.int .i64 v] 113)).alloc (.cells #[.int .u8 op,.int .u8 p,.int .i64 u,.int .i64 v] 113)):=fun u v=>qe (qe (qd w _) (qd _ _)) (qd _ _)
 match ns,hl,hN with
 | [],_,hN=>
  clear hN hb;go_enter func121,ntmps121
  go_wp2;refine bodyPost_ret (v:=.agg #[.int .u8 op,.int .u8 p,.int .i64 (-1),.int .i64 (-1)]) (by simp[results,results121,go_sem]) rfl ⟨rfl,fin _ _⟩
 | [x],_,hN=>
  obtain⟨g,o,s,hi,hc⟩:=(hN.up (hb (-1) (-1))).at 0 (by simp)
  have hi':∀w',(Instr.indexAt 71 (.slice a 1 cap) (.int .i64 0)).run prog w'=.ok (.pointer (some ⟨g,o,s⟩)) w':=hi;dsimp only[List.getElem_cons_zero]at hc
  clear hN hb hi;go_enter func121,ntmps121
  go_wp2;refine bodyPost_ret (v:=.agg #[.int .u8 op,.int .u8 p,.int .i64 x,.int .i64 (-1)]) (by simp[results,results121,go_sem]) rfl ⟨rfl,fin _ _⟩
 | [x,y],_,hN=>
  obtain⟨g,o,s,hi,hc⟩:=(hN.up (hb (-1) (-1))).at 0 (by simp)
  obtain⟨g2,o2,s2,hi2,hc2⟩:=(hN.up (hb x (-1))).at 1 (by simp)
  have hi':∀w',(Instr.indexAt 71 (.slice a 2 cap) (.int .i64 0)).run prog w'=.ok (.pointer (some ⟨g,o,s⟩)) w':=hi;have FR:∀w',(Instr.indexAt 71 (.slice a 2 cap) (.int .i64 1)).run prog w'=.ok (.pointer (some ⟨g2,o2,s2⟩)) w':=hi2;dsimp only[List.getElem_cons_zero,List.getElem_cons_succ]at hc hc2
  clear hN hb hi hi2;go_enter func121,ntmps121
  go_wp2;refine bodyPost_ret (v:=.agg #[.int .u8 op,.int .u8 p,.int .i64 x,.int .i64 y]) (by simp[results,results121,go_sem]) rfl ⟨rfl,fin _ _⟩
 |_::_::_::_,h,_=>simp at h
def xK(x:ByteArray):Prop:=x.size<=100000000
def zX(x:ByteArray):Lit:=.string x.data.toList
theorem WT:Keyed prog 9:=string_keyed underlying9
theorem WU(x:ByteArray)(h:xK x):keyOf prog 9 (.string x)=some (zX x):=WideMaps.keyOf_string_mk underlying9 (by unfold xK at h;unfold maxLen;omega)
theorem gw{x y:ByteArray}(h:zX x=zX y):x=y:=by
 injection h with h;obtain⟨⟨x⟩⟩:=x;obtain⟨⟨y⟩⟩:=y;simp at h
 rw[h]
theorem WV(x:ByteArray):WideAt.IsKeyLit (zX x):=trivial
def jA(w:World)(b n:Nat)(f:ByteArray->Option Nat):Prop :=
 ∃D:DataW Unit,w.ownsMap prog 9 (plainElem prog 3) b n D/\Tidy D/\Maps.size D=n/\∀x,xK x->has D (zX x)=(f x).isSome/\∀j,f x=some j->D.atKey (zX x) (.lit (.int .i64 0))=.lit (.int .i64 j)
theorem jA.lt{f:ByteArray->Option Nat}(h:jA w b n f):b<w.heap.size:=by
 obtain⟨D,h,_⟩:=h;exact h.lt
theorem jA.far{f:ByteArray->Option Nat}(h:jA w b n f)(hb:w'.heap[b]? =w.heap[b]?):jA w' b n f:=by
 obtain⟨D,⟨es,clock,h1,h2⟩,r⟩:=h;exact⟨D,⟨es,clock,hb.trans h1,h2⟩,r⟩
theorem jA.isMap{f:ByteArray->Option Nat}(h:jA w b n f):∃es c,w.heap[b]? =some (.map es c):=by
 obtain⟨D,⟨es,clock,h1,h2⟩,r⟩:=h;exact⟨es,clock,h1⟩
theorem jA.alike{f g:ByteArray->Option Nat}(h:jA w b n f)(hg:∀x,xK x->f x=g x):jA w b n g:=by
 obtain⟨D,h1,h2,h3,h4⟩:=h;exact⟨D,h1,h2,h3,fun x hx=>by rw[<-hg x hx];exact h4 x hx⟩
theorem Ge(w:World):jA (w.alloc (.map #[] 0)) w.heap.size 0 (fun _=>none) :=
 ⟨.map [],World.ownsMap_made _ _ _ _,tidy_empty,rfl,fun x _=>⟨rfl,fun j hj=>by cases hj⟩⟩
theorem Gk(w:World):(zeroValue 3).run prog w=.ok (.int .i64 0) w:=by kernel_rfl
theorem jA.look{f:ByteArray->Option Nat}(h:jA w b n f){x:ByteArray}(hx:xK x):
  (Instr.lookup 87 (.map (some b)) (.string x) true).run prog w=.ok (.tuple #[.int .i64 (((f x).getD 0:Nat):Int),.bool (f x).isSome]) w:=by
 obtain⟨D,h1,h2,h3,h4⟩:=h;obtain⟨hh,ha⟩:=h4 x hx;obtain⟨v,ps,hrun,hv⟩:=h1.look_ok WT underlying87 (Gk w) (plainElem_int underlying3 (by decide)) (WU x hx)
 obtain⟨c,rfl,hc,hwc⟩:=plainElem_int_inv underlying3 hv;have hc':D.atKey (zX x) (.lit (.int .i64 0))=.lit (.int .i64 c):=congrArg Prod.fst hc;rw[hrun,hh]
 cases hf:f x with
 |none=>
  rw[hf]at hh;rw[atKey_of_not_has hh]at hc';injection hc' with hc';injection hc' with _ hc';subst hc'
  rfl
 |some j=>
  rw[ha j hf]at hc';injection hc' with hc';injection hc' with _ hc';subst hc'
  rfl
theorem jA.put{w:World}{b n:Nat}{f:ByteArray->Option Nat}(h:jA w b n f)(hn:n<=4096){x:ByteArray}(hx:xK x)(hf:f x=none)(j:Nat)(hj:j<=4096):
  ∃w',(Instr.mapUpdate 87 (.map (some b)) (.string x) (.int .i64 j)).run prog w=.ok () w'/\jA w' b (n+1) (fun y=>if y=x then some j else f y)/\w.grownBy w' (some b):=by
 obtain⟨D,h1,h2,h3,h4⟩:=h;obtain⟨hh,_⟩:=h4 x hx;rw[hf]at hh;obtain⟨w',hrun,hown,hg⟩:=h1.update WT underlying87 (by unfold maxLen;omega) (WU x hx) (plainElem_int (a:=(j:Int)) underlying3 (WalkArith.wf_i64 (by omega)))
 refine⟨w',hrun,⟨_,hown,h2.put (WV x) _,?_,fun y hy=>?_⟩,hg⟩
 ·rw[size_put h2,hh,h3];rfl
 ·dsimp only
  by_cases e:y=x
  ·subst e
   rw[if_pos rfl];refine⟨has_put_same h2.isMap (WV y) _,fun i hi=>?_⟩
   injection hi with hi;subst hi;exact atKey_put_same h2.isMap (WV y) _ _
  ·have ne:zX y≠zX x:=fun he=>e (gw he)
   rw[if_neg e,has_put_other ne];refine⟨(h4 y hy).1,fun i hi=>?_⟩
   rw[atKey_put_other ne];exact(h4 y hy).2 i hi
theorem jA.drop{w:World}{b n:Nat}{f:ByteArray->Option Nat}(h:jA w b n f){x:ByteArray}(hx:xK x)(hf:(f x).isSome=true)(ty:TypeId):
  ∃w',(Builtin.delete_ #[87,9] ty #[.map (some b),.string x]).run prog w=.ok (.tuple #[]) w'/\jA w' b (n-1) (fun y=>if y=x then none else f y)/\w.grownBy w' (some b):=by
 obtain⟨D,h1,h2,h3,h4⟩:=h;obtain⟨hh,_⟩:=h4 x hx;rw[hf]at hh;obtain⟨w',hrun,hown,ht⟩:=h1.drop WT underlying87 (WU x hx) ty
 have hsz:Maps.size (D.del (zX x))=n-1:=by
  have:=size_del (k:=zX x) h2
  rw[hh]at this;simp at this
  omega
 have hown':w'.ownsMap prog 9 (plainElem prog 3) b (n-1) (D.del (zX x)):=by
  obtain⟨es,clock,g1,g2,g3,g4⟩:=hown;refine⟨es,clock,g1,g2,?_,g4⟩
  rw[<-hsz,g4];simp[Maps.size,length_sorted]
 refine⟨w',hrun,⟨_,hown',h2.del _,hsz,fun y hy=>?_⟩,ht.grown⟩
 dsimp only
 by_cases e:y=x
 ·subst e
  rw[if_pos rfl];exact⟨has_del_same,fun i hi=>by cases hi⟩
 ·have ne:zX y≠zX x:=fun he=>e (gw he)
  rw[if_neg e,has_del_other ne];refine⟨(h4 y hy).1,fun i hi=>?_⟩
  rw[atKey_del_other ne];exact(h4 y hy).2 i hi
theorem GF(op:Nat)(w:World)(hop:op<=23):Calls prog 139 #[.int .u8 op] w fun e w'=>e=.returned (.int .i64 (iH op:Int))/\w'=w:=by
 rcases ND hop with rfl|rfl|rfl|rfl|rfl|rfl|rfl|rfl|rfl|rfl|rfl|rfl|rfl|rfl|rfl|rfl|rfl|rfl|rfl|rfl|rfl|rfl|rfl|rfl <;>
 ·go_enter func139,ntmps139
  go_wp2;go_ret
  exact⟨rfl,rfl⟩
theorem qY(k:Nat)(w:World)(hk:k<=2):Calls prog 141 #[.int .u8 k,.int .u8 0] w fun e w'=>e=.returned (.bool (Au k 0))/\w'=w:=by
 have:k=0\/k=1\/k=2:=by omega
 rcases this with rfl|rfl|rfl <;>
 ·go_enter func141,ntmps141
  go_wp2;go_ret
  exact⟨rfl,rfl⟩
def lU(w:World)(a:Option Addr)(len cap:Nat)(ks:List Nat):Prop:=dh prog 177 .u8 w a len cap (ks.map fun o:Nat=>(o:Int))
theorem yY{x:Nat}(h:lU w a (n+1) cap (x::r)):∃A,(∀w',(Instr.indexAt 177 (.slice a (n+1) cap) (.int .i64 0)).run prog w'=.ok (.pointer (some A)) w')/\w.cell? A=some (.int .u8 x):=⟨aG a 0,fun w'=>dh.idx h (n+1) 0 w' (by omega) bZ,dh.cell h 0 (by omega)⟩
theorem G7{x:Nat}(h:lU w a (n+2) cap (x::y::r)):∃A,(∀w',(Instr.indexAt 177 (.slice a (n+2) cap) (.int .i64 1)).run prog w'=.ok (.pointer (some A)) w')/\w.cell? A=some (.int .u8 y):=⟨aG a 1,fun w'=>dh.idx h (n+2) 1 w' (by omega) bZ,dh.cell h 1 (by omega)⟩
theorem G8(w:World):Calls prog 141 #[.int .u8 0,.int .u8 0] w fun e w'=>e=.returned (.bool true)/\w'=w:=qY 0 w (by decide)
theorem G9(w:World):Calls prog 141 #[.int .u8 1,.int .u8 0] w fun e w'=>e=.returned (.bool true)/\w'=w:=qY 1 w (by decide)
theorem He(w:World):Calls prog 141 #[.int .u8 2,.int .u8 0] w fun e w'=>e=.returned (.bool false)/\w'=w:=qY 2 w (by decide)
def lJ(op:Nat)(ks:List Nat)(w:World)(e:Ending)(w':World):Prop:=e=.returned (.tuple #[.int .u8 (iL op ks:Int),.bool (lI op ks)])/\∃m,w'=w.drewN m
theorem GM(a:Option Addr)(n c:Nat)(w:World):Calls prog 140 #[.int .u8 0,.slice a n c] w (lJ 0 [] w):=by
 go_enter func140,ntmps140
 go_wp2;go_ret2
 exact⟨rfl,0,rfl⟩
theorem GQ(a:Option Addr)(n c:Nat)(w:World):Calls prog 140 #[.int .u8 1,.slice a n c] w (lJ 1 [] w):=by
 go_enter func140,ntmps140
 go_wp2;go_ret2
 exact⟨rfl,0,rfl⟩
theorem G0(a:Option Addr)(n c:Nat)(w:World):Calls prog 140 #[.int .u8 2,.slice a n c] w (lJ 2 [] w):=by
 go_enter func140,ntmps140
 go_wp2;go_ret2
 exact⟨rfl,0,rfl⟩
theorem Ha(a:Option Addr)(n c:Nat)(w:World):Calls prog 140 #[.int .u8 4,.slice a n c] w (lJ 4 [] w):=by
 go_enter func140,ntmps140
 go_wp2;go_ret2
 exact⟨rfl,0,rfl⟩
theorem Hh(a:Option Addr)(n c:Nat)(w:World):Calls prog 140 #[.int .u8 5,.slice a n c] w (lJ 5 [] w):=by
 go_enter func140,ntmps140
 go_wp2;go_ret2
 exact⟨rfl,0,rfl⟩
theorem Hj(a:Option Addr)(c x:Nat)(w:World)(hx:x<=2)(h:lU w a 1 c [x]):Calls prog 140 #[.int .u8 6,.slice a 1 c] w (lJ 6 [x] w):=by
 obtain⟨⟨g0,o0,s0⟩,i0,c0⟩:=yY h;have hi:=fun w'=>qY x w' hx
 clear h;have:x=0\/x=1\/x=2:=by omega
 rcases this with rfl|rfl|rfl <;>
 ·clear hx
  go_enter func140,ntmps140
  go_wp2
  go_quiet (fail)
  go_wp2;go_ret2
  exact⟨rfl,by first|exact⟨0,rfl⟩|exact⟨_,rfl⟩⟩
theorem Hk(a:Option Addr)(c x:Nat)(w:World)(hx:x<=2)(h:lU w a 1 c [x]):Calls prog 140 #[.int .u8 7,.slice a 1 c] w (lJ 7 [x] w):=by
 obtain⟨⟨g0,o0,s0⟩,i0,c0⟩:=yY h;have hi:=fun w'=>qY x w' hx
 clear h;have:x=0\/x=1\/x=2:=by omega
 rcases this with rfl|rfl|rfl <;>
 ·clear hx
  go_enter func140,ntmps140
  go_wp2_with (go_at_call 141;refine (hi _).mono ?_;rintro e w' ⟨rfl,rfl⟩)
  go_ret2
  exact⟨rfl,by first|exact⟨0,rfl⟩|exact⟨_,rfl⟩⟩
theorem Hm(a:Option Addr)(c x:Nat)(w:World)(hx:x<=2)(h:lU w a 1 c [x]):Calls prog 140 #[.int .u8 8,.slice a 1 c] w (lJ 8 [x] w):=by
 obtain⟨⟨g0,o0,s0⟩,i0,c0⟩:=yY h;have hi:=fun w'=>qY x w' hx
 clear h;have:x=0\/x=1\/x=2:=by omega
 rcases this with rfl|rfl|rfl <;>
 ·clear hx
  go_enter func140,ntmps140
  go_wp2_with (go_at_call 141;refine (hi _).mono ?_;rintro e w' ⟨rfl,rfl⟩)
  go_ret2
  exact⟨rfl,by first|exact⟨0,rfl⟩|exact⟨_,rfl⟩⟩
theorem Hn(a:Option Addr)(c x:Nat)(w:World)(hx:x<=2)(h:lU w a 1 c [x]):Calls prog 140 #[.int .u8 19,.slice a 1 c] w (lJ 19 [x] w):=by
 obtain⟨⟨g0,o0,s0⟩,i0,c0⟩:=yY h;have hi:=fun w'=>qY x w' hx
 clear h;have:x=0\/x=1\/x=2:=by omega
 rcases this with rfl|rfl|rfl <;>
 ·clear hx
  go_enter func140,ntmps140
  go_wp2
  go_quiet (fail)
  go_wp2;go_ret2
  exact⟨rfl,by first|exact⟨0,rfl⟩|exact⟨_,rfl⟩⟩
theorem Hv(a:Option Addr)(c x:Nat)(w:World)(hx:x<=2)(h:lU w a 1 c [x]):Calls prog 140 #[.int .u8 20,.slice a 1 c] w (lJ 20 [x] w):=by
 obtain⟨⟨g0,o0,s0⟩,i0,c0⟩:=yY h;have hi:=fun w'=>qY x w' hx
 clear h;have:x=0\/x=1\/x=2:=by omega
 rcases this with rfl|rfl|rfl <;>
 ·clear hx
  go_enter func140,ntmps140
  go_wp2_with (go_at_call 141;refine (hi _).mono ?_;rintro e w' ⟨rfl,rfl⟩)
  go_ret2
  exact⟨rfl,by first|exact⟨0,rfl⟩|exact⟨_,rfl⟩⟩
theorem Is(a:Option Addr)(c x:Nat)(w:World)(hx:x<=2)(h:lU w a 1 c [x]):Calls prog 140 #[.int .u8 23,.slice a 1 c] w (lJ 23 [x] w):=by
 obtain⟨⟨g0,o0,s0⟩,i0,c0⟩:=yY h;have hi:=fun w'=>qY x w' hx
 clear h;have:x=0\/x=1\/x=2:=by omega
 rcases this with rfl|rfl|rfl <;>
 ·clear hx
  go_enter func140,ntmps140
  go_wp2
  go_quiet (fail)
  go_wp2;go_ret2
  exact⟨rfl,by first|exact⟨0,rfl⟩|exact⟨_,rfl⟩⟩
theorem Ix(a:Option Addr)(c x y:Nat)(w:World)(hx:x<=2)(hy:y<=2)(h:lU w a 2 c [x,y]):Calls prog 140 #[.int .u8 11,.slice a 2 c] w (lJ 11 [x,y] w):=by
 obtain⟨⟨g0,o0,s0⟩,i0,c0⟩:=yY h;obtain⟨⟨g1,o1,s1⟩,i1,c1⟩:=G7 h;have h0:=G8;have h1:=G9;have h2:=He;clear h;have hxx:x=0\/x=1\/x=2:=by omega
 have xM:y=0\/y=1\/y=2:=by omega
 rcases hxx with rfl|rfl|rfl<;>rcases xM with rfl|rfl|rfl <;>
 ·clear hx hy
  go_enter func140,ntmps140
  go_wp2_with (go_at_call 141;(with_reducible first|refine (h0 _).mono ?_|refine (h1 _).mono ?_|refine (h2 _).mono ?_);rintro e w' ⟨rfl,rfl⟩)
  go_ret2
  exact⟨rfl,by first|exact⟨0,rfl⟩|exact⟨_,rfl⟩⟩
theorem IA(a:Option Addr)(c x y:Nat)(w:World)(hx:x<=2)(hy:y<=2)(h:lU w a 2 c [x,y]):Calls prog 140 #[.int .u8 12,.slice a 2 c] w (lJ 12 [x,y] w):=by
 obtain⟨⟨g0,o0,s0⟩,i0,c0⟩:=yY h;obtain⟨⟨g1,o1,s1⟩,i1,c1⟩:=G7 h;have h0:=G8;have h1:=G9;have h2:=He;clear h;have hxx:x=0\/x=1\/x=2:=by omega
 have xM:y=0\/y=1\/y=2:=by omega
 rcases hxx with rfl|rfl|rfl<;>rcases xM with rfl|rfl|rfl <;>
 ·clear hx hy
  go_enter func140,ntmps140
  go_wp2_with (go_at_call 141;(with_reducible first|refine (h0 _).mono ?_|refine (h1 _).mono ?_|refine (h2 _).mono ?_);rintro e w' ⟨rfl,rfl⟩)
  go_ret2
  exact⟨rfl,by first|exact⟨0,rfl⟩|exact⟨_,rfl⟩⟩
theorem I0(a:Option Addr)(c x y:Nat)(w:World)(hx:x<=2)(hy:y<=2)(h:lU w a 2 c [x,y]):Calls prog 140 #[.int .u8 15,.slice a 2 c] w (lJ 15 [x,y] w):=by
 obtain⟨⟨g0,o0,s0⟩,i0,c0⟩:=yY h;obtain⟨⟨g1,o1,s1⟩,i1,c1⟩:=G7 h;have h0:=G8;have h1:=G9;have h2:=He;clear h;have hxx:x=0\/x=1\/x=2:=by omega
 have xM:y=0\/y=1\/y=2:=by omega
 rcases hxx with rfl|rfl|rfl<;>rcases xM with rfl|rfl|rfl <;>
 ·clear hx hy
  go_enter func140,ntmps140
  go_wp2_with (go_at_call 141;(with_reducible first|refine (h0 _).mono ?_|refine (h1 _).mono ?_|refine (h2 _).mono ?_);rintro e w' ⟨rfl,rfl⟩)
  go_ret2
  exact⟨rfl,by first|exact⟨0,rfl⟩|exact⟨_,rfl⟩⟩
theorem I3(a:Option Addr)(c x y:Nat)(w:World)(hx:x<=2)(hy:y<=2)(h:lU w a 2 c [x,y]):Calls prog 140 #[.int .u8 16,.slice a 2 c] w (lJ 16 [x,y] w):=by
 obtain⟨⟨g0,o0,s0⟩,i0,c0⟩:=yY h;obtain⟨⟨g1,o1,s1⟩,i1,c1⟩:=G7 h;have h0:=G8;have h1:=G9;have h2:=He;clear h;have hxx:x=0\/x=1\/x=2:=by omega
 have xM:y=0\/y=1\/y=2:=by omega
 rcases hxx with rfl|rfl|rfl<;>rcases xM with rfl|rfl|rfl <;>
 ·clear hx hy
  go_enter func140,ntmps140
  go_wp2_with (go_at_call 141;(with_reducible first|refine (h0 _).mono ?_|refine (h1 _).mono ?_|refine (h2 _).mono ?_);rintro e w' ⟨rfl,rfl⟩)
  go_ret2
  exact⟨rfl,by first|exact⟨0,rfl⟩|exact⟨_,rfl⟩⟩
theorem I6(a:Option Addr)(c x y:Nat)(w:World)(hx:x<=2)(hy:y<=2)(h:lU w a 2 c [x,y]):Calls prog 140 #[.int .u8 17,.slice a 2 c] w (lJ 17 [x,y] w):=by
 obtain⟨⟨g0,o0,s0⟩,i0,c0⟩:=yY h;obtain⟨⟨g1,o1,s1⟩,i1,c1⟩:=G7 h;have h0:=G8;have h1:=G9;have h2:=He;clear h;have hxx:x=0\/x=1\/x=2:=by omega
 have xM:y=0\/y=1\/y=2:=by omega
 rcases hxx with rfl|rfl|rfl<;>rcases xM with rfl|rfl|rfl <;>
 ·clear hx hy
  go_enter func140,ntmps140
  go_wp2_with (go_at_call 141;(with_reducible first|refine (h0 _).mono ?_|refine (h1 _).mono ?_|refine (h2 _).mono ?_);rintro e w' ⟨rfl,rfl⟩)
  go_ret2
  exact⟨rfl,by first|exact⟨0,rfl⟩|exact⟨_,rfl⟩⟩
theorem Jx(a:Option Addr)(c x y:Nat)(w:World)(hx:x<=2)(hy:y<=2)(h:lU w a 2 c [x,y]):Calls prog 140 #[.int .u8 18,.slice a 2 c] w (lJ 18 [x,y] w):=by
 obtain⟨⟨g0,o0,s0⟩,i0,c0⟩:=yY h;obtain⟨⟨g1,o1,s1⟩,i1,c1⟩:=G7 h;have h0:=G8;have h1:=G9;have h2:=He;clear h;have hxx:x=0\/x=1\/x=2:=by omega
 have xM:y=0\/y=1\/y=2:=by omega
 rcases hxx with rfl|rfl|rfl<;>rcases xM with rfl|rfl|rfl <;>
 ·clear hx hy
  go_enter func140,ntmps140
  go_wp2_with (go_at_call 141;(with_reducible first|refine (h0 _).mono ?_|refine (h1 _).mono ?_|refine (h2 _).mono ?_);rintro e w' ⟨rfl,rfl⟩)
  go_ret2
  exact⟨rfl,by first|exact⟨0,rfl⟩|exact⟨_,rfl⟩⟩
theorem JP(a:Option Addr)(c x y:Nat)(w:World)(hx:x<=2)(hy:y<=2)(h:lU w a 2 c [x,y]):Calls prog 140 #[.int .u8 21,.slice a 2 c] w (lJ 21 [x,y] w):=by
 obtain⟨⟨g0,o0,s0⟩,i0,c0⟩:=yY h;obtain⟨⟨g1,o1,s1⟩,i1,c1⟩:=G7 h;have h0:=G8;have h1:=G9;have h2:=He;clear h;have hxx:x=0\/x=1\/x=2:=by omega
 have xM:y=0\/y=1\/y=2:=by omega
 rcases hxx with rfl|rfl|rfl<;>rcases xM with rfl|rfl|rfl <;>
 ·clear hx hy
  go_enter func140,ntmps140
  go_wp2
  go_quiet (fail)
  go_wp2;go_ret2
  exact⟨rfl,by first|exact⟨0,rfl⟩|exact⟨_,rfl⟩⟩
theorem JS(a:Option Addr)(c x y:Nat)(w:World)(hx:x<=2)(hy:y<=2)(h:lU w a 2 c [x,y]):Calls prog 140 #[.int .u8 22,.slice a 2 c] w (lJ 22 [x,y] w):=by
 obtain⟨⟨g0,o0,s0⟩,i0,c0⟩:=yY h;obtain⟨⟨g1,o1,s1⟩,i1,c1⟩:=G7 h;have h0:=G8;have h1:=G9;have h2:=He;clear h;have hxx:x=0\/x=1\/x=2:=by omega
 have xM:y=0\/y=1\/y=2:=by omega
 rcases hxx with rfl|rfl|rfl<;>rcases xM with rfl|rfl|rfl <;>
 ·clear hx hy
  go_enter func140,ntmps140
  go_wp2
  go_quiet (fail)
  go_wp2;go_ret2
  exact⟨rfl,by first|exact⟨0,rfl⟩|exact⟨_,rfl⟩⟩
end Go.Proofs.YtoioiellaomonaaGreatDoor
